/-
  The abstract steps are sound: operations that come more rarely. No program's text.
-/
import Derived.Test.YtpcldndgjmnolaaAbs11
namespace Go.Abs
set_option linter.unusedSimpArgs false
set_option linter.unusedVariables false
set_option linter.unnecessarySimpa false
open Go

section
variable {P : Program} {w0 w : World} {E0 E : Env} {H0 : AHeap} {st : ASt} {a : Act} {o : Oper} {K : ASt → Prop}

theorem ok_copy {t u : TypeId} {x y : Operand} (ho : o.op = .call { callee := .builtin .copy, args := #[x, y], argTypes := #[t, u] })
    (h : copyA P st.heap t (st.eval x) (st.eval y) fun v H => K (ASt.put ⟨st.tmps, H, st.clk⟩ o.dst v)) : OpOk P o st K := by
  unfold copyA at h
  split at h
  · rename_i e size bytes m news hT hel
    obtain ⟨hu, ti, hi, rfl, rfl⟩ := sliceT_some hT
    simp only [hT, Option.map_some, Option.getD_some] at hel
    split at h
    · rename_i k g off n hx
      split at h
      · rename_i B hB
        obtain ⟨⟨hs, hl, hroom⟩, h⟩ := h
        refine opOk_value fun w0 E0 H0 a w E hE => ?_
        have hr := hE.eval x
        rw [hx] at hr
        obtain ⟨A, cap', hvy, _, _, h1, h2⟩ := hE.elems (hE.eval y) hel
        obtain ⟨i, ad, cap, hk, hg, hj, hok, hv, g1, g2, g3, g4⟩ := hE.at_own hB hr
        have hjs : i.size = ti.size := by rw [hok.2.2.1, hs]
        obtain ⟨c, hc⟩ : ∃ c, c = min m n := ⟨_, rfl⟩
        rw [← hc] at h
        have hsz : (sizeOf e).run P w = .ok ti.size w := by simp [sizeOf, typeInfo, hi]
        have hfin : ∀ (cells : Array Value) (w' : World) (hld : (Builtin.firstCells ti.size c (.slice A m cap')).run P w = .ok cells w) (hst : (do if let some a := ad then storeCells a cells.toList : Sem Unit).run P w = .ok () w'),
            (execOp a.eval o).run P w = .ok (.value (.int .i64 c)) w' := by
          intro cells w' hld hst
          simp only [execOp, ho, resolve, invoke, builtin]
          have e1 : Nat.min m n = c := hc.symm
          simp [Builtin.copy_, run_underlying hu, hv, hvy, Builtin.lenOf, hsz, e1, hld, goInt]
          cases ad with
          | none => simp at hst; subst hst; simp
          | some ad0 => simp at hst; simp [hst]
        by_cases hc0 : c * ti.size = 0
        · have hB' : ({ B with cells := B.cells.take off ++ news.take (c * ti.size) ++ B.cells.drop (off + c * ti.size) } : ABlk) = B := by
            rw [hc0]; simp
          have hH : st.heap.set k (some B) = st.heap := by
            obtain ⟨hlt, hget⟩ := List.getElem?_eq_some_iff.1 hk
            rw [← hget]; exact List.set_getElem_self hlt
          rw [hB', hH] at h
          refine ⟨.int .i64 c, w, iv .i64 c, st, E, ?_, hE, RelD.s rfl, h⟩
          refine hfin #[] w ?_ ?_
          · cases A with
            | none => simp [Builtin.firstCells]
            | some a0 =>
              have := run_loadCells_list (P := P) w a0 [] (by simp)
              simpa [Builtin.firstCells, hc0] using this
          · cases ad with
            | none => simp
            | some a0 => simp [storeCells]
        · have hcp : 0 < c := by rcases Nat.eq_zero_or_pos c with h | h; · simp [h] at hc0
                                 · exact h
          have hsp : 0 < ti.size := by rcases Nat.eq_zero_or_pos ti.size with h | h; · simp [h] at hc0
                                       · exact h
          have hcm : c ≤ m := by omega
          have hcn : c ≤ n := by omega
          have hle1 : c * ti.size ≤ m * ti.size := Nat.mul_le_mul_right _ hcm
          have hle2 : c * ti.size ≤ n * ti.size := Nat.mul_le_mul_right _ hcn
          obtain ⟨a0, rfl⟩ : ∃ a0, A = some a0 := by
            cases A with
            | none => have := h1 rfl; subst this; simp at hl; omega
            | some a0 => exact ⟨a0, rfl⟩
          obtain ⟨vs, hrel, hcell⟩ := h2 a0 rfl
          have hvl := hrel.1
          cases hb : i.blk with
          | none => rw [hb] at g4; omega
          | some b =>
            rw [hb] at g4
            have had := g4 (by omega)
            subst had
            obtain ⟨e1, e2, e3, e4, h5⟩ := hok
            rw [hb] at h5
            obtain ⟨hnI, C, hC, hCl, hBl, hrelB⟩ := h5
            have hlen : (vs.take (c * ti.size)).length = c * ti.size := by simp; omega
            have hld := run_loadCells_list (P := P) w a0 (vs.take (c * ti.size)) (fun j v hj => by
              rw [List.getElem?_take] at hj
              split at hj
              · exact hcell _ _ hj
              · cases hj)
            rw [hlen] at hld
            have hrt := hrel.take (c * ti.size)
            have hone : ∀ v ∈ vs.take (c * ti.size), v.oneCell' = true := fun u hu => by
              obtain ⟨j, hj⟩ := List.mem_iff_getElem?.1 hu
              have hjl : j < (news.take (c * ti.size)).length := by rw [hrt.1]; exact (List.getElem?_eq_some_iff.1 hj).1
              exact (hrt.2 j _ u (List.getElem?_eq_getElem hjl) hj).1
            have hst := run_storeCells_at P b off i.elem (vs.take (c * ti.size)) 0 C.toArray w hC (by rw [hlen]; simp; omega) hone
            have hnl : (news.take (c * ti.size)).length = c * ti.size := by simp; omega
            have hcells : B.cells.take off ++ news.take (c * ti.size) ++ B.cells.drop (off + c * ti.size) = splice B.cells off (news.take (c * ti.size)) := by
              rw [splice_eq _ _ _ (by rw [hnl]; omega), hnl]
            have hw := hE.write (B' := { B with cells := splice B.cells off (news.take (c * ti.size)) }) (i' := i) (b := b) (clk' := st.clk) (C' := C.take off ++ vs.take (c * ti.size) ++ C.drop (off + c * ti.size))
              hk hj hb hb rfl rfl (by simp; omega) e1 e2 e3 (by simp only; rw [length_splice _ _ _ (by rw [hnl]; omega)]; exact hBl) (by
                simp only
                rw [length_splice _ _ _ (by rw [hnl]; omega)]
                have hs := hrelB.splice hrt (off := off) (by rw [hnl]; omega)
                have e : (C.take off ++ vs.take (c * ti.size) ++ C.drop (off + c * ti.size)).take B.cells.length =
                    (C.take B.cells.length).take off ++ vs.take (c * ti.size) ++ (C.take B.cells.length).drop (off + (vs.take (c * ti.size)).length) := by
                  rw [hlen, List.take_take, Nat.min_eq_left (by omega), List.drop_take, List.append_assoc, List.append_assoc, List.take_append, List.take_append]
                  have l1 : (C.take off).length = off := by simp; omega
                  rw [l1, hlen]
                  congr 1
                  · rw [List.take_of_length_le (by simp; omega)]
                  · congr 1
                    · rw [List.take_of_length_le (by rw [hlen]; omega)]
                    · congr 1; omega
                rw [e]
                exact hs) (.inl ⟨rfl, rfl⟩)
            rw [hcells] at h
            simp only [Nat.add_zero, hlen] at hst
            refine ⟨.int .i64 c, _, iv .i64 c, _, _, ?_, hw.1, RelD.s rfl, h⟩
            refine hfin _ _ (by simpa [Builtin.firstCells] using hld) ?_
            simpa using hst
      · exact h.elim
    · exact h.elim
  · exact h.elim

theorem ok_max {x y : Operand} {ts : Array TypeId} {k : IntKind} {m n : Int} (ho : o.op = .call { callee := .builtin .max, args := #[x, y], argTypes := ts }) (hx : st.eval x = .one (.d (.s (.int k m)))) (hy : st.eval y = .one (.d (.s (.int k n))))
    (h : K (st.put o.dst (iv k (max m n)))) : OpOk P o st K := by
  refine opOk_same (x := iv k (max m n)) (fun w0 E0 H0 a w E hE => ⟨.int k (max m n), ?_, RelD.s rfl⟩) h
  simp [execOp, ho, resolve, invoke, builtin, Builtin.max_, Builtin.max2, scal_int hE hx, scal_int hE hy, List.foldlM]
  split <;> omega
theorem ok_min {x y : Operand} {ts : Array TypeId} {k : IntKind} {m n : Int} (ho : o.op = .call { callee := .builtin .min, args := #[x, y], argTypes := ts }) (hx : st.eval x = .one (.d (.s (.int k m)))) (hy : st.eval y = .one (.d (.s (.int k n))))
    (h : K (st.put o.dst (iv k (min m n)))) : OpOk P o st K := by
  refine opOk_same (x := iv k (min m n)) (fun w0 E0 H0 a w E hE => ⟨.int k (min m n), ?_, RelD.s rfl⟩) h
  simp [execOp, ho, resolve, invoke, builtin, Builtin.min_, Builtin.min2, scal_int hE hx, scal_int hE hy, List.foldlM]
  split <;> omega
theorem xop_sound (h : xcore P o.op st.eval st.heap st.clk fun v H c => K (ASt.put ⟨st.tmps, H, c⟩ o.dst v)) : OpOk P o st K := by
  unfold xcore at h
  split at h
  · rename_i args ts hop
    split at h
    · rename_i x y t u hargs hts
      obtain rfl : args = #[x, y] := by cases args; simp_all
      obtain rfl : ts = #[t, u] := by cases ts; simp_all
      exact ok_copy hop h
    · exact h.elim
  · rename_i args ts hop
    split at h
    · rename_i x y hargs
      obtain rfl : args = #[x, y] := by cases args; simp_all
      split at h
      · rename_i k m k' n hx hy
        obtain ⟨rfl, h⟩ := h
        exact ok_max hop hx hy h
      · exact h.elim
    · exact h.elim
  · rename_i args ts hop
    split at h
    · rename_i x y hargs
      obtain rfl : args = #[x, y] := by cases args; simp_all
      split at h
      · rename_i k m k' n hx hy
        obtain ⟨rfl, h⟩ := h
        exact ok_min hop hx hy h
      · exact h.elim
    · exact h.elim
  · exact h.elim
end
end Go.Abs
