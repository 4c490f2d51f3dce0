/-
  The abstract steps are sound: operations that come more rarely. No program's text.
-/
import Derived.Test.YtjalcajhmiamgaaAbs11
namespace Go.Abs
set_option linter.unusedSimpArgs false
set_option linter.unusedVariables false
set_option linter.unnecessarySimpa false
open Go

section
variable {P : Program} {w0 w : World} {E0 E : Env} {H0 : AHeap} {st : ASt} {a : Act} {o : Oper} {K : ASt → Prop}

theorem ok_copy {t u : TypeId} {x y : Operand} (ho : o.op = .call { callee := .builtin .copy, args := #[x, y], argTypes := #[t, u] })
    (h : copyA P st.heap t (st.eval x) (st.eval y) fun v H => K (ASt.put ⟨st.tmps, H, st.clk⟩ o.dst v)) : OpOk P o st K := by
  unfold copyA at h
  split at h
  · rename_i e size bytes m news hT hel
    obtain ⟨hu, ti, hi, rfl, rfl⟩ := sliceT_some hT
    simp only [hT, Option.map_some, Option.getD_some] at hel
    split at h
    · rename_i k g off n hx
      split at h
      · rename_i B hB
        obtain ⟨⟨hs, hl, hroom⟩, h⟩ := h
        refine opOk_value fun w0 E0 H0 a w E hE => ?_
        have hr := hE.eval x
        rw [hx] at hr
        obtain ⟨A, cap', hvy, _, _, h1, h2⟩ := hE.elems (hE.eval y) hel
        obtain ⟨i, ad, cap, hk, hg, hj, hok, hv, g1, g2, g3, g4⟩ := hE.at_own hB hr
        have hjs : i.size = ti.size := by rw [hok.2.2.1, hs]
        obtain ⟨c, hc⟩ : ∃ c, c = min m n := ⟨_, rfl⟩
        rw [← hc] at h
        have hsz : (sizeOf e).run P w = .ok ti.size w := by simp [sizeOf, typeInfo, hi]
        have hfin : ∀ (cells : Array Value) (w' : World) (hld : (Builtin.firstCells ti.size c (.slice A m cap')).run P w = .ok cells w) (hst : (do if let some a := ad then storeCells a cells.toList : Sem Unit).run P w = .ok () w'),
            (execOp a.eval o).run P w = .ok (.value (.int .i64 c)) w' := by
          intro cells w' hld hst
          simp only [execOp, ho, resolve, invoke, builtin]
          have e1 : Nat.min m n = c := hc.symm
          simp [Builtin.copy_, run_underlying hu, hv, hvy, Builtin.lenOf, hsz, e1, hld, goInt]
          cases ad with
          | none => simp at hst; subst hst; simp
          | some ad0 => simp at hst; simp [hst]
        by_cases hc0 : c * ti.size = 0
        · have hB' : ({ B with cells := B.cells.take off ++ news.take (c * ti.size) ++ B.cells.drop (off + c * ti.size) } : ABlk) = B := by
            rw [hc0]; simp
          have hH : st.heap.set k (some B) = st.heap := by
            obtain ⟨hlt, hget⟩ := List.getElem?_eq_some_iff.1 hk
            rw [← hget]; exact List.set_getElem_self hlt
          rw [hB', hH] at h
          refine ⟨.int .i64 c, w, iv .i64 c, st, E, ?_, hE, RelD.s rfl, h⟩
          refine hfin #[] w ?_ ?_
          · cases A with
            | none => simp [Builtin.firstCells]
            | some a0 =>
              have := run_loadCells_list (P := P) w a0 [] (by simp)
              simpa [Builtin.firstCells, hc0] using this
          · cases ad with
            | none => simp
            | some a0 => simp [storeCells]
        · have hcp : 0 < c := by rcases Nat.eq_zero_or_pos c with h | h; · simp [h] at hc0
                                 · exact h
          have hsp : 0 < ti.size := by rcases Nat.eq_zero_or_pos ti.size with h | h; · simp [h] at hc0
                                       · exact h
          have hcm : c ≤ m := by omega
          have hcn : c ≤ n := by omega
          have hle1 : c * ti.size ≤ m * ti.size := Nat.mul_le_mul_right _ hcm
          have hle2 : c * ti.size ≤ n * ti.size := Nat.mul_le_mul_right _ hcn
          obtain ⟨a0, rfl⟩ : ∃ a0, A = some a0 := by
            cases A with
            | none => have := h1 rfl; subst this; simp at hl; omega
            | some a0 => exact ⟨a0, rfl⟩
          obtain ⟨vs, hrel, hcell⟩ := h2 a0 rfl
          have hvl := hrel.1
          cases hb : i.blk with
          | none => rw [hb] at g4; omega
          | some b =>
            rw [hb] at g4
            have had := g4 (by omega)
            subst had
            obtain ⟨hnI, C, hC, hCl, hBl, hrelB⟩ := hok.cells (blkAt_size hB) hb
            obtain ⟨e1, e2, e3, e4, _⟩ := hok
            have hlen : (vs.take (c * ti.size)).length = c * ti.size := by simp; omega
            have hld := run_loadCells_list (P := P) w a0 (vs.take (c * ti.size)) (fun j v hj => by
              rw [List.getElem?_take] at hj
              split at hj
              · exact hcell _ _ hj
              · cases hj)
            rw [hlen] at hld
            have hrt := hrel.take (c * ti.size)
            have hone : ∀ v ∈ vs.take (c * ti.size), v.oneCell' = true := fun u hu => by
              obtain ⟨j, hj⟩ := List.mem_iff_getElem?.1 hu
              have hjl : j < (news.take (c * ti.size)).length := by rw [hrt.1]; exact (List.getElem?_eq_some_iff.1 hj).1
              exact (hrt.2 j _ u (List.getElem?_eq_getElem hjl) hj).1
            have hst := run_storeCells_at P b off i.elem (vs.take (c * ti.size)) 0 C.toArray w hC (by rw [hlen]; simp; omega) hone
            have hnl : (news.take (c * ti.size)).length = c * ti.size := by simp; omega
            have hcells : B.cells.take off ++ news.take (c * ti.size) ++ B.cells.drop (off + c * ti.size) = splice B.cells off (news.take (c * ti.size)) := by
              rw [splice_eq _ _ _ (by rw [hnl]; omega), hnl]
            have hw := hE.write (B' := { B with cells := splice B.cells off (news.take (c * ti.size)) }) (i' := i) (b := b) (clk' := st.clk) (C' := C.take off ++ vs.take (c * ti.size) ++ C.drop (off + c * ti.size))
              hk hj hb hb rfl rfl (by simp; omega) e1 e2 e3 (by simp only; rw [length_splice _ _ _ (by rw [hnl]; omega)]; exact hBl) (by
                simp only
                rw [length_splice _ _ _ (by rw [hnl]; omega)]
                have hs := hrelB.splice hrt (off := off) (by rw [hnl]; omega)
                have e : (C.take off ++ vs.take (c * ti.size) ++ C.drop (off + c * ti.size)).take B.cells.length =
                    (C.take B.cells.length).take off ++ vs.take (c * ti.size) ++ (C.take B.cells.length).drop (off + (vs.take (c * ti.size)).length) := by
                  rw [hlen, List.take_take, Nat.min_eq_left (by omega), List.drop_take, List.append_assoc, List.append_assoc, List.take_append, List.take_append]
                  have l1 : (C.take off).length = off := by simp; omega
                  rw [l1, hlen]
                  congr 1
                  · rw [List.take_of_length_le (by simp; omega)]
                  · congr 1
                    · rw [List.take_of_length_le (by rw [hlen]; omega)]
                    · congr 1; omega
                rw [e]
                exact hs) (blkAt_size hB) (.inl ⟨rfl, rfl⟩)
            rw [hcells] at h
            simp only [Nat.add_zero, hlen] at hst
            refine ⟨.int .i64 c, _, iv .i64 c, _, _, ?_, hw.1, RelD.s rfl, h⟩
            refine hfin _ _ (by simpa [Builtin.firstCells] using hld) ?_
            simpa using hst
      · exact h.elim
    · exact h.elim
  · exact h.elim

theorem ok_max {x y : Operand} {ts : Array TypeId} {k : IntKind} {m n : Int} (ho : o.op = .call { callee := .builtin .max, args := #[x, y], argTypes := ts }) (hx : st.eval x = .one (.d (.s (.int k m)))) (hy : st.eval y = .one (.d (.s (.int k n))))
    (h : K (st.put o.dst (iv k (max m n)))) : OpOk P o st K := by
  refine opOk_same (x := iv k (max m n)) (fun w0 E0 H0 a w E hE => ⟨.int k (max m n), ?_, RelD.s rfl⟩) h
  simp [execOp, ho, resolve, invoke, builtin, Builtin.max_, Builtin.max2, scal_int hE hx, scal_int hE hy, List.foldlM]
  split <;> omega
theorem ok_min {x y : Operand} {ts : Array TypeId} {k : IntKind} {m n : Int} (ho : o.op = .call { callee := .builtin .min, args := #[x, y], argTypes := ts }) (hx : st.eval x = .one (.d (.s (.int k m)))) (hy : st.eval y = .one (.d (.s (.int k n))))
    (h : K (st.put o.dst (iv k (min m n)))) : OpOk P o st K := by
  refine opOk_same (x := iv k (min m n)) (fun w0 E0 H0 a w E hE => ⟨.int k (min m n), ?_, RelD.s rfl⟩) h
  simp [execOp, ho, resolve, invoke, builtin, Builtin.min_, Builtin.min2, scal_int hE hx, scal_int hE hy, List.foldlM]
  split <;> omega
/-- A value that is told whole is that value. -/
theorem val_rel {x : AV} {v u : Value} (hx : x.val? = some u) (hr : RelV w E x v) : v = u := by
  have one : ∀ {c : AC} {u v : Value}, c.val? = some u → RelC w E c v → v = u := by
    intro c u v hc h
    unfold AC.val? at hc
    split at hc
    · cases hc; cases h; rfl
    · cases hc
  cases x with
  | one c => exact one hx hr
  | agg cs =>
    obtain ⟨l, rfl, hrl⟩ := hr
    simp only [AV.val?] at hx
    cases hm : cs.mapM AC.val? with
    | none => simp [hm] at hx
    | some vs =>
      simp [hm] at hx; subst hx
      congr 2
      induction cs generalizing l vs with
      | nil =>
        simp at hm; subst hm
        have := hrl.1
        cases l with
        | nil => rfl
        | cons => simp at this
      | cons c cs ih =>
        rw [List.mapM_cons] at hm
        cases h1 : c.val? with
        | none => simp [h1] at hm
        | some u =>
          cases h2 : cs.mapM AC.val? with
          | none => simp [h1, h2] at hm
          | some us =>
            simp [h1, h2] at hm; subst hm
            cases l with
            | nil => have := hrl.1; simp at this
            | cons q l =>
              rw [one h1 (hrl.2 0 c q rfl rfl).2, ih l ⟨by simpa using hrl.1, fun j c' v' hc hv => hrl.2 (j + 1) c' v' hc hv⟩ us h2]
  | tup vs => cases hx
theorem ofV_rel {v : Value} (h1 : oneCells v = true) : RelV1 w E (AV.ofV v) v := by
  unfold AV.ofV
  split
  · rename_i cs
    exact ⟨cs.toList, by simp, rel_zero (v := .agg cs) h1⟩
  · exact ofValue_rel v
theorem ok_makeMap {t : TypeId} (ho : o.op = .makeMap t none) (h : K (ASt.put ⟨st.tmps, st.heap ++ [some ⟨st.clk, 0, 0, [.obj [] 0]⟩], st.clk + 1⟩ o.dst (.one (.mp st.heap.length st.clk)))) : OpOk P o st K := by
  refine opOk_value fun w0 E0 H0 a w E hE => ?_
  obtain ⟨hE', hle⟩ := hE.allocMap
  refine ⟨_, _, _, _, _, ?_, hE', rel_new_map hE _, h⟩
  simp [execOp, ho, Instr.makeMap, newObj, Sem.run]
theorem ok_lookup {t : TypeId} {m k : Operand} {ok : Bool} (ho : o.op = .lookup t m k ok) (h : lookupA P st.heap t (st.eval m) (st.eval k) ok fun v => K (ASt.put ⟨st.tmps, st.heap, st.clk⟩ o.dst v)) : OpOk P o st K := by
  obtain ⟨kv, es, found, x, hk, hm, ⟨h1, hg⟩, hK⟩ := h
  refine opOk_same (x := if ok then .tup [AV.ofV x, bv found] else AV.ofV x) (fun w0 E0 H0 a w E hE => ⟨if ok then .tuple #[x, .bool found] else x, ?_, ?_⟩) hK
  · have e1 : a.eval k = kv := val_rel hk (hE.eval k)
    have hr := hE.eval m
    have e2 : (a.eval m = .map none ∧ es = [] ∨ ∃ r c, a.eval m = .map (some r) ∧ w.heap[r]? = some (.map es.toArray c)) := by
      unfold mapsA at hm
      split at hm
      · rename_i j g hx
        cases hB : objAt st.heap j g with
        | none => simp [hB] at hm
        | some p =>
          obtain ⟨es', c⟩ := p
          simp [hB] at hm; subst hm
          rw [hx] at hr
          obtain ⟨B, i, b, _, _, _, _, _, _, _, _, _, _, hv, hmm⟩ := hE.at_map hB hr
          exact .inr ⟨b, c, hv, hmm⟩
      · rename_i es' c hx
        cases hm
        rw [hx] at hr
        generalize hq : a.eval m = q at hr
        cases hr with
        | map hI hmm => exact .inr ⟨_, _, rfl, hmm⟩
      · rename_i hx
        cases hm
        rw [hx] at hr
        generalize hq : a.eval m = q at hr
        cases hr with
        | s _ => exact .inl ⟨rfl, rfl⟩
      · cases hm
    simp [execOp, ho, e1, hg w _ e2 ok]
  · cases ok with
    | false =>
      have := ofV_rel (w := w) (E := E) h1
      simp only [Bool.false_eq_true, if_false]
      unfold AV.ofV at this ⊢
      split at this <;> exact this
    | true =>
      refine ⟨[x, .bool found], rfl, rfl, fun j y u hy hu => ?_⟩
      match j with
      | 0 => simp at hy hu; subst hy; subst hu; exact ofV_rel h1
      | 1 => simp at hy hu; subst hy; subst hu; exact RelD.s rfl
      | j + 2 => simp at hy
theorem ok_mapUpdate {t : TypeId} {m k v : Operand} (ho : o.op = .mapUpdate t m k v) (h : mapUpdA P st.heap t (st.eval m) (st.eval k) (st.eval v) fun H => K (ASt.put ⟨st.tmps, H, st.clk⟩ o.dst unknown)) : OpOk P o st K := by
  obtain ⟨j, g, es, c, kv, vv, es', c', hm, hB, hk, hv, hu, hK⟩ := h
  refine opOk_skip fun w0 E0 H0 a w E hE => ?_
  have e1 : a.eval k = kv := val_rel hk (hE.eval k)
  have e2 : a.eval v = vv := val_rel hv (hE.eval v)
  have hr := hE.eval m
  rw [hm] at hr
  obtain ⟨B, i, b, hkB, hgB, hsB, hcB, hi, hb, hgi, hei, hsi, hnI, hvm, hmm⟩ := hE.at_map hB hr
  have hW := hE.writeMap (B' := ⟨g, 0, 0, [.obj es' c']⟩) hkB hi hb hnI hmm hgi hei hsi rfl rfl
  refine ⟨_, _, _, ?_, hW.1, hK⟩
  simp [execOp, ho, e1, e2, hvm, hu w b hmm]
theorem ok_delete {t u : TypeId} {m k : Operand} (ho : o.op = .call { callee := .builtin .delete, args := #[m, k], argTypes := #[t, u] }) (h : mapDelA P st.heap t (st.eval m) (st.eval k) fun H => K (ASt.put ⟨st.tmps, H, st.clk⟩ o.dst unknown)) : OpOk P o st K := by
  obtain ⟨j, g, es, c, kv, es', hm, hB, hk, hu, hK⟩ := h
  refine opOk_value fun w0 E0 H0 a w E hE => ?_
  have e1 : a.eval k = kv := val_rel hk (hE.eval k)
  have hr := hE.eval m
  rw [hm] at hr
  obtain ⟨B, i, b, hkB, hgB, hsB, hcB, hi, hb, hgi, hei, hsi, hnI, hvm, hmm⟩ := hE.at_map hB hr
  have hW := hE.writeMap (B' := ⟨g, 0, 0, [.obj es' c]⟩) hkB hi hb hnI hmm hgi hei hsi rfl rfl
  refine ⟨.tuple #[], _, unknown, _, _, ?_, hW.1, trivial, hK⟩
  simp [execOp, ho, resolve, invoke, builtin, e1, hvm, hu w b u o.type hmm]
theorem xop_sound (h : xcore P o.op st.eval st.heap st.clk fun v H c => K (ASt.put ⟨st.tmps, H, c⟩ o.dst v)) : OpOk P o st K := by
  unfold xcore at h
  split at h
  · rename_i t hop; exact ok_makeMap hop h
  · rename_i t m k ok hop; exact ok_lookup hop h
  · rename_i t m k v hop; exact ok_mapUpdate hop h
  · rename_i args ts hop
    split at h
    · rename_i m k t u hargs hts
      obtain rfl : args = #[m, k] := by cases args; simp_all
      obtain rfl : ts = #[t, u] := by cases ts; simp_all
      exact ok_delete hop h
    · exact h.elim
  · rename_i args ts hop
    split at h
    · rename_i x y t u hargs hts
      obtain rfl : args = #[x, y] := by cases args; simp_all
      obtain rfl : ts = #[t, u] := by cases ts; simp_all
      exact ok_copy hop h
    · exact h.elim
  · rename_i args ts hop
    split at h
    · rename_i x y hargs
      obtain rfl : args = #[x, y] := by cases args; simp_all
      split at h
      · rename_i k m k' n hx hy
        obtain ⟨rfl, h⟩ := h
        exact ok_max hop hx hy h
      · exact h.elim
    · exact h.elim
  · rename_i args ts hop
    split at h
    · rename_i x y hargs
      obtain rfl : args = #[x, y] := by cases args; simp_all
      split at h
      · rename_i k m k' n hx hy
        obtain ⟨rfl, h⟩ := h
        exact ok_min hop hx hy h
      · exact h.elim
    · exact h.elim
  · exact h.elim
end
end Go.Abs
