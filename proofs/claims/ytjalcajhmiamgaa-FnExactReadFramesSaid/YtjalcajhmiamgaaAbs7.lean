/-
  The abstract steps are sound: operations on memory. No program's text.
-/
import Derived.Test.YtjalcajhmiamgaaAbs6
namespace Go.Abs
set_option linter.unusedSimpArgs false
set_option linter.unusedVariables false
set_option linter.unnecessarySimpa false
open Go

section
variable {P : Program} {w0 w : World} {E0 E : Env} {H0 : AHeap} {st : ASt} {a : Act} {o : Oper} {K : ASt → Prop}

theorem ok_alloc {e : TypeId} {z : List AC} {n : Nat} (ho : o.op = .alloc e) (hz : zeroT P e = some z)
    (h : K (ASt.put { st with heap := st.heap ++ [some ⟨st.clk, e, n, z⟩], clk := st.clk + 1 } o.dst (.one (.ptr st.heap.length st.clk 0)))) : OpOk P o st K := by
  obtain ⟨v, hv, rfl, h1⟩ := run_zero hz
  refine opOk_value fun w0 E0 H0 a w E hE => ?_
  obtain ⟨hE', hle⟩ := hE.alloc e n [] (rel_zero (w := w) (E := E) h1)
  refine ⟨_, _, _, _, _, ?_, hE', rel_new_ptr hE e n _ _, h⟩
  simp [execOp, ho, Instr.alloc, hv, newVar, newRow]

theorem ok_box {e : TypeId} {x : Operand} {cs : List AC} {n : Nat} (ho : o.op = .box e x) (hx : (st.eval x).cells? = some cs)
    (h : K (ASt.put { st with heap := st.heap ++ [some ⟨st.clk, e, n, cs⟩], clk := st.clk + 1 } o.dst (.one (.ptr st.heap.length st.clk 0)))) : OpOk P o st K := by
  refine opOk_value fun w0 E0 H0 a w E hE => ?_
  obtain ⟨hE', hle⟩ := hE.alloc e n [] (cells_known hx (hE.eval x))
  refine ⟨_, _, _, _, _, ?_, hE', rel_new_ptr hE e n _ _, h⟩
  simp [execOp, ho, Instr.box, newVar, newRow]

theorem foldl_set (cs : Array Value) (off : Nat) (xs : List Value) : ∀ (j : Nat), off + j + xs.length ≤ cs.size →
    ((xs.zipIdx j).foldl (fun cs (c, j) => cs.setIfInBounds (off + j) c) cs).toList = cs.toList.take (off + j) ++ xs ++ cs.toList.drop (off + j + xs.length) := by
  induction xs generalizing cs with
  | nil => intro j _; simp
  | cons x xs ih =>
    intro j hl
    simp only [List.zipIdx_cons, List.foldl_cons]
    simp only [List.length_cons] at hl
    rw [ih (cs.setIfInBounds (off + j) x) (j + 1) (by simp; omega)]
    have e := list_seg_step cs.toList (off + j) x xs (by simp; omega)
    simpa [Array.toList_setIfInBounds, Nat.add_assoc] using e

theorem fill_rel {pl : Nat → Option (Nat × Nat)} : ∀ {ps : List (Nat × AV)} {qs : List (Nat × Value)} {cs out : List AC} {vs : List Value}, RelCs w E cs vs →
    (ps.map (·.1) = qs.map (·.1) ∧ ∀ (j : Nat) p q, ps[j]? = some p → qs[j]? = some q → RelV w E p.2 q.2) → fillA pl cs ps = some out →
    ∃ us : List Value, Instr.fill pl vs.toArray qs = some us.toArray ∧ RelCs w E out us
  | [], qs, cs, out, vs, hr, hp, hf => by
    simp only [fillA, Option.some.injEq] at hf
    subst hf
    have : qs = [] := by simpa using hp.1.symm
    subst this
    exact ⟨vs, rfl, hr⟩
  | (i, x) :: ps, qs, cs, out, vs, hr, hp, hf => by
    match qs with
    | [] => simp at hp
    | (i', v) :: qs =>
      obtain ⟨h1, h2⟩ := hp
      simp only [List.map_cons, List.cons.injEq] at h1
      obtain ⟨rfl, h1⟩ := h1
      have hx := h2 0 (i, x) (i, v) rfl rfl
      simp only [fillA] at hf
      split at hf
      · rename_i off size xs hpl hxs
        split at hf
        · rename_i hle
          have hk := cells_known hxs hx
          have hl : v.cells.size = size := by rw [← hle.1, hk.1]; simp
          have hcl := hr.1
          obtain ⟨us, hu, hru⟩ := fill_rel (hr.splice hk (off := off) (by omega)) ⟨h1, fun j p q hp hq => h2 (j + 1) p q hp hq⟩ hf
          refine ⟨us, ?_, hru⟩
          simp only [Instr.fill, hpl]
          rw [if_neg (by simp [hl]; omega)]
          rw [← hu]
          congr 1
          apply Array.ext'
          have := foldl_set vs.toArray off v.cells.toList 0 (by simp [hl]; omega)
          rw [← Array.foldl_toList, Array.toList_zipIdx]
          simpa using this
        · cases hf
      · cases hf

theorem parts_rel (hE : InvE w0 E0 H0 st a w E) (ps : List (Nat × Operand)) :
    (ps.map fun (i, x) => (i, st.eval x)).map (·.1) = (ps.map fun (i, x) => (i, a.eval x)).map (·.1) ∧
    ∀ (j : Nat) p q, (ps.map fun (i, x) => (i, st.eval x))[j]? = some p → (ps.map fun (i, x) => (i, a.eval x))[j]? = some q → RelV w E p.2 q.2 := by
  refine ⟨by simp [Function.comp_def], fun j p q hp hq => ?_⟩
  rw [List.getElem?_map] at hp hq
  cases hj : ps[j]? with
  | none => simp [hj] at hp
  | some r => simp [hj] at hp hq; subst hp; subst hq; exact hE.eval _

theorem fillA_mono {p q : Nat → Option (Nat × Nat)} (h : ∀ i x, p i = some x → q i = some x) : ∀ {ps : List (Nat × AV)} {cs out : List AC}, fillA p cs ps = some out → fillA q cs ps = some out
  | [], cs, out, hf => by simpa [fillA] using hf
  | (i, x) :: rest, cs, out, hf => by
    unfold fillA at hf ⊢
    split at hf
    · rename_i off size xs hp hx
      simp only [h i _ hp, hx]
      split at hf
      · rename_i hc
        rw [if_pos hc]
        exact fillA_mono h hf
      · exact absurd hf (by simp)
    · exact absurd hf (by simp)
theorem ok_build {t : TypeId} {ps : Array (Nat × Operand)} {z cs : List AC} {pl : List (Nat × Nat)} (ho : o.op = .build t ps) (hz : zeroT P t = some z) (hpl : placesT P t = some pl)
    (hf : fillA (fun i => pl[i]?) z (ps.toList.map fun (i, x) => (i, st.eval x)) = some cs) (h : K (st.put o.dst (.agg cs))) : OpOk P o st K := by
  obtain ⟨v, hv, rfl, h1⟩ := run_zero hz
  refine opOk_same (x := .agg cs) (fun w0 E0 H0 a w E hE => ?_) h
  unfold placesT at hpl
  split at hpl
  · rename_i fs hu'
    obtain ⟨us, hu, hru⟩ := fill_rel (rel_zero (w := w) (E := E) h1) (parts_rel hE ps.toList) hf
    refine ⟨.agg us.toArray, ?_, ⟨us, rfl, hru⟩⟩
    simp only [Array.toArray_toList] at hu
    simp [execOp, ho, Instr.build, hv, run_underlying hu', Array.mapM_eq_mapM_toList, run_places w _ _ hpl, hu]
  · rename_i n e hu'
    rw [Option.map_eq_some_iff] at hpl
    obtain ⟨s, hs, rfl⟩ := hpl
    have hf' := fillA_mono (q := fun i => some (i * s, s)) (fun i x hx => by
      rw [List.getElem?_map, Option.map_eq_some_iff] at hx
      obtain ⟨j, hj, rfl⟩ := hx
      obtain ⟨h1, h2⟩ := List.getElem?_eq_some_iff.1 hj
      simp at h2; subst h2; rfl) hf
    obtain ⟨us, hu, hru⟩ := fill_rel (rel_zero (w := w) (E := E) h1) (parts_rel hE ps.toList) hf'
    refine ⟨.agg us.toArray, ?_, ⟨us, rfl, hru⟩⟩
    simp only [Array.toArray_toList] at hu
    simp [execOp, ho, Instr.build, hv, run_underlying hu', run_sizeOf hs, hu]
  · cases hpl

theorem ok_load {t : TypeId} {x : Operand} (ho : o.op = .load t x) (h : loadA P st.heap t (st.eval x) fun v => K (st.put o.dst v)) : OpOk P o st K := by
  unfold loadA at h
  split at h
  · rename_i agg n hag hn
    split at h
    · rename_i k g off hx
      split at h
      · rename_i B hB
        split at h
        · rename_i y hy
          refine opOk_same (x := y) (fun w0 E0 H0 a w E hE => ?_) h
          have hr := hE.eval x
          rw [hx] at hr
          obtain ⟨i, b, _, _, _, hok, hb, hv⟩ := hE.at_ptr hB hr
          obtain ⟨v, hrun, hrel⟩ := run_loadVar (P := P) hag hn hy (hok.readable (blkAt_size hB) hb off)
          exact ⟨v, by simp [execOp, ho, hv, Instr.loadAt, Instr.sureAddr, hrun], hrel⟩
        · exact h.elim
      · exact h.elim
    · rename_i cs hx
      split at h
      · rename_i y hy
        refine opOk_same (x := y) (fun w0 E0 H0 a w E hE => ?_) h
        have hr := hE.eval x
        rw [hx] at hr
        generalize hq : a.eval x = q at hr
        cases hr with
        | rptr f hI hc hrr =>
          obtain ⟨v, hrun, hrel⟩ := run_loadVar (P := P) hag hn hy (readable_list (E := E) f hc hrr)
          exact ⟨v, by simp [execOp, ho, hq, Instr.loadAt, Instr.sureAddr, hrun], hrel⟩
      · exact h.elim
    · exact h.elim
  · exact h.elim

theorem ok_store {t : TypeId} {x y : Operand} (ho : o.op = .store t x y) (h : storeA P st.heap t (st.eval x) (st.eval y) fun H => K (ASt.put { st with heap := H } o.dst unknown)) : OpOk P o st K := by
  unfold storeA at h
  split at h
  · rename_i n k g off cs hn hx hy
    split at h
    · rename_i B hB
      obtain ⟨⟨hl, hle⟩, h⟩ := h
      refine opOk_skip fun w0 E0 H0 a w E hE => ?_
      have hr := hE.eval x
      rw [hx] at hr
      obtain ⟨i, b, hk, hg, hi, hok, hb, hv⟩ := hE.at_ptr hB hr
      have hc := cells_known hy (hE.eval y)
      obtain ⟨hnI, C, hC, hCl, hBl, hrel⟩ := hok.cells (blkAt_size hB) hb
      obtain ⟨e1, e2, e3, e4, _⟩ := hok
      have hvl : (a.eval y).cells.toList.length = n := by rw [← hc.1, hl]
      have hst := run_storeCells_at P b off i.elem (a.eval y).cells.toList 0 C.toArray w hC (by simp at hvl ⊢; omega) (fun u hu => by
        obtain ⟨j, hj⟩ := List.mem_iff_getElem?.1 hu
        have hjl : j < cs.length := by rw [hc.1]; exact (List.getElem?_eq_some_iff.1 hj).1
        exact (hc.2 j _ u (List.getElem?_eq_getElem hjl) hj).1)
      have hw := hE.write (B' := { B with cells := splice B.cells off cs }) (i' := i) (b := b) (clk' := st.clk) (C' := C.take off ++ (a.eval y).cells.toList ++ C.drop (off + (a.eval y).cells.toList.length))
        hk hi hb hb rfl rfl (by simp at hvl ⊢; omega) e1 e2 e3 (by simp only; rw [length_splice _ _ _ (by omega)]; exact hBl) (by
          simp only
          rw [length_splice _ _ _ (by omega)]
          have hs := hrel.splice hc (off := off) (by omega)
          have e : (C.take off ++ (a.eval y).cells.toList ++ C.drop (off + (a.eval y).cells.toList.length)).take B.cells.length =
              (C.take B.cells.length).take off ++ (a.eval y).cells.toList ++ (C.take B.cells.length).drop (off + (a.eval y).cells.toList.length) := by
            rw [List.take_take, Nat.min_eq_left (by omega), List.drop_take, List.append_assoc, List.append_assoc, List.take_append, List.take_append]
            have l1 : (C.take off).length = off := by simp; omega
            rw [l1]
            congr 1
            · rw [List.take_of_length_le (by simp; omega)]
            · congr 1
              · rw [List.take_of_length_le (by omega)]
              · congr 1; omega
          rw [e]
          exact hs) (blkAt_size hB) (.inl ⟨rfl, rfl⟩)
      refine ⟨_, _, _, ?_, hw.1, h⟩
      simp only [Nat.add_zero] at hst
      have hvl' : (a.eval y).cells.size = n := by simpa using hvl
      simp [execOp, ho, hv, Instr.storeAt, Instr.sureAddr, storeVar, run_sizeOf hn, hvl', hst]
    · exact h.elim
  · exact h.elim
end
end Go.Abs
