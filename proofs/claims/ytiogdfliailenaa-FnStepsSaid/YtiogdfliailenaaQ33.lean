/-
  Pods of an owner, as the model finds them; what is put and deleted.
-/
import Derived.Test.YtiogdfliailenaaQ32
import Derived.Test.YtiogdfliailenaaK6
namespace Go.Proofs.Ytiogdfliailenaa
set_option maxRecDepth 100000
set_option linter.unusedSimpArgs false
set_option linter.unusedVariables false
set_option linter.unnecessarySimpa false
open Go Go.Abs Go.Proofs
theorem filter_snoc {α : Type} (p : α → Bool) {l : List α} {i : Nat} {o : α} (ho : l[i]? = some o) : (l.take (i + 1)).filter p = (l.take i).filter p ++ (if p o = true then [o] else []) := by
  rw [List.take_add_one, ho, Option.toList_some, List.filter_append]
  congr 1
  rw [List.filter_cons]; split <;> rfl
theorem filter_take_le {α : Type} (p : α → Bool) (l : List α) (i : Nat) : ((l.take i).filter p).length ≤ i := by
  have := List.length_filter_le p (l.take i)
  have h2 := List.length_take_le i l
  omega
set_option maxRecDepth 100000 in
theorem c_l6Owns (o : Ob) (x : List DC) (k w : Int) : FCall Try.prog 64 [optr o x, kav k w] fun r H => r = bv (isPodB k w o) ∧ H = [] := by
  refine fcall_gather [] id fun clk => acall_of_aw Try.func64 rfl ?_
  simp
  refine codeOk_drawA mixed (by kernel_rfl) ?_
  unfold isPodB
  by_cases h1 : o.kind = 3 <;> by_cases h2 : o.a = k <;> by_cases h3 : o.b = w <;> simp [h1, h2, h3]
set_option maxRecDepth 100000 in
theorem c_l6Pods (l : List Ob) (k w : Int) (hl : l.length ≤ 1048576) : FCall Try.prog 40 [rlist l, kav k w] fun r H => ∃ g, r = .one (.own 0 g 0 (podsL l k w).length) ∧ H = [some ⟨g, 30, 7, rcs (podsL l k w)⟩] := by
  refine fcall_gather [1] (fun j => j - 1) fun clk => acall_of_aw Try.func40 rfl ?_
  simp
  refine codeOk_loop [true, false, false, true, false, true, true] 2 (fun z => ∃ (i c g : Nat), i ≤ l.length ∧ z = ⟨[rlist l, unknown, unknown, .one (.ptr 0 clk 0), unknown, .one (.own 1 g 0 (podsL (l.take i) k w).length), iv .i64 i] ++ List.replicate 20 unknown, [some ⟨clk, 38, 2, [ic k, ic w]⟩, some ⟨g, 30, 7, rcs (podsL (l.take i) k w)⟩], c⟩)
    (fun z => match z.tmps.getD 6 unknown with | .one (.d (.s (.int _ i))) => l.length - i.toNat | _ => 0) ?_ ?_
  · simp
    exact ⟨0, by omega, by simp [podsL]⟩
  · rintro z ⟨i, c0, g, hi, rfl⟩
    by_cases hlt : i < l.length
    · have hw := wrap_succ (i := i) (by omega)
      obtain ⟨o, t, hd, ho, _, htk⟩ := drop_at l hlt
      have hsn : podsL (l.take (i + 1)) k w = podsL (l.take i) k w ++ _ := filter_snoc (isPodB k w) ho
      have hfl : (podsL (l.take i) k w).length ≤ i := filter_take_le _ l i
      obtain ⟨L, hL⟩ : ∃ L, L = podsL (l.take i) k w := ⟨_, rfl⟩
      rw [← hL] at hsn hfl ⊢
      simp [hlt, hd]
      refine codeOk_drawA mixed (by kernel_rfl) ?_
      simp [hlt, hd]
      refine qcall_val (c_l6Owns o (rds t) k w) (by simp) (by simp) ?_
      by_cases hpo : isPodB k w o = true
      · rw [if_pos hpo] at hsn
        simp [hpo, hw, hlt, hd]
        have hm : L.length + 1 ≤ maxLen := by show L.length + 1 ≤ 9223372036854775807; omega
        have he : rcs (L ++ [o]) = rcs L ++ o.cells := by rw [← rcs_append, rcs_cons, rcs_nil, List.append_nil]; rfl
        exact ⟨⟨by omega, hm⟩, ⟨i + 1, by omega, _, _, ⟨⟨rfl, by rw [hsn]; simp⟩, by omega⟩, ⟨rfl, by rw [hsn, he]⟩, rfl⟩, by omega⟩
      · rw [if_neg hpo, List.append_nil] at hsn
        simp [hpo, hw]
        exact ⟨⟨i + 1, by omega, _, _, ⟨⟨rfl, by rw [hsn]⟩, by omega⟩, ⟨rfl, hsn.symm⟩, rfl⟩, by omega⟩
    · have e : i = l.length := by omega
      subst e
      simp
theorem a_l6Pods (l : List Ob) (k w : Int) (hl : l.length ≤ 1048576) {H : AHeap} {c : Nat} {K : AV → AHeap → Nat → Prop} (hK : K (rlist (podsL l k w)) H c) : ACall Try.prog 40 [rlist l, kav k w] H c K :=
  acall_froze (c_l6Pods l k w hl) (by simp) (by rintro r Hn ⟨g, rfl, rfl⟩; exact ⟨_, by simp, hK⟩)
set_option maxRecDepth 100000 in
theorem c_l6Owner (k w : Int) : FCall Try.prog 38 [kav k w] fun r H => r = bv (decide (k = 1 ∨ k = 2)) ∧ H = [] := by
  refine fcall_gather [] id fun clk => acall_of_aw Try.func38 rfl ?_
  by_cases h1 : k = 1
  · simp [h1]
  · by_cases h2 : k = 2 <;> simp [h1, h2]
def liveN (l : List Ob) : Int := (l.filter fun o => decide (o.d = 0)).length
set_option maxRecDepth 100000 in
theorem c_l6Live (l : List Ob) (hl : l.length ≤ 1048576) : FCall Try.prog 39 [rlist l] fun r H => r = iv .i64 (liveN l) ∧ H = [] := by
  refine fcall_gather [] id fun clk => acall_of_aw Try.func39 rfl ?_
  simp
  refine codeOk_loop [true, false, false, true, true] 0 (fun z => ∃ (i c : Nat), i ≤ l.length ∧ z = ⟨[rlist l, unknown, unknown, iv .i64 (liveN (l.take i)), iv .i64 i] ++ List.replicate 15 unknown, [], c⟩)
    (fun z => match z.tmps.getD 4 unknown with | .one (.d (.s (.int _ i))) => l.length - i.toNat | _ => 0) ?_ ?_
  · simp
    exact ⟨0, by omega, by simp [liveN]⟩
  · rintro z ⟨i, c0, hi, rfl⟩
    by_cases hlt : i < l.length
    · have hw := wrap_succ (i := i) (by omega)
      obtain ⟨o, t, hd, ho, _, htk⟩ := drop_at l hlt
      have hsn := filter_snoc (fun o : Ob => decide (o.d = 0)) ho
      have hfl := filter_take_le (fun o : Ob => decide (o.d = 0)) l i
      have e : liveN (l.take (i + 1)) = liveN (l.take i) + if o.d = 0 then 1 else 0 := by
        unfold liveN; rw [hsn]
        by_cases h : o.d = 0 <;> simp [h]
      have hn : 0 ≤ liveN (l.take i) ∧ liveN (l.take i) ≤ i := by unfold liveN; omega
      obtain ⟨n, hN⟩ : ∃ n, n = liveN (l.take i) := ⟨_, rfl⟩
      rw [← hN] at e hn ⊢
      have hwn : IntKind.i64.wrap (n + 1) = n + 1 := wrap_i64 (by omega) (by omega)
      by_cases h : o.d = 0
      · rw [if_pos h] at e
        simp [hlt, hd, h, hw, hwn]
        exact ⟨⟨i + 1, by omega, e.symm, by omega⟩, by omega⟩
      · rw [if_neg h] at e
        simp [hlt, hd, h, hw]
        exact ⟨⟨i + 1, by omega, by omega, by omega⟩, by omega⟩
    · have e : i = l.length := by omega
      subst e
      simp
set_option maxRecDepth 100000 in
theorem c_l6At (l : List Ob) (m : Int) (hl : l.length ≤ 1048576) : FCall Try.prog 59 [rlist l, iv .i64 m] fun r H => r = iv .i64 (idxVal (atC l m)) ∧ H = [] := by
  refine fcall_gather [] id fun clk => acall_of_aw Try.func59 rfl ?_
  simp
  refine codeOk_loop [true, true, false, false, false, true] 0 (fun z => ∃ (i c : Nat), i ≤ l.length ∧ (∀ (j : Nat) (o : Ob), j < i → l[j]? = some o → isC m o = false) ∧ z = ⟨[rlist l, iv .i64 m, unknown, unknown, unknown, iv .i64 i] ++ List.replicate 14 unknown, [], c⟩)
    (fun z => match z.tmps.getD 5 unknown with | .one (.d (.s (.int _ i))) => l.length - i.toNat | _ => 0) ?_ ?_
  · simp
    exact ⟨0, by omega, fun j o h => absurd h (by omega), rfl⟩
  · rintro z ⟨i, c0, hi, hno, rfl⟩
    by_cases hlt : i < l.length
    · have hw := wrap_succ (i := i) (by omega)
      obtain ⟨o, t, hd, ho, _, htk⟩ := drop_at l hlt
      by_cases h : o.c = m
      · have hidx : atC l m = some i := by
          rw [atC, List.findIdx?_eq_some_iff_getElem]
          refine ⟨hlt, ?_, fun j hj => ?_⟩
          · have : l[i] = o := by rw [List.getElem?_eq_getElem hlt] at ho; exact Option.some.inj ho
            rw [this]; exact decide_eq_true h
          · have := hno j l[j] hj (List.getElem?_eq_getElem _)
            simpa using this
        simp [hlt, hd, h, hidx, idxVal]
      · simp [hlt, hd, h, hw]
        exact ⟨⟨i + 1, by omega, lt_succ_cases hno ho (decide_eq_false h), by omega⟩, by omega⟩
    · have e : i = l.length := by omega
      subst e
      have hidx : atC l m = none := by
        rw [atC, List.findIdx?_eq_none_iff]
        intro o ho
        obtain ⟨j, hj⟩ := List.mem_iff_getElem?.1 ho
        exact hno j o (List.getElem?_eq_some_iff.1 hj).1 hj
      simp [hidx, idxVal]
set_option maxRecDepth 100000 in
theorem c_l6Put (o : Ob) : FCall Try.prog 60 [o.av] fun r H => r = (mkW 1 o).av ∧ H = [] := by
  refine fcall_gather [] id fun clk => acall_of_aw Try.func60 rfl ?_
  simp [mkW]
set_option maxRecDepth 100000 in
theorem c_l6Delete (o : Ob) : FCall Try.prog 58 [o.av] fun r H => r = (mkW 2 o).av ∧ H = [] := by
  refine fcall_gather [] id fun clk => acall_of_aw Try.func58 rfl ?_
  simp [mkW]
set_option maxRecDepth 100000 in
theorem c_stepTo (op : Int) (o : Ob) : FCall Try.prog 30 [iv .i64 op, o.av] fun r H => r = .agg (ic 0 :: (mkW op o).cells) ∧ H = [] := by
  refine fcall_gather [] id fun clk => acall_of_aw Try.func30 rfl ?_
  simp [mkW]
end Go.Proofs.Ytiogdfliailenaa
