/-
  Marks in changes: each cell its own number; held again.
-/
import Derived.Test.YtledabakodggcaaGreatDoorC3
namespace Go.Proofs.YtledabakodggcaaGreatDoor
set_option maxRecDepth 100000
set_option linter.unusedSimpArgs false
set_option linter.unusedVariables false
set_option linter.unnecessarySimpa false
open Go Go.Abs Go.Proofs
def mkCh (x : Int) : Ch := ⟨x, (x + 1).tmod 3 == 0, ⟨x + 1 + 1, x + 1 + 1 + 1, x + 1 + 1 + 1 + 1, x + 1 + 1 + 1 + 1 + 1, x + 1 + 1 + 1 + 1 + 1 + 1, x + 1 + 1 + 1 + 1 + 1 + 1 + 1, x + 1 + 1 + 1 + 1 + 1 + 1 + 1 + 1⟩⟩
def chMarks (k : Int) : Nat → List Ch
  | 0 => []
  | n + 1 => mkCh k :: chMarks (k + 9) n
@[simp] theorem chMarks_length (k : Int) (n : Nat) : (chMarks k n).length = n := by
  induction n generalizing k with
  | zero => rfl
  | succ n ih => simp [chMarks, ih]
theorem chMarks_at (k : Int) (n i : Nat) (h : i < n) : (chMarks k n)[i]? = some (mkCh (k + 9 * i)) := by
  induction n generalizing k i with
  | zero => omega
  | succ n ih =>
    match i with
    | 0 => simp [chMarks]
    | i + 1 =>
      simp only [chMarks, List.getElem?_cons_succ]
      rw [ih (k + 9) i (by omega)]
      congr 2; push_cast; omega
theorem take_chMarks_set (l : List Ch) (k : Int) (i : Nat) (h : i < l.length) : (chMarks k i ++ l.drop i).set i (mkCh (k + 9 * i)) = chMarks k (i + 1) ++ l.drop (i + 1) := by
  apply List.ext_getElem?
  intro j
  simp only [List.getElem?_set, List.getElem?_append, chMarks_length, List.length_append, List.length_drop, List.getElem?_drop]
  by_cases h1 : i = j
  · subst h1
    rw [if_pos rfl, if_pos (by omega), if_pos (by omega), chMarks_at _ _ _ (by omega)]
  · rw [if_neg h1]
    by_cases h2 : j < i
    · rw [if_pos h2, if_pos (by omega), chMarks_at _ _ _ h2, chMarks_at _ _ _ (by omega)]
    · rw [if_neg h2, if_neg (by omega)]; congr 1; omega
set_option maxRecDepth 100000 in
set_option maxHeartbeats 1000000 in
theorem c_markChangeS2 (l : List Ch) (k : Int) (g : Nat) (hn : l.length ≤ 1048576) (hk : 0 ≤ k ∧ k ≤ 1073741824) : RCall Tryz.prog 65 [.one (.own 0 g 0 l.length), iv .i64 k] ⟨g, 103, 9, rcs l⟩ fun r B Hn =>
    r = iv .i64 (k + 9 * l.length) ∧ B = ⟨g, 103, 9, rcs (chMarks k l.length)⟩ ∧ Hn = [] := by
  intro clk
  refine acall_of_aw Tryz.func65 rfl ?_
  simp
  refine codeOk_loop [true, true, false, false, false, true] 1 (fun s => ∃ (i : Nat) (c : Nat), i ≤ l.length ∧ s = ⟨[.one (.own 0 g 0 l.length), iv .i64 (k + 9 * i), unknown, unknown, unknown, iv .i64 i] ++ List.replicate 79 unknown,
      [some ⟨g, 103, 9, rcs (chMarks k i ++ l.drop i)⟩], c⟩)
    (fun s => match s.tmps.getD 5 unknown with | .one (.d (.s (.int _ i))) => l.length - i.toNat | _ => 0) ?_ ?_
  · simp
    exact ⟨0, Nat.zero_le _, by simp, rfl⟩
  · rintro s ⟨i, c, hi, rfl⟩
    by_cases hlt : i < l.length
    · have hw := wrap_succ (i := i) (by omega)
      obtain ⟨x, hx⟩ : ∃ x : Int, x = k + 9 * i := ⟨_, rfl⟩
      rw [← hx]
      have w1 : IntKind.i64.wrap (x + 1) = x + 1 := wrap_i64 (by omega) (by omega)
      have w2 : IntKind.i64.wrap (x + 1 + 1) = x + 1 + 1 := wrap_i64 (by omega) (by omega)
      have w3 : IntKind.i64.wrap (x + 1 + 1 + 1) = x + 1 + 1 + 1 := wrap_i64 (by omega) (by omega)
      have w4 : IntKind.i64.wrap (x + 1 + 1 + 1 + 1) = x + 1 + 1 + 1 + 1 := wrap_i64 (by omega) (by omega)
      have w5 : IntKind.i64.wrap (x + 1 + 1 + 1 + 1 + 1) = x + 1 + 1 + 1 + 1 + 1 := wrap_i64 (by omega) (by omega)
      have w6 : IntKind.i64.wrap (x + 1 + 1 + 1 + 1 + 1 + 1) = x + 1 + 1 + 1 + 1 + 1 + 1 := wrap_i64 (by omega) (by omega)
      have w7 : IntKind.i64.wrap (x + 1 + 1 + 1 + 1 + 1 + 1 + 1) = x + 1 + 1 + 1 + 1 + 1 + 1 + 1 := wrap_i64 (by omega) (by omega)
      have w8 : IntKind.i64.wrap (x + 1 + 1 + 1 + 1 + 1 + 1 + 1 + 1) = x + 1 + 1 + 1 + 1 + 1 + 1 + 1 + 1 := wrap_i64 (by omega) (by omega)
      have w9 : IntKind.i64.wrap (x + 1 + 1 + 1 + 1 + 1 + 1 + 1 + 1 + 1) = x + 1 + 1 + 1 + 1 + 1 + 1 + 1 + 1 + 1 := wrap_i64 (by omega) (by omega)
      have hL : (chMarks k i ++ l.drop i).length = l.length := by simp; omega
      have hs := set9 (chMarks k i ++ l.drop i) (i := i) (by omega) x ((x + 1).tmod 3 == 0) (x + 1 + 1) (x + 1 + 1 + 1) (x + 1 + 1 + 1 + 1) (x + 1 + 1 + 1 + 1 + 1) (x + 1 + 1 + 1 + 1 + 1 + 1) (x + 1 + 1 + 1 + 1 + 1 + 1 + 1) (x + 1 + 1 + 1 + 1 + 1 + 1 + 1 + 1)
      have ht := take_chMarks_set l k i hlt
      rw [← hx] at ht
      rw [show (⟨x, (x + 1).tmod 3 == 0, ⟨x + 1 + 1, x + 1 + 1 + 1, x + 1 + 1 + 1 + 1, x + 1 + 1 + 1 + 1 + 1, x + 1 + 1 + 1 + 1 + 1 + 1, x + 1 + 1 + 1 + 1 + 1 + 1 + 1, x + 1 + 1 + 1 + 1 + 1 + 1 + 1 + 1⟩⟩ : Ch) = mkCh x from rfl, ht] at hs
      obtain ⟨M, hM⟩ : ∃ M, M = chMarks k i ++ l.drop i := ⟨_, rfl⟩
      rw [← hM] at hs hL ⊢
      have hL2 : (rcs M).length = l.length * 9 := by simp [hL]
      simp [hlt, hw, w1, w2, w3, w4, w5, w6, w7, w8, w9, hL2, hs]
      refine ⟨by omega, by omega, by omega, by omega, by omega, by omega, by omega, by omega, by omega, ⟨i + 1, by omega, ⟨by push_cast; omega, by push_cast; rfl⟩, rfl⟩, by omega⟩
    · have e : i = l.length := by omega
      subst e
      simp
theorem c_markChangeSn (k : Int) : FCall Tryz.prog 65 [.one (.d (.list 0 [])), iv .i64 k] fun r H => r = iv .i64 k ∧ H = [] := by
  intro clk
  refine acall_of_aw Tryz.func65 rfl ?_
  simp
  refine codeOk_rounds 1 ?_
  rw [AR_succ]
  simp
set_option maxRecDepth 100000 in
set_option maxHeartbeats 1000000 in
theorem c_heldChangeS (n : Nat) (k : Int) (hn : n ≤ 1048576) (hk : 0 ≤ k ∧ k ≤ 1073741824) : FCall Tryz.prog 67 [.one (.d (.list n (rds (chMarks k n)))), iv .i64 k] fun r H => r = iv .i64 (k + 9 * n) ∧ H = [] := by
  intro clk
  refine acall_of_aw Tryz.func67 rfl ?_
  simp
  refine codeOk_loop [true, true, false, false, false, true] 0 (fun s => ∃ (i c : Nat), i ≤ n ∧ s = ⟨[.one (.d (.list n (rds (chMarks k n)))), iv .i64 (k + 9 * i), unknown, unknown, unknown, iv .i64 i] ++ List.replicate 97 unknown, [], c⟩)
    (fun s => match s.tmps.getD 5 unknown with | .one (.d (.s (.int _ i))) => n - i.toNat | _ => 0) ?_ ?_
  · simp
    exact ⟨0, Nat.zero_le _, by simp, rfl⟩
  · rintro s ⟨i, c, hi, rfl⟩
    by_cases hlt : i < n
    · have hw := wrap_succ (i := i) (by omega)
      obtain ⟨x, hx⟩ : ∃ x : Int, x = k + 9 * i := ⟨_, rfl⟩
      rw [← hx]
      have w1 : IntKind.i64.wrap (x + 1) = x + 1 := wrap_i64 (by omega) (by omega)
      have w2 : IntKind.i64.wrap (x + 1 + 1) = x + 1 + 1 := wrap_i64 (by omega) (by omega)
      have w3 : IntKind.i64.wrap (x + 1 + 1 + 1) = x + 1 + 1 + 1 := wrap_i64 (by omega) (by omega)
      have w4 : IntKind.i64.wrap (x + 1 + 1 + 1 + 1) = x + 1 + 1 + 1 + 1 := wrap_i64 (by omega) (by omega)
      have w5 : IntKind.i64.wrap (x + 1 + 1 + 1 + 1 + 1) = x + 1 + 1 + 1 + 1 + 1 := wrap_i64 (by omega) (by omega)
      have w6 : IntKind.i64.wrap (x + 1 + 1 + 1 + 1 + 1 + 1) = x + 1 + 1 + 1 + 1 + 1 + 1 := wrap_i64 (by omega) (by omega)
      have w7 : IntKind.i64.wrap (x + 1 + 1 + 1 + 1 + 1 + 1 + 1) = x + 1 + 1 + 1 + 1 + 1 + 1 + 1 := wrap_i64 (by omega) (by omega)
      have w8 : IntKind.i64.wrap (x + 1 + 1 + 1 + 1 + 1 + 1 + 1 + 1) = x + 1 + 1 + 1 + 1 + 1 + 1 + 1 + 1 := wrap_i64 (by omega) (by omega)
      have w9 : IntKind.i64.wrap (x + 1 + 1 + 1 + 1 + 1 + 1 + 1 + 1 + 1) = x + 1 + 1 + 1 + 1 + 1 + 1 + 1 + 1 + 1 := wrap_i64 (by omega) (by omega)
      obtain ⟨o, t, hd, ho, _, _⟩ := drop_at (chMarks k n) (i := i) (by simpa using hlt)
      rw [chMarks_at k n i hlt, ← hx] at ho
      cases ho
      simp [hlt, hw, w1, w2, w3, w4, w5, w6, w7, w8, w9, hd, mkCh]
      exact ⟨⟨i + 1, by omega, by push_cast; omega, by push_cast; rfl⟩, by omega⟩
    · have e : i = n := by omega
      subst e
      simp
end Go.Proofs.YtledabakodggcaaGreatDoor
