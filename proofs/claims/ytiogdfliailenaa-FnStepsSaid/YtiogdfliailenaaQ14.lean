/-
  Objects cloned; a store's list on both sides; marks in objects.
  Marks in changes: each cell its own number; held again.
  errors.Is, asked of an error of the program's own and of nil: Go's own text is walked once.
  errors.Is as an abstract call; what a refusal's code is.
-/
import Derived.Test.YtiogdfliailenaaQ13
import Derived.Test.YtiogdfliailenaaK6
import Derived.Test.YtiogdfliailenaaTy
import Derived.WalkKit
import Derived.LaidEql
import Derived.Stop.Asserts
import Derived.RowKitTokens
namespace Go.Proofs.Ytiogdfliailenaa
set_option maxRecDepth 100000
set_option linter.unusedSimpArgs false
set_option linter.unusedVariables false
set_option linter.unnecessarySimpa false
open Go Go.Abs Go.Proofs
theorem stFault_ok2 {s : St} (h : stFault s = 0) : s.obs.length ≤ 60 ∧ s.hist.length ≤ 12 := by
  unfold stFault at h
  split at h
  · split at h
    · rename_i h2; exact h2
    · omega
  · omega
set_option maxRecDepth 100000 in
theorem c_l4List (s : St) (h1 : s.obs.length ≤ 1048576) : FCall Try.prog 77 [.one (.d (.rptr [dc s.rev, .list s.obs.length (rds s.obs), .list s.hist.length (rds s.hist)]))] fun r H => ∃ g, r = .agg [ic s.rev, .own 0 g 0 s.obs.length] ∧ H = [some ⟨g, 30, 7, rcs s.obs⟩] := by
  refine fcall_gather [1] (fun j => j - 1) fun clk => acall_of_aw Try.func77 rfl ?_
  simp
  refine codeOk_drawS [(.s, 0), (.s, 1), (.s, 2), (.s, 3), (.s, 5), (.s, 6), (.s, 7), (.s, 8), (.n, 4), (.n, 9), (.n, 10), (.n, 11)] mixed rfl rfl (by kernel_rfl) ?_
  simp
  exact ⟨by omega, by show s.obs.length ≤ 9223372036854775807; omega⟩
/-- An object of marks. -/
def mkOb (x : Int) : Ob := ⟨x, x + 1, x + 1 + 1, x + 1 + 1 + 1, x + 1 + 1 + 1 + 1, x + 1 + 1 + 1 + 1 + 1, x + 1 + 1 + 1 + 1 + 1 + 1⟩
def obMarks : Int → Nat → List Ob
  | _, 0 => []
  | k, n + 1 => mkOb k :: obMarks (k + 7) n
@[simp] theorem obMarks_length (k : Int) (n : Nat) : (obMarks k n).length = n := by
  induction n generalizing k with
  | zero => rfl
  | succ n ih => simp [obMarks, ih]
theorem obMarks_at (k : Int) (n i : Nat) (h : i < n) : (obMarks k n)[i]? = some (mkOb (k + 7 * i)) := by
  induction n generalizing k i with
  | zero => omega
  | succ n ih =>
    match i with
    | 0 => simp [obMarks]
    | i + 1 =>
      simp only [obMarks, List.getElem?_cons_succ]
      rw [ih (k + 7) i (by omega)]
      congr 2; push_cast; omega
theorem take_obMarks_set (l : List Ob) (k : Int) (i : Nat) (h : i < l.length) : (obMarks k i ++ l.drop i).set i (mkOb (k + 7 * i)) = obMarks k (i + 1) ++ l.drop (i + 1) := by
  apply List.ext_getElem?
  intro j
  simp only [List.getElem?_set, List.getElem?_append, obMarks_length, List.length_append, List.length_drop, List.getElem?_drop]
  by_cases h1 : i = j
  · subst h1
    rw [if_pos rfl, if_pos (by omega), if_pos (by omega), obMarks_at _ _ _ (by omega)]
  · rw [if_neg h1]
    by_cases h2 : j < i
    · rw [if_pos h2, if_pos (by omega), obMarks_at _ _ _ h2, obMarks_at _ _ _ (by omega)]
    · rw [if_neg h2, if_neg (by omega)]; congr 1; omega
theorem rcs_split {α : Type} [Row α] (l : List α) {i : Nat} (h : i < l.length) : ∃ o : α, rcs l = rcs (l.take i) ++ ((Row.dcs o).map AC.d ++ rcs (l.drop (i + 1))) ∧ ∀ x : α, rcs (l.set i x) = rcs (l.take i) ++ ((Row.dcs x).map AC.d ++ rcs (l.drop (i + 1))) := by
  refine ⟨l[i], ?_, fun x => ?_⟩
  · conv => lhs; rw [← List.take_append_drop i l, List.drop_eq_getElem_cons h]
    rw [← rcs_append, rcs_cons]
  · rw [List.set_eq_take_append_cons_drop, if_pos h, ← rcs_append, rcs_cons]
theorem set_app {α : Type} {A L : List α} {n j : Nat} {v : α} (h : A.length = n) : (A ++ L).set (n + j) v = A ++ L.set j v := by
  rw [List.set_append, if_neg (by omega)]; congr 2; omega
theorem set7 (l : List Ob) {i : Nat} (h : i < l.length) (a b c d e f g : Int) : ((((((((rcs l).set (i * 7) (ic a)).set (i * 7 + 1) (ic b)).set (i * 7 + 2) (ic c)).set (i * 7 + 3) (ic d)).set (i * 7 + 4) (ic e)).set (i * 7 + 5) (ic f)).set (i * 7 + 6) (ic g)) = rcs (l.set i ⟨a, b, c, d, e, f, g⟩) := by
  obtain ⟨o, h1, h2⟩ := rcs_split l h
  have hA : (rcs (l.take i)).length = i * 7 := by simp; omega
  have h0 := fun (L : List AC) v => set_app (A := rcs (l.take i)) (L := L) (j := 0) (v := v) hA
  simp only [Nat.add_zero] at h0
  rw [h2, h1, h0, set_app hA, set_app hA, set_app hA, set_app hA, set_app hA, set_app hA]
  rfl
theorem set9 (l : List Ch) {i : Nat} (h : i < l.length) (r : Int) (z : Bool) (a b c d e f g : Int) : ((((((((((rcs l).set (i * 9) (ic r)).set (i * 9 + 1) (.d (.s (.bool z)))).set (i * 9 + 2) (ic a)).set (i * 9 + 3) (ic b)).set (i * 9 + 4) (ic c)).set (i * 9 + 5) (ic d)).set (i * 9 + 6) (ic e)).set (i * 9 + 7) (ic f)).set (i * 9 + 8) (ic g)) = rcs (l.set i ⟨r, z, ⟨a, b, c, d, e, f, g⟩⟩) := by
  obtain ⟨o, h1, h2⟩ := rcs_split l h
  have hA : (rcs (l.take i)).length = i * 9 := by simp; omega
  have h0 := fun (L : List AC) v => set_app (A := rcs (l.take i)) (L := L) (j := 0) (v := v) hA
  simp only [Nat.add_zero] at h0
  rw [h2, h1, h0, set_app hA, set_app hA, set_app hA, set_app hA, set_app hA, set_app hA, set_app hA, set_app hA]
  rfl
end Go.Proofs.Ytiogdfliailenaa
namespace Go.Proofs.Ytiogdfliailenaa
set_option maxRecDepth 100000
set_option linter.unusedSimpArgs false
set_option linter.unusedVariables false
set_option linter.unnecessarySimpa false
open Go Go.Abs Go.Proofs
def mkCh (x : Int) : Ch := ⟨x, (x + 1).tmod 3 == 0, ⟨x + 1 + 1, x + 1 + 1 + 1, x + 1 + 1 + 1 + 1, x + 1 + 1 + 1 + 1 + 1, x + 1 + 1 + 1 + 1 + 1 + 1, x + 1 + 1 + 1 + 1 + 1 + 1 + 1, x + 1 + 1 + 1 + 1 + 1 + 1 + 1 + 1⟩⟩
def chMarks (k : Int) : Nat → List Ch
  | 0 => []
  | n + 1 => mkCh k :: chMarks (k + 9) n
@[simp] theorem chMarks_length (k : Int) (n : Nat) : (chMarks k n).length = n := by
  induction n generalizing k with
  | zero => rfl
  | succ n ih => simp [chMarks, ih]
theorem chMarks_at (k : Int) (n i : Nat) (h : i < n) : (chMarks k n)[i]? = some (mkCh (k + 9 * i)) := by
  induction n generalizing k i with
  | zero => omega
  | succ n ih =>
    match i with
    | 0 => simp [chMarks]
    | i + 1 =>
      simp only [chMarks, List.getElem?_cons_succ]
      rw [ih (k + 9) i (by omega)]
      congr 2; push_cast; omega
theorem take_chMarks_set (l : List Ch) (k : Int) (i : Nat) (h : i < l.length) : (chMarks k i ++ l.drop i).set i (mkCh (k + 9 * i)) = chMarks k (i + 1) ++ l.drop (i + 1) := by
  apply List.ext_getElem?
  intro j
  simp only [List.getElem?_set, List.getElem?_append, chMarks_length, List.length_append, List.length_drop, List.getElem?_drop]
  by_cases h1 : i = j
  · subst h1
    rw [if_pos rfl, if_pos (by omega), if_pos (by omega), chMarks_at _ _ _ (by omega)]
  · rw [if_neg h1]
    by_cases h2 : j < i
    · rw [if_pos h2, if_pos (by omega), chMarks_at _ _ _ h2, chMarks_at _ _ _ (by omega)]
    · rw [if_neg h2, if_neg (by omega)]; congr 1; omega
end Go.Proofs.Ytiogdfliailenaa
namespace Go.Proofs.Ytiogdfliailenaa
set_option maxRecDepth 100000
set_option linter.unusedSimpArgs false
set_option linter.unusedVariables false
set_option linter.unnecessarySimpa false
open Go Go.RowKit Go.Extern.Stop Go.Stop Go.Extern
end Go.Proofs.Ytiogdfliailenaa
namespace Go.Proofs.Ytiogdfliailenaa
set_option maxRecDepth 100000
set_option linter.unusedSimpArgs false
set_option linter.unusedVariables false
set_option linter.unnecessarySimpa false
open Go Go.Abs Go.Proofs
/-- A refusal: none, or one of the four errors. -/
inductive Rf where
  | none | stale | full | state | taken
  deriving DecidableEq
def Rf.code : Rf → Int
  | .none => 0
  | .stale => 6
  | .full => 7
  | .state => 8
  | .taken => 9
end Go.Proofs.Ytiogdfliailenaa
