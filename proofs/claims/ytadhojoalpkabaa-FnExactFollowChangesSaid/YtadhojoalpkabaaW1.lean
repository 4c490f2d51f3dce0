/-
  What the laws' own helpers do: they copy, compare, mark and ask marks.
-/
import Derived.Test.YtadhojoalpkabaaTy
import Derived.Test.YtadhojoalpkabaaK3
namespace Go.Proofs.Ytadhojoalpkabaa
set_option maxRecDepth 100000
set_option linter.unusedSimpArgs false
set_option linter.unusedVariables false
set_option linter.unnecessarySimpa false
open Go Go.Abs Go.Proofs

theorem c_l1In (n lo hi : Int) : FCall Try.prog 31 [iv .i64 n, iv .i64 lo, iv .i64 hi] fun r H => r = bv (decide (lo ≤ n) && decide (n ≤ hi)) ∧ H = [] := by
  intro clk
  refine acall_of_aw Try.func31 rfl ?_
  by_cases h : lo ≤ n <;> simp [h]

theorem take_set_append (bs : List UInt8) (i : Nat) (h : i < bs.length) : (bs.take i ++ List.replicate (bs.length - i) 0).set i bs[i] = bs.take (i + 1) ++ List.replicate (bs.length - (i + 1)) 0 := by
  have h1 : bs.length - i = (bs.length - (i + 1)) + 1 := by omega
  rw [h1, List.replicate_succ, List.set_append_right _ _ (by rw [List.length_take]; omega), List.take_succ_eq_append_getElem h]
  have : i - (bs.take i).length = 0 := by rw [List.length_take]; omega
  rw [this, List.append_assoc]
  rfl


theorem take_snoc_eq {a b : List UInt8} {i : Nat} (ha : i < a.length) (hb : i < b.length) (h : a.take i = b.take i) (he : a[i] = b[i]) : a.take (i + 1) = b.take (i + 1) := by
  rw [List.take_succ_eq_append_getElem ha, List.take_succ_eq_append_getElem hb, h, he]


/-- The marks: one number behind another, from k on. -/
def marks : Nat → Nat → List UInt8
  | _, 0 => []
  | k, n + 1 => UInt8.ofNat (k % 256) :: marks (k + 1) n
theorem marks_length (k n : Nat) : (marks k n).length = n := by
  induction n generalizing k with
  | zero => rfl
  | succ n ih => simp [marks, ih]
theorem marks_at (k n i : Nat) (h : i < n) : (marks k n)[i]? = some (UInt8.ofNat ((k + i) % 256)) := by
  induction n generalizing k i with
  | zero => omega
  | succ n ih =>
    match i with
    | 0 => simp [marks]
    | i + 1 => simp only [marks, List.getElem?_cons_succ]; rw [ih (k + 1) i (by omega)]; congr 3; omega
theorem u8_wrap (k : Nat) : IntKind.u8.wrap (k : Int) = ((UInt8.ofNat (k % 256)).toNat : Int) := by
  rw [wrap_u8, UInt8.toNat_ofNat']
  omega

theorem take_marks_set (bs : List UInt8) (k i : Nat) (h : i < bs.length) :
    (marks k i ++ bs.drop i).set i (UInt8.ofNat ((k + i) % 256)) = marks k (i + 1) ++ bs.drop (i + 1) := by
  apply List.ext_getElem?
  intro j
  simp only [List.getElem?_set, List.getElem?_append, marks_length, List.length_append, List.length_drop, List.getElem?_drop]
  by_cases h1 : i = j
  · subst h1
    rw [if_pos rfl, if_pos (by omega), if_pos (by omega), marks_at _ _ _ (by omega)]
  · rw [if_neg h1]
    by_cases h2 : j < i
    · rw [if_pos h2, if_pos (by omega), marks_at _ _ _ h2, marks_at _ _ _ (by omega)]
    · rw [if_neg h2, if_neg (by omega)]; congr 1; omega





end Go.Proofs.Ytadhojoalpkabaa
