/-
  Lists of bodies: compared, marked, and asked for their marks.
-/
import Derived.Test.YtcfkmdapadejmaaF4
namespace Go.Proofs.Ytcfkmdapadejmaa
set_option maxRecDepth 100000
set_option linter.unusedSimpArgs false
set_option linter.unusedVariables false
set_option linter.unnecessarySimpa false
open Go Go.Abs Go.Proofs
theorem drop_at' {α : Type} (l : List α) {i : Nat} (h : i < l.length) : ∃ o t, l.drop i = o :: t ∧ l[i]? = some o ∧ l.take (i + 1) = l.take i ++ [o] := by
  refine ⟨l[i], l.drop (i + 1), List.drop_eq_getElem_cons h, List.getElem?_eq_getElem h, ?_⟩
  rw [List.take_succ_eq_append_getElem h]
abbrev SmallL (a : List (List UInt8)) : Prop := a.length ≤ 4000 ∧ ∀ b ∈ a, b.length ≤ 4000
/-- Bodies marked one behind the other, from k on. -/
def markL (k : Nat) : List (List UInt8) → List (List UInt8)
  | [] => []
  | b :: t => marks k b.length :: markL (k + b.length) t
def tot : List (List UInt8) → Nat
  | [] => 0
  | b :: t => b.length + tot t
def mkP (k : Nat) : List BB → List BB
  | [] => []
  | p :: t => (p.1, marks k p.2.length) :: mkP (k + p.2.length) t
theorem tot_take_succ {l : List (List UInt8)} {i : Nat} {b : List UInt8} (h : l[i]? = some b) : tot (l.take (i + 1)) = tot (l.take i) + b.length := by
  induction l generalizing i with
  | nil => simp at h
  | cons a t ih =>
    match i with
    | 0 => simp at h; subst h; simp [tot]
    | i + 1 => simp only [List.take_succ_cons, tot]; rw [ih (by simpa using h)]; omega
theorem tot_le {l : List (List UInt8)} (h : SmallL l) : tot l ≤ 16000000 := by
  obtain ⟨h1, h2⟩ := h
  have : tot l ≤ l.length * 4000 := by
    clear h1
    induction l with
    | nil => simp [tot]
    | cons b t ih =>
      have := ih fun q hq => h2 q (by simp [hq])
      have := h2 b (by simp)
      simp only [tot, List.length_cons]; omega
  omega
theorem tot_take_le (l : List (List UInt8)) (i : Nat) : tot (l.take i) ≤ tot l := by
  induction l generalizing i with
  | nil => simp
  | cons b t ih =>
    match i with
    | 0 => simp [tot]
    | i + 1 => simp only [List.take_succ_cons, tot]; have := ih i; omega
theorem markL_len (k : Nat) (l : List (List UInt8)) : (markL k l).length = l.length := by
  induction l generalizing k with
  | nil => rfl
  | cons b t ih => simp [markL, ih]
theorem markL_at {k : Nat} {l : List (List UInt8)} {i : Nat} {b : List UInt8} (h : l[i]? = some b) : (markL k l)[i]? = some (marks (k + tot (l.take i)) b.length) := by
  induction l generalizing i k with
  | nil => simp at h
  | cons a t ih =>
    match i with
    | 0 => simp at h; subst h; simp [markL, tot]
    | i + 1 =>
      simp only [markL, List.getElem?_cons_succ, List.take_succ_cons, tot]
      rw [ih (by simpa using h)]
      congr 2; omega
theorem mkP_len (k : Nat) (l : List BB) : (mkP k l).length = l.length := by
  induction l generalizing k with
  | nil => rfl
  | cons b t ih => simp [mkP, ih]
theorem mkP_snd (k : Nat) (l : List BB) : (mkP k l).map (·.2) = markL k (l.map (·.2)) := by
  induction l generalizing k with
  | nil => rfl
  | cons b t ih => simp [mkP, markL, ih]
theorem mkP_snoc (k : Nat) (l : List BB) (p : BB) : mkP k (l ++ [p]) = mkP k l ++ [(p.1, marks (k + tot (l.map (·.2))) p.2.length)] := by
  induction l generalizing k with
  | nil => simp [mkP, tot]
  | cons b t ih => simp only [List.cons_append, mkP, ih, List.map_cons, tot]; congr 3; rw [Nat.add_assoc]
theorem mkP_outs (is : List Nat) (k : Nat) (ps : List BB) : outsL is (mkP k ps) = outsL is ps := by
  induction ps generalizing is k with
  | nil => rfl
  | cons p t ih =>
    cases is with
    | nil => rfl
    | cons i is => simp only [mkP, outsL, ih, marks_length]
theorem outsL_at {is : List Nat} {ps : List BB} {j i : Nat} {p : BB} (hi : is[j]? = some i) (hp : ps[j]? = some p) : (outsL is ps)[j]? = some (.own i p.1 0 p.2.length) := by
  induction is generalizing ps j with
  | nil => simp at hi
  | cons a is ih =>
    cases ps with
    | nil => simp at hp
    | cons q ps =>
      match j with
      | 0 => simp at hi hp; subst hi; subst hp; rfl
      | j + 1 => simp only [outsL, List.getElem?_cons_succ]; exact ih (by simpa using hi) (by simpa using hp)
end Go.Proofs.Ytcfkmdapadejmaa
