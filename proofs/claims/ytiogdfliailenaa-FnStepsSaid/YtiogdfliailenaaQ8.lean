/-
  What a store can be: as the model tells it.
  What a store can be: the model's StoreFault.
-/
import Derived.Test.YtiogdfliailenaaQ7
namespace Go.Proofs.Ytiogdfliailenaa
set_option maxRecDepth 100000
set_option linter.unusedSimpArgs false
set_option linter.unusedVariables false
set_option linter.unnecessarySimpa false
open Go Go.Abs Go.Proofs
abbrev optr (o : Ob) (x : List DC) : AV := .one (.d (.rptr (o.dcs ++ x)))
def less (a b : Ob) : Bool := decide (a.kind < b.kind) || (decide (a.kind = b.kind) && decide (a.id < b.id))
set_option maxRecDepth 100000 in
theorem c_l3Less (a b : Ob) (x y : List DC) : FCall Try.prog 56 [optr a x, optr b y] fun r H => r = bv (less a b) ∧ H = [] := by
  intro clk
  refine acall_of_aw Try.func56 rfl ?_
  simp
  refine codeOk_drawA mixed (by kernel_rfl) ?_
  by_cases h1 : a.kind < b.kind
  · simp [h1, less]
  · by_cases h2 : a.kind = b.kind
    · simp [h1, h2, less]
    · simp [h1, h2, less]
def rises : List Ob → Bool
  | a :: b :: t => less a b && rises (b :: t)
  | _ => true
theorem rises_iff (l : List Ob) : rises l = true ↔ ∀ (j : Nat) (a b : Ob), l[j]? = some a → l[j + 1]? = some b → less a b = true := by
  induction l with
  | nil => simp [rises]
  | cons a t ih =>
    cases t with
    | nil => simp [rises]
    | cons b t =>
      rw [rises, Bool.and_eq_true, ih]
      constructor
      · rintro ⟨h1, h2⟩ j x y hx hy
        match j with
        | 0 => simp at hx hy; subst hx; subst hy; exact h1
        | j + 1 => exact h2 j x y (by simpa using hx) (by simpa using hy)
      · intro h
        exact ⟨h 0 a b rfl rfl, fun j x y hx hy => h (j + 1) x y (by simpa using hx) (by simpa using hy)⟩
theorem rises_not {l : List Ob} {j : Nat} {a b : Ob} (ha : l[j]? = some a) (hb : l[j + 1]? = some b) (h : less a b = false) : rises l = false := by
  rw [Bool.eq_false_iff]; intro hr
  rw [(rises_iff l).1 hr j a b ha hb] at h; cases h
/-- The first fault of objects, one by one. -/
def obsBad (rev : Int) : List Ob → Int
  | [] => 0
  | o :: t => if obFault o = 0 then (if 1 ≤ o.rev ∧ o.rev ≤ rev then obsBad rev t else 3) else obFault o
theorem obsBad_take {rev : Int} {l : List Ob} {i : Nat} {o : Ob} (h : obsBad rev (l.take i) = 0) (ho : l[i]? = some o) : obsBad rev l = obsBad rev (l.drop i) := by
  induction l generalizing i with
  | nil => simp
  | cons a t ih =>
    match i with
    | 0 => simp
    | i + 1 =>
      rw [List.take_succ_cons, obsBad] at h
      rw [obsBad, List.drop_succ_cons]
      split at h
      · rename_i h1
        rw [if_pos h1]
        split at h
        · rename_i h2
          rw [if_pos h2]
          exact ih h (by simpa using ho)
        · omega
      · rename_i h1; exact absurd h h1
theorem obsBad_snoc {rev : Int} {l : List Ob} {o : Ob} (h : obsBad rev l = 0) (h1 : obFault o = 0) (h2 : 1 ≤ o.rev ∧ o.rev ≤ rev) : obsBad rev (l ++ [o]) = 0 := by
  induction l with
  | nil => simp [obsBad, h1, h2]
  | cons a t ih =>
    rw [obsBad] at h
    rw [List.cons_append, obsBad]
    split at h
    · rename_i g1
      rw [if_pos g1]
      split at h
      · rename_i g2
        rw [if_pos g2]; exact ih h
      · omega
    · rename_i g1; exact absurd h g1
/-- The changes of a history: from the number 'next' on, none below 'low'. -/
def histAll (low : Int) : Int → List Ch → Bool
  | _, [] => true
  | next, c :: t => decide (obFault c.ob = 0 ∧ c.ob.rev = c.rev ∧ c.rev = next ∧ low ≤ c.rev) && histAll low (next + 1) t
def histOk (rev : Int) (l : List Ch) : Bool := decide (12 ≤ l.length ∨ (l.length : Int) = rev) && histAll 1 (rev - l.length + 1) l
theorem histAll_iff (low : Int) (next : Int) (l : List Ch) : histAll low next l = true ↔ ∀ (j : Nat) (c : Ch), l[j]? = some c → obFault c.ob = 0 ∧ c.ob.rev = c.rev ∧ c.rev = next + j ∧ low ≤ c.rev := by
  induction l generalizing next with
  | nil => simp [histAll]
  | cons a t ih =>
    rw [histAll, Bool.and_eq_true, ih, decide_eq_true_eq]
    constructor
    · rintro ⟨h1, h2⟩ j c hc
      match j with
      | 0 => simp at hc; subst hc; exact ⟨h1.1, h1.2.1, by simpa using h1.2.2.1, h1.2.2.2⟩
      | j + 1 =>
        obtain ⟨g1, g2, g3, g4⟩ := h2 j c (by simpa using hc)
        exact ⟨g1, g2, by push_cast; omega, g4⟩
    · intro h
      refine ⟨?_, fun j c hc => ?_⟩
      · obtain ⟨g1, g2, g3, g4⟩ := h 0 a rfl
        exact ⟨g1, g2, by simpa using g3, g4⟩
      · obtain ⟨g1, g2, g3, g4⟩ := h (j + 1) c (by simpa using hc)
        exact ⟨g1, g2, by push_cast at g3; omega, g4⟩
def stFault (s : St) : Int :=
  if 0 ≤ s.rev ∧ s.rev ≤ 100000 then
    if s.obs.length ≤ 60 ∧ s.hist.length ≤ 12 then
      if obsBad s.rev s.obs = 0 then
        if rises s.obs then
          if histOk s.rev s.hist then 0 else 8
        else 1
      else obsBad s.rev s.obs
    else 2
  else 3
def chOk (low next : Int) (c : Ch) : Prop := obFault c.ob = 0 ∧ c.ob.rev = c.rev ∧ c.rev = next ∧ low ≤ c.rev
theorem histAll_not {low next : Int} {l : List Ch} {j : Nat} {c : Ch} (hc : l[j]? = some c) (h : ¬ chOk low (next + j) c) : histAll low next l = false := by
  rw [Bool.eq_false_iff]; intro hr; exact h ((histAll_iff low next l).1 hr j c hc)
theorem lt_succ_cases {α : Type} {l : List α} {i : Nat} {o : α} {p : Nat → α → Prop} (h : ∀ (j : Nat) (c : α), j < i → l[j]? = some c → p j c) (ho : l[i]? = some o) (hp : p i o) : ∀ (j : Nat) (c : α), j < i + 1 → l[j]? = some c → p j c := by
  intro j c hj hc
  rcases Nat.lt_or_ge j i with h1 | h1
  · exact h j c h1 hc
  · obtain rfl : j = i := by omega
    rw [ho] at hc; cases hc; exact hp
end Go.Proofs.Ytiogdfliailenaa
namespace Go.Proofs.Ytiogdfliailenaa
set_option maxRecDepth 100000
set_option linter.unusedSimpArgs false
set_option linter.unusedVariables false
set_option linter.unnecessarySimpa false
open Go Go.Abs Go.Proofs
/-- Two that stand one behind the other. -/
theorem drop_two {α : Type} (l : List α) {k : Nat} (h : k + 1 < l.length) : ∃ a b t, l.drop k = a :: b :: t ∧ l.drop (k + 1) = b :: t ∧ l[k]? = some a ∧ l[k + 1]? = some b := by
  refine ⟨l[k], l[k + 1], l.drop (k + 2), ?_, List.drop_eq_getElem_cons h, List.getElem?_eq_getElem _, List.getElem?_eq_getElem _⟩
  rw [List.drop_eq_getElem_cons (by omega), List.drop_eq_getElem_cons h]
theorem obsBad_at {rev : Int} {l : List Ob} {i : Nat} {o : Ob} (h : obsBad rev (l.take i) = 0) (ho : l[i]? = some o) : obsBad rev l = if obFault o = 0 then (if 1 ≤ o.rev ∧ o.rev ≤ rev then obsBad rev (l.drop (i + 1)) else 3) else obFault o := by
  have hi := (List.getElem?_eq_some_iff.1 ho).1
  rw [obsBad_take h ho, List.drop_eq_getElem_cons hi, obsBad]
  have : l[i] = o := by rw [List.getElem?_eq_getElem hi] at ho; exact Option.some.inj ho
  rw [this]
theorem stFault_ok {s : St} (h : stFault s = 0) : s.obs.length ≤ 60 ∧ rises s.obs = true := by
  unfold stFault at h
  split at h
  · split at h
    · rename_i h2
      split at h
      · split at h
        · rename_i h4; exact ⟨h2.1, h4⟩
        · omega
      · rename_i h3; exact absurd h h3
    · omega
  · omega
end Go.Proofs.Ytiogdfliailenaa
