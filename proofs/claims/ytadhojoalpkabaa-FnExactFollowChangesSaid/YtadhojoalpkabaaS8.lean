/-
  Objects by their keys: the model's searches.
-/
import Derived.Test.YtadhojoalpkabaaS7
namespace Go.Proofs.Ytadhojoalpkabaa
set_option maxRecDepth 100000
set_option linter.unusedSimpArgs false
set_option linter.unusedVariables false
set_option linter.unnecessarySimpa false
open Go Go.Abs Go.Proofs
set_option maxRecDepth 100000 in
theorem c_l2Key (o : Ob) (x : List DC) : FCall Try.prog 47 [optr o x] fun r H => r = kav o.kind o.id ∧ H = [] := by
  refine fcall_gather [] id fun clk => acall_of_aw Try.func47 rfl ?_
  simp
  refine codeOk_drawA mixed (by kernel_rfl) ?_
  simp
def isKey (a b : Int) (o : Ob) : Bool := decide (o.kind = a ∧ o.id = b)
def idxOb (l : List Ob) (a b : Int) : Option Nat := l.findIdx? (isKey a b)
def idxVal : Option Nat → Int
  | some i => i
  | none => -1
@[simp] theorem eqVs_kv2 (a b c d : Int) : eqVs [.int .i64 a, .int .i64 b] [.int .i64 c, .int .i64 d] = decide (a = c ∧ b = d) := eqVs_kv a b c d
theorem idx_some {l : List Ob} {a b : Int} {i : Nat} (h : idxOb l a b = some i) : ∃ o, l[i]? = some o ∧ o.kind = a ∧ o.id = b ∧ i < l.length := by
  rw [idxOb, List.findIdx?_eq_some_iff_getElem] at h
  obtain ⟨hlt, h1, _⟩ := h
  have h2 := of_decide_eq_true h1
  exact ⟨l[i], List.getElem?_eq_getElem hlt, h2.1, h2.2, hlt⟩
theorem findOb_none {l : List Ob} {a b : Int} (h : ∀ o ∈ l, ¬ (o.kind = a ∧ o.id = b)) : findOb l a b = none := by
  have key : ∀ (l : List Ob) (r : Option Ob), (∀ o ∈ l, ¬ (o.kind = a ∧ o.id = b)) → l.foldl (fun r o => if o.kind = a ∧ o.id = b then some o else r) r = r := by
    intro l
    induction l with
    | nil => intro r _; rfl
    | cons o l ih =>
      intro r h
      rw [List.foldl_cons, if_neg (h o (by simp))]
      exact ih r fun o ho => h o (by simp [ho])
  exact key l none h
theorem findOb_split {l t : List Ob} {o : Ob} {a b : Int} (ho : o.kind = a ∧ o.id = b) (h : ∀ q ∈ t, ¬ (q.kind = a ∧ q.id = b)) : findOb (l ++ o :: t) a b = some o := by
  rw [findOb, List.foldl_append, List.foldl_cons, if_pos ho]
  have key : ∀ (l : List Ob) (r : Option Ob), (∀ o ∈ l, ¬ (o.kind = a ∧ o.id = b)) → l.foldl (fun r o => if o.kind = a ∧ o.id = b then some o else r) r = r := by
    intro l
    induction l with
    | nil => intro r _; rfl
    | cons o l ih =>
      intro r h
      rw [List.foldl_cons, if_neg (h o (by simp))]
      exact ih r fun o ho => h o (by simp [ho])
  exact key t (some o) h
theorem less_trans {a b c : Ob} (h : less a b = true) (k : less b c = true) : less a c = true := by
  simp [less] at h k ⊢; omega
theorem less_irrefl_key {a b : Ob} (h : less a b = true) : ¬ (a.kind = b.kind ∧ a.id = b.id) := by
  simp [less] at h; omega
theorem rises_tail {a : Ob} {l : List Ob} (h : rises (a :: l) = true) : rises l = true := by
  cases l with
  | nil => rfl
  | cons b t => rw [rises, Bool.and_eq_true] at h; exact h.2
theorem rises_head : ∀ {l : List Ob} {a : Ob}, rises (a :: l) = true → ∀ q ∈ l, less a q = true
  | [], a, _, q, hq => by simp at hq
  | b :: t, a, h, q, hq => by
    rw [rises, Bool.and_eq_true] at h
    rcases List.mem_cons.1 hq with rfl | hq
    · exact h.1
    · exact less_trans h.1 (rises_head h.2 q hq)
theorem rises_drop : ∀ {l : List Ob} (n : Nat), rises l = true → rises (l.drop n) = true
  | l, 0, h => by simpa using h
  | [], n + 1, h => by simp [rises]
  | a :: l, n + 1, h => by simpa using rises_drop n (rises_tail h)
/-- In objects that rise the first of a key is the last. -/
theorem findOb_idx {l : List Ob} (hr : rises l = true) (a b : Int) : findOb l a b = (idxOb l a b).bind (l[·]?) := by
  cases hi : idxOb l a b with
  | none =>
    rw [idxOb, List.findIdx?_eq_none_iff] at hi
    exact findOb_none fun o ho => of_decide_eq_false (hi o ho)
  | some i =>
    obtain ⟨o, ho, h1, h2, hlt⟩ := idx_some hi
    have hsp : l = l.take i ++ o :: l.drop (i + 1) := by
      have : l.drop i = o :: l.drop (i + 1) := by rw [List.drop_eq_getElem_cons hlt]; congr 1; rw [List.getElem?_eq_getElem hlt] at ho; exact Option.some.inj ho
      rw [← this, List.take_append_drop]
    have hd := rises_drop i hr
    have e : l.drop i = o :: l.drop (i + 1) := by rw [List.drop_eq_getElem_cons hlt]; congr 1; rw [List.getElem?_eq_getElem hlt] at ho; exact Option.some.inj ho
    rw [e] at hd
    show findOb l a b = l[i]?
    rw [ho, hsp]
    refine findOb_split ⟨h1, h2⟩ fun q hq hk => ?_
    exact less_irrefl_key (rises_head hd q hq) ⟨h1.trans hk.1.symm, h2.trans hk.2.symm⟩
theorem idxVal_neg {x : Option Nat} : idxVal x < 0 ↔ x = none := by
  cases x with
  | none => simp [idxVal]
  | some i => simp [idxVal]
end Go.Proofs.Ytadhojoalpkabaa
