/-
  Objects by their keys: the model's searches.
  Stores compared.
-/
import Derived.Test.YtiogdfliailenaaQ10
import Derived.Test.YtiogdfliailenaaQ7
namespace Go.Proofs.Ytiogdfliailenaa
set_option maxRecDepth 100000
set_option linter.unusedSimpArgs false
set_option linter.unusedVariables false
set_option linter.unnecessarySimpa false
open Go Go.Abs Go.Proofs
set_option maxRecDepth 100000 in
theorem c_l2Key (o : Ob) (x : List DC) : FCall Try.prog 57 [optr o x] fun r H => r = kav o.kind o.id ∧ H = [] := by
  refine fcall_gather [] id fun clk => acall_of_aw Try.func57 rfl ?_
  simp
  refine codeOk_drawA mixed (by kernel_rfl) ?_
  simp
def isKey (a b : Int) (o : Ob) : Bool := decide (o.kind = a ∧ o.id = b)
def idxOb (l : List Ob) (a b : Int) : Option Nat := l.findIdx? (isKey a b)
def idxVal : Option Nat → Int
  | some i => i
  | none => -1
@[simp] theorem eqVs_kv2 (a b c d : Int) : eqVs [.int .i64 a, .int .i64 b] [.int .i64 c, .int .i64 d] = decide (a = c ∧ b = d) := eqVs_kv a b c d
set_option maxRecDepth 100000 in
theorem c_l3Find (l : List Ob) (a b : Int) (hl : l.length ≤ 1048576) : FCall Try.prog 32 [rlist l, kav a b] fun r H => r = iv .i64 (idxVal (idxOb l a b)) ∧ H = [] := by
  refine fcall_gather [] id fun clk => acall_of_aw Try.func32 rfl ?_
  simp
  refine codeOk_loop [true, false, false, true, false, true] 1 (fun z => ∃ (i c : Nat), i ≤ l.length ∧ (∀ (j : Nat) (o : Ob), j < i → l[j]? = some o → isKey a b o = false) ∧ z = ⟨[rlist l, unknown, unknown, .one (.ptr 0 clk 0), unknown, iv .i64 i] ++ List.replicate 13 unknown, [some ⟨clk, 38, 2, [ic a, ic b]⟩], c⟩)
    (fun z => match z.tmps.getD 5 unknown with | .one (.d (.s (.int _ i))) => l.length - i.toNat | _ => 0) ?_ ?_
  · simp
    exact ⟨0, by omega, fun j o h => absurd h (by omega), rfl⟩
  · rintro z ⟨i, c0, hi, hno, rfl⟩
    by_cases hlt : i < l.length
    · have hw := wrap_succ (i := i) (by omega)
      obtain ⟨o, t, hd, ho, _, htk⟩ := drop_at l hlt
      simp [hlt, hd]
      refine codeOk_drawA mixed (by kernel_rfl) ?_
      simp [hlt, hd]
      refine qcall_val (c_l2Key o (rds t)) (by simp) (by simp) ?_
      by_cases h : o.kind = a ∧ o.id = b
      · have hidx : idxOb l a b = some i := by
          rw [idxOb, List.findIdx?_eq_some_iff_getElem]
          refine ⟨hlt, ?_, fun j hj => ?_⟩
          · have : l[i] = o := by rw [List.getElem?_eq_getElem hlt] at ho; exact Option.some.inj ho
            rw [this]; exact decide_eq_true h
          · have := hno j l[j] hj (List.getElem?_eq_getElem _)
            simpa using this
        simp [-eqVs, -eqV, h, hidx, idxVal]
      · simp [-eqVs, -eqV, h, hw]
        refine ⟨⟨i + 1, by omega, lt_succ_cases hno ho (decide_eq_false h), by omega⟩, by omega⟩
    · have e : i = l.length := by omega
      subst e
      have hidx : idxOb l a b = none := by
        rw [idxOb, List.findIdx?_eq_none_iff]
        intro o ho
        obtain ⟨j, hj⟩ := List.mem_iff_getElem?.1 ho
        exact hno j o (List.getElem?_eq_some_iff.1 hj).1 hj
      simp [hidx, idxVal]
theorem idx_some {l : List Ob} {a b : Int} {i : Nat} (h : idxOb l a b = some i) : ∃ o, l[i]? = some o ∧ o.kind = a ∧ o.id = b ∧ i < l.length := by
  rw [idxOb, List.findIdx?_eq_some_iff_getElem] at h
  obtain ⟨hlt, h1, _⟩ := h
  have h2 := of_decide_eq_true h1
  exact ⟨l[i], List.getElem?_eq_getElem hlt, h2.1, h2.2, hlt⟩
theorem findOb_none {l : List Ob} {a b : Int} (h : ∀ o ∈ l, ¬ (o.kind = a ∧ o.id = b)) : findOb l a b = none := by
  have key : ∀ (l : List Ob) (r : Option Ob), (∀ o ∈ l, ¬ (o.kind = a ∧ o.id = b)) → l.foldl (fun r o => if o.kind = a ∧ o.id = b then some o else r) r = r := by
    intro l
    induction l with
    | nil => intro r _; rfl
    | cons o l ih =>
      intro r h
      rw [List.foldl_cons, if_neg (h o (by simp))]
      exact ih r fun o ho => h o (by simp [ho])
  exact key l none h
theorem findOb_split {l t : List Ob} {o : Ob} {a b : Int} (ho : o.kind = a ∧ o.id = b) (h : ∀ q ∈ t, ¬ (q.kind = a ∧ q.id = b)) : findOb (l ++ o :: t) a b = some o := by
  rw [findOb, List.foldl_append, List.foldl_cons, if_pos ho]
  have key : ∀ (l : List Ob) (r : Option Ob), (∀ o ∈ l, ¬ (o.kind = a ∧ o.id = b)) → l.foldl (fun r o => if o.kind = a ∧ o.id = b then some o else r) r = r := by
    intro l
    induction l with
    | nil => intro r _; rfl
    | cons o l ih =>
      intro r h
      rw [List.foldl_cons, if_neg (h o (by simp))]
      exact ih r fun o ho => h o (by simp [ho])
  exact key t (some o) h
theorem less_trans {a b c : Ob} (h : less a b = true) (k : less b c = true) : less a c = true := by
  simp [less] at h k ⊢; omega
theorem less_irrefl_key {a b : Ob} (h : less a b = true) : ¬ (a.kind = b.kind ∧ a.id = b.id) := by
  simp [less] at h; omega
theorem rises_tail {a : Ob} {l : List Ob} (h : rises (a :: l) = true) : rises l = true := by
  cases l with
  | nil => rfl
  | cons b t => rw [rises, Bool.and_eq_true] at h; exact h.2
theorem rises_head : ∀ {l : List Ob} {a : Ob}, rises (a :: l) = true → ∀ q ∈ l, less a q = true
  | [], a, _, q, hq => by simp at hq
  | b :: t, a, h, q, hq => by
    rw [rises, Bool.and_eq_true] at h
    rcases List.mem_cons.1 hq with rfl | hq
    · exact h.1
    · exact less_trans h.1 (rises_head h.2 q hq)
theorem rises_drop : ∀ {l : List Ob} (n : Nat), rises l = true → rises (l.drop n) = true
  | l, 0, h => by simpa using h
  | [], n + 1, h => by simp [rises]
  | a :: l, n + 1, h => by simpa using rises_drop n (rises_tail h)
/-- In objects that rise the first of a key is the last. -/
theorem findOb_idx {l : List Ob} (hr : rises l = true) (a b : Int) : findOb l a b = (idxOb l a b).bind (l[·]?) := by
  cases hi : idxOb l a b with
  | none =>
    rw [idxOb, List.findIdx?_eq_none_iff] at hi
    exact findOb_none fun o ho => of_decide_eq_false (hi o ho)
  | some i =>
    obtain ⟨o, ho, h1, h2, hlt⟩ := idx_some hi
    have hsp : l = l.take i ++ o :: l.drop (i + 1) := by
      have : l.drop i = o :: l.drop (i + 1) := by rw [List.drop_eq_getElem_cons hlt]; congr 1; rw [List.getElem?_eq_getElem hlt] at ho; exact Option.some.inj ho
      rw [← this, List.take_append_drop]
    have hd := rises_drop i hr
    have e : l.drop i = o :: l.drop (i + 1) := by rw [List.drop_eq_getElem_cons hlt]; congr 1; rw [List.getElem?_eq_getElem hlt] at ho; exact Option.some.inj ho
    rw [e] at hd
    show findOb l a b = l[i]?
    rw [ho, hsp]
    refine findOb_split ⟨h1, h2⟩ fun q hq hk => ?_
    exact less_irrefl_key (rises_head hd q hq) ⟨h1.trans hk.1.symm, h2.trans hk.2.symm⟩
theorem idxVal_neg {x : Option Nat} : idxVal x < 0 ↔ x = none := by
  cases x with
  | none => simp [idxVal]
  | some i => simp [idxVal]
set_option maxRecDepth 100000 in
theorem c_l3Epoch (l : List Ob) (hl : l.length ≤ 1048576) (hr : rises l = true) : FCall Try.prog 82 [rlist l] fun r H => r = iv .i64 ((findOb l 4 0).getD ob0).b ∧ H = [] := by
  intro clk
  refine acall_of_aw Try.func82 rfl ?_
  rw [findOb_idx hr]
  simp
  refine acall_val (c_l3Find l 4 0 hl) (by simp) (by simp) ?_
  cases hi : idxOb l 4 0 with
  | none => simp [idxVal, ob0]
  | some i =>
    obtain ⟨o, ho, _, _, hlt⟩ := idx_some hi
    obtain ⟨o', t, hd, ho', _, _⟩ := drop_at l hlt
    rw [ho] at ho'; cases ho'
    have hg : l[i] = o := by rw [List.getElem?_eq_getElem hlt] at ho; exact Option.some.inj ho
    simp [idxVal, hlt, hd, ho, hg]
end Go.Proofs.Ytiogdfliailenaa
namespace Go.Proofs.Ytiogdfliailenaa
set_option maxRecDepth 100000
set_option linter.unusedSimpArgs false
set_option linter.unusedVariables false
set_option linter.unnecessarySimpa false
open Go Go.Abs Go.Proofs
end Go.Proofs.Ytiogdfliailenaa
