/-
  What is to be done, told by lists alone: pods of an owner, free indexes, tries, the next write.
-/
import Derived.Test.YtiogdfliailenaaQ13
namespace Go.Proofs.Ytiogdfliailenaa
set_option maxRecDepth 100000
set_option linter.unusedSimpArgs false
set_option linter.unusedVariables false
set_option linter.unnecessarySimpa false
open Go Go.Abs Go.Proofs
/-- What a list of objects must be, so that what is to be done can be told: each is right, and they rise. -/
structure ObsOk (l : List Ob) : Prop where
  len : l.length ≤ 60
  each : ∀ o ∈ l, obFault o = 0
  rise : rises l = true
theorem obsBad_each {rev : Int} {l : List Ob} (h : obsBad rev l = 0) : ∀ o ∈ l, obFault o = 0 ∧ 1 ≤ o.rev ∧ o.rev ≤ rev := by
  induction l with
  | nil => simp
  | cons a t ih =>
    rw [obsBad] at h
    split at h
    · rename_i g1
      split at h
      · rename_i g2
        intro o ho
        rcases List.mem_cons.1 ho with rfl | ho
        · exact ⟨g1, g2⟩
        · exact ih h o ho
      · omega
    · rename_i g1; exact absurd h g1
theorem caFault_obs {s : Ca} (h : caFault s = 0) : ObsOk s.obs := by
  unfold caFault at h
  split at h
  · split at h
    · rename_i h2
      split at h
      · rename_i h3
        split at h
        · rename_i h4; exact ⟨h2, fun o ho => (obsBad_each h3 o ho).1, h4⟩
        · omega
      · rename_i h3; exact absurd h h3
    · omega
  · omega
theorem ObsOk.tail {a : Ob} {l : List Ob} (h : ObsOk (a :: l)) : ObsOk l :=
  ⟨by have := h.len; simp at this; omega, fun o ho => h.each o (List.mem_cons_of_mem _ ho), rises_tail h.rise⟩
theorem ob_kind {o : Ob} (h : obFault o = 0) : 1 ≤ o.kind ∧ o.kind ≤ 4 := by
  unfold obFault at h
  split at h
  · rename_i g; exact g
  · omega
theorem ob_kindOk {o : Ob} (h : obFault o = 0) : kindOk o := by
  unfold obFault at h
  split at h
  · split at h
    · rename_i g; exact g.2
    · omega
  · omega
theorem ob_pod {o : Ob} (h : obFault o = 0) (hk : o.kind = 3) : podOk o := by
  have := ob_kindOk h
  unfold kindOk at this
  rw [if_neg (by omega), if_neg (by omega), if_pos hk] at this
  exact this
theorem ob_set {o : Ob} (h : obFault o = 0) (hk : o.kind = 1) : setOk o := by
  have := ob_kindOk h
  unfold kindOk at this
  rwa [if_pos hk] at this
theorem ob_job {o : Ob} (h : obFault o = 0) (hk : o.kind = 2) : jobOk o := by
  have := ob_kindOk h
  unfold kindOk at this
  rwa [if_neg (by omega), if_pos hk] at this
def isPodB (k w : Int) (o : Ob) : Bool := decide (o.kind = 3) && (decide (o.a = k) && decide (o.b = w))
def podsL (l : List Ob) (k w : Int) : List Ob := l.filter (isPodB k w)
/-- Pods of one owner: right ones, whose indexes rise. -/
inductive Pods : Int → List Ob → Prop where
  | nil {m : Int} : Pods m []
  | cons {m : Int} {p : Ob} {t : List Ob} (h1 : m ≤ p.c) (h2 : p.c ≤ 23) (h3 : 0 ≤ p.d ∧ p.d ≤ 2) (h : Pods (p.c + 1) t) : Pods m (p :: t)
theorem Pods.weak {m n : Int} {l : List Ob} (h : Pods m l) (hn : n ≤ m) : Pods n l := by
  cases h with
  | nil => exact .nil
  | cons h1 h2 h3 h => exact .cons (by omega) h2 h3 h
theorem Pods.ge {m : Int} {l : List Ob} (h : Pods m l) : ∀ p ∈ l, m ≤ p.c ∧ p.c ≤ 23 ∧ 0 ≤ p.d ∧ p.d ≤ 2 := by
  induction h with
  | nil => simp
  | cons h1 h2 h3 h ih =>
    intro q hq
    rcases List.mem_cons.1 hq with rfl | hq
    · exact ⟨h1, h2, h3⟩
    · have := ih q hq; omega
theorem Pods.filter {m : Int} {l : List Ob} (h : Pods m l) (f : Ob → Bool) : Pods m (l.filter f) := by
  induction h with
  | nil => exact .nil
  | @cons m p t h1 h2 h3 h ih =>
    rw [List.filter_cons]
    split
    · exact .cons h1 h2 h3 ih
    · exact ih.weak (by omega)
theorem isPodB_iff {k w : Int} {o : Ob} : isPodB k w o = true ↔ o.kind = 3 ∧ o.a = k ∧ o.b = w := by simp [isPodB]
theorem pod_c {o : Ob} (h : podOk o) : 0 ≤ o.c ∧ o.c ≤ 23 ∧ (o.a = 1 ∨ o.a = 2) ∧ 0 ≤ o.b ∧ o.b ≤ 19 ∧ o.id = 10000 * o.a + 100 * o.b + o.c := by
  obtain ⟨h1, h2, _⟩ := h
  unfold podCode at h1
  unfold podNum at h2
  split at h1
  · rename_i g
    split at h1
    · rename_i g3
      refine ⟨g3.2.2.1, ?_, g, g3.1, g3.2.1, h2⟩
      have := g3.2.2.2
      unfold podMost at this
      split at this <;> omega
    · omega
  · omega
theorem podsL_ok {l : List Ob} (h : ObsOk l) (k w : Int) : Pods 0 (podsL l k w) := by
  have key : ∀ (l : List Ob) (m : Int), (∀ o ∈ l, obFault o = 0) → rises l = true → (∀ o ∈ l, isPodB k w o = true → m ≤ o.c) → Pods m (podsL l k w) := by
    intro l
    induction l with
    | nil => intro m _ _ _; exact .nil
    | cons o t ih =>
      intro m he hr hm
      unfold podsL
      rw [List.filter_cons]
      have het : ∀ o ∈ t, obFault o = 0 := fun q hq => he q (List.mem_cons_of_mem _ hq)
      split
      · rename_i hp
        obtain ⟨g1, g2, g3⟩ := isPodB_iff.1 hp
        have hpo := ob_pod (he o (by simp)) g1
        have hc := pod_c hpo
        refine .cons (hm o (by simp) hp) hc.2.1 ⟨hpo.2.2.1, hpo.2.2.2⟩ (ih _ het (rises_tail hr) fun q hq hqp => ?_)
        obtain ⟨e1, e2, e3⟩ := isPodB_iff.1 hqp
        have hqc := pod_c (ob_pod (het q hq) e1)
        have hl := rises_head hr q hq
        simp [less] at hl
        omega
      · exact ih m het (rises_tail hr) fun q hq hqp => hm q (List.mem_cons_of_mem _ hq) hqp
  exact key l 0 h.each h.rise fun o ho hp => (pod_c (ob_pod (h.each o ho) (isPodB_iff.1 hp).1)).1
theorem podsL_len (l : List Ob) (k w : Int) : (podsL l k w).length ≤ l.length := List.length_filter_le _ _
/-- The place of the pod with an index. -/
def isC (m : Int) (o : Ob) : Bool := decide (o.c = m)
def atC (l : List Ob) (m : Int) : Option Nat := l.findIdx? (isC m)
theorem atC_none {l : List Ob} {m : Int} : atC l m = none ↔ ∀ o ∈ l, o.c ≠ m := by
  rw [atC, List.findIdx?_eq_none_iff]
  constructor
  · intro h o ho; have := h o ho; simpa [isC] using this
  · intro h o ho; simpa [isC] using h o ho
/-- The lowest index that none of these pods has. -/
def freeGo : List Ob → Int → Int
  | [], f => f
  | p :: t, f => if f < p.c then f else freeGo t (f + 1)
def freeC (l : List Ob) : Int := freeGo l 0
theorem freeGo_le : ∀ (l : List Ob) (f : Int), f ≤ freeGo l f ∧ freeGo l f ≤ f + l.length
  | [], f => by simp [freeGo]
  | p :: t, f => by
    rw [freeGo]
    split
    · constructor
      · omega
      · simp; omega
    · have := freeGo_le t (f + 1)
      simp; omega
theorem freeGo_at {l : List Ob} {f : Int} (h : Pods f l) : (∀ m : Int, f ≤ m → m < freeGo l f → ∃ p ∈ l, p.c = m) ∧ (∀ p ∈ l, p.c ≠ freeGo l f) := by
  induction h with
  | nil => exact ⟨fun m h1 h2 => by simp [freeGo] at h2; omega, by simp⟩
  | @cons f p t h1 h2 h3 h ih =>
    rw [freeGo]
    split
    · rename_i hlt
      refine ⟨fun m a b => by omega, fun q hq => ?_⟩
      rcases List.mem_cons.1 hq with rfl | hq
      · omega
      · have := (h.ge q hq).1; omega
    · rename_i hlt
      obtain rfl : p.c = f := by omega
      refine ⟨fun m a b => ?_, fun q hq => ?_⟩
      · by_cases g : p.c < m
        · obtain ⟨q, hq, e⟩ := ih.1 m (by omega) b
          exact ⟨q, List.mem_cons_of_mem _ hq, e⟩
        · exact ⟨p, by simp, by omega⟩
      · rcases List.mem_cons.1 hq with rfl | hq
        · have := (freeGo_le t (q.c + 1)).1; omega
        · exact ih.2 q hq
theorem free_some {l : List Ob} (h : Pods 0 l) {m : Int} (h0 : 0 ≤ m) (h1 : m < freeC l) : ∃ i, atC l m = some i := by
  cases ha : atC l m with
  | some i => exact ⟨i, rfl⟩
  | none =>
    obtain ⟨p, hp, e⟩ := (freeGo_at h).1 m h0 h1
    exact absurd e (atC_none.1 ha p hp)
theorem free_none {l : List Ob} (h : Pods 0 l) : atC l (freeC l) = none := atC_none.2 (freeGo_at h).2
theorem free_le (l : List Ob) : 0 ≤ freeC l ∧ freeC l ≤ l.length := by
  have := freeGo_le l 0
  unfold freeC; omega
theorem freeGo_snoc {l : List Ob} {p : Ob} {f : Int} (h : freeGo l f = f + l.length) : freeGo (l ++ [p]) f = if f + l.length < p.c then f + l.length else f + l.length + 1 := by
  induction l generalizing f with
  | nil => simp [freeGo]
  | cons q t ih =>
    rw [freeGo] at h
    split at h
    · simp at h; omega
    · rename_i g
      rw [List.cons_append, freeGo, if_neg g, ih (by simp at h; omega)]
      simp
      split <;> split <;> omega
/-- The program's search: as long as no pod has a gap ahead of it. -/
theorem freeGo_take {l : List Ob} {i : Nat} {p : Ob} (h : freeGo (l.take i) 0 = i) (hp : l[i]? = some p) (hc : (i : Int) < p.c) : freeC l = i := by
  have hlt := (List.getElem?_eq_some_iff.1 hp).1
  have key : ∀ (t : List Ob) (l : List Ob) (f : Int), freeGo l f = f + l.length → freeGo (l ++ t) f = freeGo t (f + l.length) := by
    intro t l
    induction l with
    | nil => intro f _; simp
    | cons q l ih =>
      intro f h
      rw [freeGo] at h
      split at h
      · simp at h; omega
      · rename_i g
        rw [List.cons_append, freeGo, if_neg g, ih _ (by simp at h; omega)]
        simp; congr 1; omega
  have e : l = l.take i ++ l.drop i := (List.take_append_drop i l).symm
  have hl : (l.take i).length = i := by rw [List.length_take]; omega
  unfold freeC
  rw [e, key _ _ 0 (by rw [hl]; omega), hl, List.drop_eq_getElem_cons hlt]
  have : l[i] = p := by rw [List.getElem?_eq_getElem hlt] at hp; exact Option.some.inj hp
  rw [this, freeGo, if_pos (by omega)]; omega
def getC (l : List Ob) (m : Int) : Option Ob := (atC l m).bind (l[·]?)
theorem atC_cons (p : Ob) (t : List Ob) (m : Int) : atC (p :: t) m = if p.c = m then some 0 else (atC t m).map (· + 1) := by
  unfold atC
  rw [List.findIdx?_cons]
  by_cases h : p.c = m <;> simp [isC, h]
theorem getC_cons (p : Ob) (t : List Ob) (m : Int) : getC (p :: t) m = if p.c = m then some p else getC t m := by
  unfold getC
  rw [atC_cons]
  split
  · rfl
  · cases atC t m <;> rfl
theorem atC_some {l : List Ob} {m : Int} {i : Nat} (h : atC l m = some i) : ∃ p, l[i]? = some p ∧ p.c = m ∧ i < l.length ∧ getC l m = some p := by
  have h0 := h
  rw [atC, List.findIdx?_eq_some_iff_getElem] at h
  obtain ⟨hlt, h1, _⟩ := h
  exact ⟨l[i], List.getElem?_eq_getElem hlt, by simpa [isC] using h1, hlt, by simp [getC, h0, List.getElem?_eq_getElem hlt]⟩
theorem getC_none {l : List Ob} {m : Int} (h : atC l m = none) : getC l m = none := by simp [getC, h]
theorem getC_lt {l : List Ob} {m k : Int} (h : Pods m l) (hk : k < m) : getC l k = none := by
  induction h with
  | nil => rfl
  | cons h1 h2 h3 h ih => rw [getC_cons, if_neg (by omega)]; exact ih (by omega)
/-- The pods whose indexes are from lo on and below hi. -/
def betw (l : List Ob) (lo hi : Int) : List Ob := l.filter fun p => decide (lo ≤ p.c) && decide (p.c < hi)
theorem betw_nil {l : List Ob} {m : Int} (h : Pods m l) {lo hi : Int} (hm : hi ≤ m) : betw l lo hi = [] := by
  unfold betw
  rw [List.filter_eq_nil_iff]
  intro p hp
  have := h.ge p hp
  simp; omega
theorem betw_empty (l : List Ob) (lo : Int) : betw l lo lo = [] := by
  unfold betw
  rw [List.filter_eq_nil_iff]
  intro p hp
  simp
theorem betw_step {l : List Ob} {m : Int} (h : Pods m l) {lo x : Int} (hx : lo ≤ x) : betw l lo (x + 1) = betw l lo x ++ (getC l x).toList := by
  induction h with
  | nil => rfl
  | @cons m p t h1 h2 h3 h ih =>
    have e : ∀ hi, betw (p :: t) lo hi = if lo ≤ p.c ∧ p.c < hi then p :: betw t lo hi else betw t lo hi := fun hi => by
      unfold betw; rw [List.filter_cons]; simp
    rw [e, e, getC_cons]
    by_cases g1 : p.c < x
    · rw [if_neg (show ¬ p.c = x by omega)]
      by_cases g2 : lo ≤ p.c
      · rw [if_pos ⟨g2, by omega⟩, if_pos ⟨g2, g1⟩, ih]; rfl
      · rw [if_neg (by omega), if_neg (by omega), ih]
    · by_cases g3 : p.c = x
      · rw [if_pos g3, if_pos ⟨by omega, by omega⟩, if_neg (by omega), betw_nil h (by omega), betw_nil h (by omega)]; rfl
      · rw [if_neg g3, if_neg (by omega), if_neg (by omega), betw_nil h (by omega), betw_nil h (by omega), getC_lt h (by omega)]; rfl
def isTryB (n : Int) (o : Ob) : Bool := decide (o.c.tdiv 3 = n)
def tryL (l : List Ob) (n : Int) : List Ob := l.filter (isTryB n)
theorem tryL_betw {l : List Ob} (h : Pods 0 l) {n : Int} (hn : 0 ≤ n) : tryL l n = betw l (3 * n) (3 * n + 3) := by
  unfold tryL betw
  refine List.filter_congr fun p hp => ?_
  have := (h.ge p hp).1
  unfold isTryB
  rw [Int.tdiv_eq_ediv_of_nonneg this]
  have : (p.c / 3 = n) ↔ (3 * n ≤ p.c ∧ p.c < 3 * n + 3) := by omega
  simp [this]
/-- The tries of one index, one by one: none, if one is done; else which comes next, and whether it goes on. -/
def runTry : List Ob → Int → Bool → Option (Int × Bool)
  | [], nx, go => some (nx, go)
  | p :: t, _, _ => if p.d = 1 then none else runTry t (p.c + 1) (decide (p.d = 2))
theorem runTry_append (l m : List Ob) (nx : Int) (go : Bool) : runTry (l ++ m) nx go = (runTry l nx go).bind fun q => runTry m q.1 q.2 := by
  induction l generalizing nx go with
  | nil => rfl
  | cons p t ih =>
    rw [List.cons_append, runTry, runTry]
    split
    · rfl
    · exact ih _ _
theorem runTry_none (l : List Ob) (nx : Int) (go : Bool) : runTry l nx go = none ↔ ∃ p ∈ l, p.d = 1 := by
  induction l generalizing nx go with
  | nil => simp [runTry]
  | cons p t ih =>
    rw [runTry]
    split
    · rename_i h; simp [h]
    · rename_i h; rw [ih]; simp [h]
theorem runTry_le {l : List Ob} {m hi : Int} (h : Pods m l) (hh : ∀ p ∈ l, p.c < hi) {nx : Int} {go : Bool} {q : Int × Bool} (hq : runTry l nx go = some q) (hn : nx ≤ hi) : q.1 ≤ hi := by
  induction h generalizing nx go with
  | nil => simp [runTry] at hq; subst hq; exact hn
  | cons h1 h2 h3 h ih =>
    rw [runTry] at hq
    split at hq
    · cases hq
    · exact ih (fun p hp => hh p (List.mem_cons_of_mem _ hp)) hq (by have := hh _ (List.mem_cons_self ..); omega)
def isDone (l : List Ob) (n : Int) : Bool := (tryL l n).any fun p => decide (p.d = 1)
theorem isDone_run (l : List Ob) (n nx : Int) (go : Bool) : isDone l n = true ↔ runTry (tryL l n) nx go = none := by
  rw [runTry_none]; unfold isDone; simp
def doneN (l : List Ob) : Nat → Int
  | 0 => 0
  | k + 1 => doneN l k + if isDone l k then 1 else 0
theorem doneN_le (l : List Ob) : ∀ k : Nat, 0 ≤ doneN l k ∧ doneN l k ≤ k
  | 0 => by simp [doneN]
  | k + 1 => by
    have := doneN_le l k
    rw [doneN]; split <;> (push_cast; omega)
/-- Which try of the index n comes next, if one does. -/
def jobAt (l : List Ob) (n : Int) : Option Int :=
  match runTry (tryL l n) (3 * n) true with
  | some (nx, true) => if nx < 3 * n + 3 then some nx else none
  | _ => none
def jobNext (l : List Ob) (a : Nat) : Option Int := (List.range a).findSome? fun m : Nat => jobAt l m
theorem range_some {α : Type} {f : Nat → Option α} {a n : Nat} {x : α} (h : ∀ m, m < n → f m = none) (hx : f n = some x) (hn : n < a) : (List.range a).findSome? f = some x := by
  have e : List.range a = List.range n ++ List.range' n (a - n) := by
    have := List.range_eq_range' (n := a)
    rw [this, List.range_eq_range']
    have h2 := List.range'_append (s := 0) (m := n) (n := a - n) (step := 1)
    simp at h2
    rw [h2, show n + (a - n) = a by omega]
  have e2 : List.range' n (a - n) = n :: List.range' (n + 1) (a - n - 1) := by
    obtain ⟨k, hk⟩ : ∃ k, a - n = k + 1 := ⟨a - n - 1, by omega⟩
    rw [hk]; rfl
  rw [e, List.findSome?_append, e2, List.findSome?_cons, hx]
  have : (List.range n).findSome? f = none := by
    rw [List.findSome?_eq_none_iff]; intro m hm; exact h m (List.mem_range.1 hm)
  rw [this]; rfl
theorem range_none {α : Type} {f : Nat → Option α} {a : Nat} (h : ∀ m, m < a → f m = none) : (List.range a).findSome? f = none := by
  rw [List.findSome?_eq_none_iff]; intro m hm; exact h m (List.mem_range.1 hm)
def wr0 : Wr := ⟨0, ob0, 0, 0⟩
/-- What is put, or deleted: as it is known. -/
def mkW (op : Int) (o : Ob) : Wr := ⟨op, { o with rev := 0 }, o.rev, 0⟩
def newPod (k w i : Int) : Ob := ⟨3, podVal k w i, k, w, i, 0, 0⟩
def badPod (l : List Ob) : Option Ob := l.find? fun p => decide (p.d ≠ 0)
def setGo (l : List Ob) (s : Ob) : Option Wr :=
  match badPod l with
  | some p => some (mkW 2 p)
  | none =>
    if (l.length : Int) < s.a then some (mkW 1 (newPod 1 s.id (freeC l)))
    else if s.a < (l.length : Int) then some (mkW 2 (l.getLast?.getD ob0)) else none
def setStep (l : List Ob) (s : Ob) : Option Wr := setGo (podsL l s.kind s.id) s
def jobGo (l : List Ob) (j : Ob) : Option Wr :=
  match jobNext l j.a.toNat with
  | some x => some (mkW 1 (newPod 2 j.id x))
  | none => if j.b = doneN l j.a.toNat then none else some (mkW 1 { j with b := doneN l j.a.toNat })
def jobStep (l : List Ob) (j : Ob) : Option Wr := jobGo (podsL l j.kind j.id) j
def isOrph (l : List Ob) (p : Ob) : Bool := decide (p.kind = 3) && (idxOb l p.a p.b).isNone
def orphan (l : List Ob) : Option Wr := (l.find? (isOrph l)).map (mkW 2)
def stepOf (l : List Ob) (o : Ob) : Option Wr := if o.kind = 1 then setStep l o else if o.kind = 2 then jobStep l o else none
def setOf (l : List Ob) (o : Ob) : Option Wr := if o.kind = 1 then setStep l o else none
def jobOf (l : List Ob) (o : Ob) : Option Wr := if o.kind = 2 then jobStep l o else none
def nextW (l : List Ob) : Option Wr :=
  match orphan l with
  | some w => some w
  | none => l.findSome? (stepOf l)
theorem rises_kinds {l : List Ob} (h : rises l = true) : ∀ (f1 f2 : Ob → Option Wr), l.findSome? (fun o => if o.kind = 1 then f1 o else if o.kind = 2 then f2 o else none) =
    match l.findSome? (fun o => if o.kind = 1 then f1 o else none) with
    | some w => some w
    | none => l.findSome? (fun o => if o.kind = 2 then f2 o else none) := by
  induction l with
  | nil => intro f1 f2; rfl
  | cons o t ih =>
    intro f1 f2
    by_cases h1 : o.kind = 1
    · rw [List.findSome?_cons, List.findSome?_cons, List.findSome?_cons, if_pos h1, if_pos h1, if_neg (show ¬ o.kind = 2 by omega)]
      cases f1 o with
      | some w => rfl
      | none => exact ih (rises_tail h) f1 f2
    · have hno : ∀ q ∈ o :: t, o.kind ≤ q.kind := by
        intro q hq
        rcases List.mem_cons.1 hq with rfl | hq
        · exact Int.le_refl _
        · have := rises_head h q hq
          simp [less] at this; omega
      by_cases h0 : o.kind < 1
      · rw [List.findSome?_cons, List.findSome?_cons, List.findSome?_cons, if_neg h1, if_neg (show ¬ o.kind = 2 by omega)]
        simp only [h1, if_false]
        exact ih (rises_tail h) f1 f2
      · have e1 : (o :: t).findSome? (fun o => if o.kind = 1 then f1 o else none) = none := by
          rw [List.findSome?_eq_none_iff]
          intro q hq
          have := hno q hq
          rw [if_neg (by omega)]
        rw [e1]
        have key : ∀ (l : List Ob), (∀ q ∈ l, ¬ q.kind = 1) → l.findSome? (fun o => if o.kind = 1 then f1 o else if o.kind = 2 then f2 o else none) = l.findSome? (fun o => if o.kind = 2 then f2 o else none) := by
          intro l hl
          induction l with
          | nil => rfl
          | cons a l ihl =>
            rw [List.findSome?_cons, List.findSome?_cons, if_neg (hl a (by simp)), ihl fun q hq => hl q (List.mem_cons_of_mem _ hq)]
        exact key _ fun q hq => by have := hno q hq; omega
theorem next_kinds {l : List Ob} (h : rises l = true) : l.findSome? (stepOf l) = match l.findSome? (setOf l) with | some w => some w | none => l.findSome? (jobOf l) := rises_kinds h _ _
theorem find_at {α β : Type} {l : List α} {f : α → Option β} {i : Nat} {o : α} {x : β} (h : ∀ (j : Nat) (a : α), j < i → l[j]? = some a → f a = none) (ho : l[i]? = some o) (hx : f o = some x) : l.findSome? f = some x := by
  induction l generalizing i with
  | nil => simp at ho
  | cons a t ih =>
    rw [List.findSome?_cons]
    match i with
    | 0 => simp at ho; subst ho; rw [hx]
    | i + 1 =>
      rw [h 0 a (by omega) rfl]
      exact ih (i := i) (fun j b hj hb => h (j + 1) b (by omega) (by simpa using hb)) (by simpa using ho)
theorem find_no {α β : Type} {l : List α} {f : α → Option β} (h : ∀ (j : Nat) (a : α), j < l.length → l[j]? = some a → f a = none) : l.findSome? f = none := by
  rw [List.findSome?_eq_none_iff]
  intro a ha
  obtain ⟨j, hj⟩ := List.mem_iff_getElem?.1 ha
  exact h j a (List.getElem?_eq_some_iff.1 hj).1 hj
theorem first_at {α : Type} {l : List α} {f : α → Bool} {i : Nat} {o : α} (h : ∀ (j : Nat) (a : α), j < i → l[j]? = some a → f a = false) (ho : l[i]? = some o) (hx : f o = true) : l.find? f = some o := by
  induction l generalizing i with
  | nil => simp at ho
  | cons a t ih =>
    match i with
    | 0 => simp at ho; subst ho; rw [List.find?_cons, hx]
    | i + 1 =>
      rw [List.find?_cons, h 0 a (by omega) rfl]
      exact ih (i := i) (fun j b hj hb => h (j + 1) b (by omega) (by simpa using hb)) (by simpa using ho)
theorem first_no {α : Type} {l : List α} {f : α → Bool} (h : ∀ (j : Nat) (a : α), j < l.length → l[j]? = some a → f a = false) : l.find? f = none := by
  rw [List.find?_eq_none]
  intro a ha
  obtain ⟨j, hj⟩ := List.mem_iff_getElem?.1 ha
  rw [h j a (List.getElem?_eq_some_iff.1 hj).1 hj]; simp
theorem caFault_in (s : Ca) : 0 ≤ caFault s ∧ caFault s ≤ 3 := by
  have hb : ∀ l : List Ob, 0 ≤ obsBad s.rev l ∧ obsBad s.rev l ≤ 3 := by
    intro l
    induction l with
    | nil => simp [obsBad]
    | cons o t ih =>
      rw [obsBad]
      split
      · split
        · exact ih
        · omega
      · unfold obFault; split
        · split <;> omega
        · omega
  unfold caFault
  have := hb s.obs
  split
  · split
    · split
      · split <;> omega
      · omega
    · omega
  · omega
end Go.Proofs.Ytiogdfliailenaa
