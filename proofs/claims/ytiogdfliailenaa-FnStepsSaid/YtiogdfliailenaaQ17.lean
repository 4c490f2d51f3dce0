/-
  Objects behind a change: lists that rise, and maps of them. No program's text.
-/
import Derived.Test.YtiogdfliailenaaQ16
namespace Go.Proofs.Ytiogdfliailenaa
set_option maxRecDepth 100000
set_option linter.unusedSimpArgs false
set_option linter.unusedVariables false
set_option linter.unnecessarySimpa false
open Go Go.Abs Go.Proofs
def sameKey (a b : Ob) : Bool := decide (a.kind = b.kind ∧ a.id = b.id)
theorem sameKey_iff {a b : Ob} : sameKey a b = true ↔ a.kind = b.kind ∧ a.id = b.id := by simp [sameKey]
theorem sameKey_not {a b : Ob} : sameKey a b = false ↔ ¬ (a.kind = b.kind ∧ a.id = b.id) := by simp [sameKey]
theorem less_or {a b : Ob} (h : ¬ (a.kind = b.kind ∧ a.id = b.id)) : less a b = true ∨ less b a = true := by
  unfold less; simp; omega
theorem less_asymm {a b : Ob} (h : less a b = true) : less b a = false := by
  unfold less at h ⊢; simp at h ⊢; omega
theorem less_key {a b c : Ob} (h : less a b = true) (e : b.kind = c.kind ∧ b.id = c.id) : less a c = true := by
  unfold less at h ⊢; rw [e.1, e.2] at h; exact h
theorem less_key' {a b c : Ob} (h : less a b = true) (e : a.kind = c.kind ∧ a.id = c.id) : less c b = true := by
  unfold less at h ⊢; rw [e.1, e.2] at h; exact h
/-- As the model puts a change in objects that rise: whether it is done. -/
def putL (o : Ob) : Bool → List Ob → List Ob
  | d, [] => if d then [] else [o]
  | d, a :: l => if sameKey a o = true then putL o d l else if d = false ∧ less o a = true then o :: a :: putL o true l else a :: putL o d l
theorem rises_cons {a : Ob} {l : List Ob} (h : ∀ q ∈ l, less a q = true) (hr : rises l = true) : rises (a :: l) = true := by
  cases l with
  | nil => rfl
  | cons b t => rw [rises, Bool.and_eq_true]; exact ⟨h b (by simp), hr⟩
theorem mem_putL (o : Ob) : ∀ (l : List Ob) (d : Bool) (q : Ob), q ∈ putL o d l ↔ (d = false ∧ q = o) ∨ (q ∈ l ∧ sameKey q o = false)
  | [], d, q => by cases d <;> simp [putL]
  | a :: l, d, q => by
    unfold putL
    have ih := mem_putL o l
    split
    · rename_i h
      rw [ih]
      constructor
      · rintro (h1 | h1)
        · exact .inl h1
        · exact .inr ⟨by simp [h1.1], h1.2⟩
      · rintro (h1 | ⟨h1, h2⟩)
        · exact .inl h1
        · rcases List.mem_cons.1 h1 with rfl | h1
          · rw [h] at h2; cases h2
          · exact .inr ⟨h1, h2⟩
    · rename_i h
      have h' : sameKey a o = false := by simpa using h
      split
      · rename_i h2
        simp only [List.mem_cons, ih]
        constructor
        · rintro (rfl | rfl | ⟨h3, _⟩ | h3)
          · exact .inl ⟨h2.1, rfl⟩
          · exact .inr ⟨.inl rfl, h'⟩
          · cases h3
          · exact .inr ⟨.inr h3.1, h3.2⟩
        · rintro (⟨_, rfl⟩ | ⟨rfl | h3, h4⟩)
          · exact .inl rfl
          · exact .inr (.inl rfl)
          · exact .inr (.inr (.inr ⟨h3, h4⟩))
      · simp only [List.mem_cons, ih]
        constructor
        · rintro (rfl | h3 | h3)
          · exact .inr ⟨.inl rfl, h'⟩
          · exact .inl h3
          · exact .inr ⟨.inr h3.1, h3.2⟩
        · rintro (h3 | ⟨rfl | h3, h4⟩)
          · exact .inr (.inl h3)
          · exact .inl rfl
          · exact .inr (.inr ⟨h3, h4⟩)
theorem rises_putL (o : Ob) : ∀ (l : List Ob) (d : Bool), rises l = true → (d = true ∨ ∀ q ∈ l, True) → rises (putL o d l) = true
  | [], d, _, _ => by cases d <;> rfl
  | a :: l, d, h, _ => by
    unfold putL
    have ht := rises_tail h
    have hh := rises_head h
    split
    · exact rises_putL o l d ht (.inr fun _ _ => trivial)
    · rename_i h1
      split
      · rename_i h2
        have hr := rises_putL o l true ht (.inl rfl)
        have h3 : ∀ q ∈ putL o true l, less a q = true := fun q hq => by
          rcases (mem_putL o l true q).1 hq with ⟨h4, _⟩ | h4
          · cases h4
          · exact hh q h4.1
        refine rises_cons (fun q hq => ?_) (rises_cons h3 hr)
        rcases List.mem_cons.1 hq with rfl | hq
        · exact h2.2
        · exact less_trans h2.2 (h3 q hq)
      · rename_i h2
        have hr := rises_putL o l d ht (.inr fun _ _ => trivial)
        refine rises_cons (fun q hq => ?_) hr
        rcases (mem_putL o l d q).1 hq with ⟨h4, rfl⟩ | h4
        · have h5 : ¬ (a.kind = q.kind ∧ a.id = q.id) := fun e => h1 (sameKey_iff.2 e)
          rcases less_or h5 with h6 | h6
          · exact h6
          · exact absurd ⟨h4, h6⟩ h2
        · exact hh q h4.1
theorem rises_ext : ∀ {a b : List Ob}, rises a = true → rises b = true → (∀ q, q ∈ a ↔ q ∈ b) → a = b
  | [], [], _, _, _ => rfl
  | [], y :: b, _, _, h => by have := (h y).2 (by simp); simp at this
  | x :: a, [], _, _, h => by have := (h x).1 (by simp); simp at this
  | x :: a, y :: b, ha, hb, h => by
    have hx := rises_head ha
    have hy := rises_head hb
    have e : x = y := by
      rcases List.mem_cons.1 ((h x).1 (by simp)) with e | h1
      · exact e
      · rcases List.mem_cons.1 ((h y).2 (by simp)) with e | h2
        · exact e.symm
        · have h3 := less_asymm (hx y h2)
          rw [hy x h1] at h3; cases h3
    subst e
    congr 1
    refine rises_ext (rises_tail ha) (rises_tail hb) fun q => ?_
    constructor
    · intro hq
      rcases List.mem_cons.1 ((h q).1 (by simp [hq])) with rfl | h1
      · exact absurd ⟨rfl, rfl⟩ (less_irrefl_key (hx q hq))
      · exact h1
    · intro hq
      rcases List.mem_cons.1 ((h q).2 (by simp [hq])) with rfl | h1
      · exact absurd ⟨rfl, rfl⟩ (less_irrefl_key (hy q hq))
      · exact h1
/-- In a map: a write, in place or at the end. -/
def putU (o : Ob) : List Ob → List Ob
  | [] => [o]
  | a :: l => if sameKey a o = true then o :: l else a :: putU o l
def delU (x y : Int) : List Ob → List Ob
  | [] => []
  | a :: l => if isKey x y a = true then l else a :: delU x y l
def delR (ks : List Value) : List MapEntry → List MapEntry
  | [] => []
  | e :: es => if keyIs ks e then es else e :: delR ks es
theorem delE_delR (ks : List Value) (es : List MapEntry) : delE ks es = delR ks es := by
  have key : ∀ (es : List MapEntry) (i : Nat), (match findE ks es i with
      | some (j, _) => es.eraseIdx (j - i)
      | none => es) = delR ks es := by
    intro es
    induction es with
    | nil => intro i; rfl
    | cons e es ih =>
      intro i
      simp only [findE, delR]
      by_cases h : keyIs ks e = true
      · simp [h]
      · simp only [h, if_false, Bool.false_eq_true]
        rw [← ih (i + 1)]
        cases hf : findE ks es (i + 1) with
        | none => simp
        | some p =>
          obtain ⟨j, u⟩ := p
          obtain ⟨j', e', h1, _⟩ := findE_at hf
          simp only at h1 ⊢
          have : j - i = (j - (i + 1)) + 1 := by omega
          rw [this, List.eraseIdx_cons_succ]
  have := key es 0
  unfold delE
  rw [← this]
  cases findE ks es 0 with
  | none => rfl
  | some p => simp
theorem isKey_same (o a : Ob) : isKey o.kind o.id a = sameKey a o := rfl
theorem MapIs.put {o : Ob} {c : Nat} : ∀ {es : List MapEntry} {l : List Ob}, MapIs es l → MapIs (putR (kv2 o.kind o.id) o.val c es) (putU o l)
  | [], [], _ => rfl
  | [], _ :: _, h => by simp [MapIs] at h
  | _ :: _, [], h => by simp [MapIs] at h
  | e :: es, a :: l, h => by
    simp only [MapIs, List.map_cons, List.cons.injEq, Prod.mk.injEq] at h
    have hk := keyIs_kv (a := o.kind) (b := o.id) h.1.1
    rw [isKey_same] at hk
    rw [putR, putU, hk]
    by_cases hs : sameKey a o = true
    · simp only [hs, if_true]
      simp only [MapIs, List.map_cons, List.cons.injEq, Prod.mk.injEq]
      exact ⟨trivial, h.2⟩
    · simp only [hs, if_false, Bool.false_eq_true]
      simp only [MapIs, List.map_cons, List.cons.injEq, Prod.mk.injEq]
      exact ⟨h.1, MapIs.put (es := es) (l := l) h.2⟩
theorem MapIs.del {x y : Int} : ∀ {es : List MapEntry} {l : List Ob}, MapIs es l → MapIs (delR (kv2 x y) es) (delU x y l)
  | [], [], _ => rfl
  | [], _ :: _, h => by simp [MapIs] at h
  | _ :: _, [], h => by simp [MapIs] at h
  | e :: es, a :: l, h => by
    simp only [MapIs, List.map_cons, List.cons.injEq, Prod.mk.injEq] at h
    have hk := keyIs_kv (a := x) (b := y) h.1.1
    rw [delR, delU, hk]
    by_cases hs : isKey x y a = true
    · simp only [hs, if_true]; exact h.2
    · simp only [hs, if_false, Bool.false_eq_true]
      simp only [MapIs, List.map_cons, List.cons.injEq, Prod.mk.injEq]
      exact ⟨h.1, MapIs.del (es := es) (l := l) h.2⟩
theorem putU_mem {o : Ob} : ∀ {l : List Ob}, KeysApart l → ∀ q, q ∈ putU o l ↔ q = o ∨ (q ∈ l ∧ sameKey q o = false)
  | [], _, q => by simp [putU]
  | a :: l, h, q => by
    obtain ⟨h1, h2⟩ := List.pairwise_cons.1 h
    unfold putU
    by_cases hs : sameKey a o = true
    · simp only [hs, if_true, List.mem_cons]
      have hne : ∀ z ∈ l, sameKey z o = false := fun z hz => by
        rw [sameKey_not]; intro e
        have e2 := sameKey_iff.1 hs
        exact h1 z hz ⟨e2.1.trans e.1.symm, e2.2.trans e.2.symm⟩
      constructor
      · rintro (rfl | h3)
        · exact .inl rfl
        · exact .inr ⟨.inr h3, hne q h3⟩
      · rintro (rfl | ⟨rfl | h3, h4⟩)
        · exact .inl rfl
        · rw [hs] at h4; cases h4
        · exact .inr h3
    · have hs' : sameKey a o = false := by simpa using hs
      simp only [hs, if_false, Bool.false_eq_true, List.mem_cons, putU_mem h2]
      constructor
      · rintro (rfl | rfl | h3)
        · exact .inr ⟨.inl rfl, hs'⟩
        · exact .inl rfl
        · exact .inr ⟨.inr h3.1, h3.2⟩
      · rintro (rfl | ⟨rfl | h3, h4⟩)
        · exact .inr (.inl rfl)
        · exact .inl rfl
        · exact .inr (.inr ⟨h3, h4⟩)
theorem putU_apart {o : Ob} : ∀ {l : List Ob}, KeysApart l → KeysApart (putU o l)
  | [], _ => List.pairwise_singleton _ _
  | a :: l, h => by
    obtain ⟨h1, h2⟩ := List.pairwise_cons.1 h
    unfold putU
    by_cases hs : sameKey a o = true
    · simp only [hs, if_true]
      have e2 := sameKey_iff.1 hs
      exact List.Pairwise.cons (fun z hz e => h1 z hz ⟨e2.1.trans e.1, e2.2.trans e.2⟩) h2
    · simp only [hs, if_false, Bool.false_eq_true]
      refine List.Pairwise.cons (fun z hz => ?_) (putU_apart h2)
      rcases (putU_mem h2 z).1 hz with rfl | h3
      · exact sameKey_not.1 (by simpa using hs)
      · exact h1 z h3.1
theorem delU_sub {x y : Int} : ∀ {l : List Ob}, List.Sublist (delU x y l) l
  | [] => List.Sublist.slnil
  | a :: l => by
    unfold delU
    split
    · exact List.sublist_cons_self _ _
    · exact delU_sub.cons_cons _
theorem delU_mem {x y : Int} : ∀ {l : List Ob}, KeysApart l → ∀ q, q ∈ delU x y l ↔ q ∈ l ∧ isKey x y q = false
  | [], _, q => by simp [delU]
  | a :: l, h, q => by
    obtain ⟨h1, h2⟩ := List.pairwise_cons.1 h
    unfold delU
    by_cases hs : isKey x y a = true
    · simp only [hs, if_true, List.mem_cons]
      have e2 : a.kind = x ∧ a.id = y := by simpa [isKey] using hs
      have hne : ∀ z ∈ l, isKey x y z = false := fun z hz => by
        simp only [isKey, decide_eq_false_iff_not]
        rintro ⟨rfl, rfl⟩
        exact h1 z hz e2
      constructor
      · intro h3; exact ⟨.inr h3, hne q h3⟩
      · rintro ⟨rfl | h3, h4⟩
        · rw [hs] at h4; cases h4
        · exact h3
    · have hs' : isKey x y a = false := by simpa using hs
      simp only [hs, if_false, Bool.false_eq_true, List.mem_cons, delU_mem h2]
      constructor
      · rintro (rfl | h3)
        · exact ⟨.inl rfl, hs'⟩
        · exact ⟨.inr h3.1, h3.2⟩
      · rintro ⟨rfl | h3, h4⟩
        · exact .inl rfl
        · exact .inr ⟨h3, h4⟩
/-- When the entries of a map were laid. -/
def BornOk (es : List MapEntry) (c : Nat) : Prop := (∀ e ∈ es, e.born < c) ∧ (es.map (·.born)).Nodup
theorem bornOk_put {ks : List Value} {v : Value} {es : List MapEntry} {c : Nat} (h : BornOk es c) : BornOk (putR ks v c es) (putE ks v es c).2 := by
  have key : ∀ (es : List MapEntry) (i : Nat), (∀ e ∈ es, e.born < c) → (es.map (·.born)).Nodup → (∀ e ∈ putR ks v c es, e.born < c ∨ ((findE ks es i) = none ∧ e.born = c)) ∧ ((putR ks v c es).map (·.born)).Nodup ∧ (∀ b ∈ (putR ks v c es).map (·.born), b ∈ es.map (·.born) ∨ b = c) := by
    intro es
    induction es with
    | nil => intro i _ _; simp [putR, findE]
    | cons e es ih =>
      intro i h1 h2
      simp only [List.map_cons, List.nodup_cons] at h2
      obtain ⟨g1, g2, g3⟩ := ih (i + 1) (fun e he => h1 e (by simp [he])) h2.2
      simp only [putR, findE]
      by_cases hk : keyIs ks e = true
      · simp only [hk, if_true]
        refine ⟨fun q hq => ?_, by simpa using h2, fun b hb => .inl (by simpa using hb)⟩
        rcases List.mem_cons.1 hq with rfl | hq
        · exact .inl (h1 e (by simp))
        · exact .inl (h1 q (by simp [hq]))
      · simp only [hk, if_false, Bool.false_eq_true]
        refine ⟨fun q hq => ?_, ?_, fun b hb => ?_⟩
        · rcases List.mem_cons.1 hq with rfl | hq
          · exact .inl (h1 q (by simp))
          · exact g1 q hq
        · rw [List.map_cons, List.nodup_cons]
          refine ⟨fun hm => ?_, g2⟩
          rcases g3 _ hm with h3 | h3
          · exact h2.1 h3
          · have := h1 e (by simp); omega
        · rw [List.map_cons] at hb
          rcases List.mem_cons.1 hb with rfl | hb
          · simp
          · rcases g3 b hb with h3 | h3
            · left; simp only [List.map_cons, List.mem_cons]; exact .inr h3
            · exact .inr h3
  obtain ⟨g1, g2, _⟩ := key es 0 h.1 h.2
  refine ⟨fun e he => ?_, g2⟩
  rcases g1 e he with h1 | ⟨h1, h2⟩
  · unfold putE; split
    · exact h1
    · exact Nat.lt_succ_of_lt h1
  · unfold putE; rw [h1]; simp [h2]
theorem delR_sub (ks : List Value) : ∀ (es : List MapEntry), List.Sublist (delR ks es) es
  | [] => List.Sublist.slnil
  | e :: es => by
    unfold delR
    split
    · exact List.sublist_cons_self _ _
    · exact (delR_sub ks es).cons_cons _
/-- A map of objects. -/
structure ObMap (p : List MapEntry × Nat) (l : List Ob) : Prop where
  is : MapIs p.1 l
  apart : KeysApart l
  born : BornOk p.1 p.2
theorem ObMap.put {p : List MapEntry × Nat} {l : List Ob} (h : ObMap p l) (o : Ob) : ObMap (stepM p o) (putU o l) := ⟨h.is.put, putU_apart h.apart, bornOk_put h.born⟩
theorem ObMap.del {p : List MapEntry × Nat} {l : List Ob} (h : ObMap p l) (x y : Int) : ObMap (delE (kv2 x y) p.1, p.2) (delU x y l) := by
  rw [delE_delR]
  have hs := delR_sub (kv2 x y) p.1
  exact ⟨h.is.del, h.apart.sublist delU_sub, fun e he => h.born.1 e (hs.subset he), h.born.2.sublist (hs.map _)⟩
theorem bornOk_mapL (l : List Ob) : BornOk (mapL l).1 (mapL l).2 := by
  have key : ∀ (l : List Ob) (p : List MapEntry × Nat), BornOk p.1 p.2 → BornOk (l.foldl stepM p).1 (l.foldl stepM p).2 := by
    intro l
    induction l with
    | nil => intro p h; exact h
    | cons o l ih => intro p h; exact ih _ (bornOk_put h)
  exact key l ([], 0) ⟨fun e h => by simp at h, by simp⟩
theorem obMap_mapL {l : List Ob} (h : rises l = true) : ObMap (mapL l) l := ⟨mapIs_mapL h, rises_apart h, bornOk_mapL l⟩
theorem MapIs.ok {es : List MapEntry} {l : List Ob} (h : MapIs es l) : MapOk es := by
  have key : ∀ e ∈ es, ∃ o : Ob, e.key = .agg (kv2 o.kind o.id).toArray ∧ e.val = o.val := fun e he => by
    have hm : (e.key, e.val) ∈ es.map (fun e => (e.key, e.val)) := List.mem_map.2 ⟨e, he, rfl⟩
    rw [h] at hm
    obtain ⟨o, _, ho⟩ := List.mem_map.1 hm
    simp only [Prod.mk.injEq] at ho
    exact ⟨o, ho.1.symm, ho.2.symm⟩
  exact ⟨fun e he => by obtain ⟨o, h1, _⟩ := key e he; exact ⟨_, h1, sk2 _ _⟩, fun e he => by obtain ⟨o, _, h2⟩ := key e he; rw [h2]; rfl⟩
/-- Objects behind a change. -/
def turnOb (gone : Bool) (o : Ob) (l : List Ob) : List Ob := putL o gone l
def turnU (gone : Bool) (o : Ob) (l : List Ob) : List Ob := if gone then delU o.kind o.id l else putU o l
def turnP (gone : Bool) (o : Ob) (p : List MapEntry × Nat) : List MapEntry × Nat := if gone then (delE (kv2 o.kind o.id) p.1, p.2) else stepM p o
theorem ObMap.turn {p : List MapEntry × Nat} {l : List Ob} (h : ObMap p l) (gone : Bool) (o : Ob) : ObMap (turnP gone o p) (turnU gone o l) := by
  cases gone with
  | true => exact h.del _ _
  | false => exact h.put o
theorem turnU_mem {l : List Ob} (h : KeysApart l) (gone : Bool) (o q : Ob) : q ∈ turnU gone o l ↔ (gone = false ∧ q = o) ∨ (q ∈ l ∧ sameKey q o = false) := by
  cases gone with
  | true => simp [turnU, delU_mem h, isKey_same]
  | false => simp [turnU, putU_mem h]
theorem turnOb_of {l m d : List Ob} (hm : KeysApart m) (hl : rises l = true) (hlm : ∀ q, q ∈ m ↔ q ∈ l) (gone : Bool) (o : Ob) (hr : rises d = true) (hd : ∀ q, q ∈ d ↔ q ∈ turnU gone o m) : d = turnOb gone o l :=
  rises_ext hr (rises_putL o l gone hl (.inr fun _ _ => trivial)) fun q => by
    rw [hd, turnU_mem hm, hlm]; exact (mem_putL o l gone q).symm
end Go.Proofs.Ytiogdfliailenaa
