/-
  Regions whose order is open: the rule. No program's text.
-/
import Derived.Test.YtjalcajhmiamgaaAbs14
namespace Go.Abs
set_option linter.unusedSimpArgs false
set_option linter.unusedVariables false
set_option linter.unnecessarySimpa false
open Go

def evT (T : List AV) : Operand → AV := ASt.eval ⟨T, [], 0⟩
theorem evT_eq (st : ASt) : st.eval = evT st.tmps := by funext x; cases x <;> rfl
def guardT (T : List AV) (ops : Array Oper) (j : Nat) : Option (Option Bool) := ASt.guard ⟨T, [], 0⟩ ops j

/-- One operation of a region, its guard asked first. -/
def stepC (P : Program) (ops : Array Oper) (o : Oper) (T : List AV) (H : AHeap) (c : Nat) (K : AV → AHeap → Nat → Prop) : Prop :=
  match o.guard with
  | none => acoreX P o.op (evT T) H c K
  | some (j, want) => match guardT T ops j with
    | some b => if b = some want then acoreX P o.op (evT T) H c K else K (.tup []) H c
    | none => False

def putK (T : List AV) (dst : Option Tmp) (K : ASt → Prop) : AV → AHeap → Nat → Prop := fun v H c => K (ASt.put ⟨T, H, c⟩ dst v)
def stepA (P : Program) (ops : Array Oper) (o : Oper) (st : ASt) (K : ASt → Prop) : Prop := stepC P ops o st.tmps st.heap st.clk (putK st.tmps o.dst K)

/-- A walk of the operations that are told, in their order. -/
def AOrd (P : Program) (ops : Array Oper) (Q : Exit → ASt → Prop) : List Oper → ASt → Prop
  | [], st => Q .normal st
  | o :: rest, st => stepA P ops o st (AOrd P ops Q rest)

section
variable {P : Program} {ops : Array Oper} {Q : Exit → ASt → Prop} {K : AV → AHeap → Nat → Prop} {T : List AV} {H : AHeap} {c : Nat}

theorem look_ops {o : Oper} {d : Tmp} (h : d ∉ o.looksAt ops) : (∀ x ∈ o.op.operands, x ≠ .tmp d) ∧ (∀ g want, o.guard = some (g, want) → (ops[g]?).bind (·.dst) ≠ some d) := by
  refine ⟨fun x hx e => h ?_, fun g want hg e => h ?_⟩
  · subst e
    simp only [Oper.looksAt, List.mem_append, List.mem_filterMap]
    exact .inl ⟨.tmp d, by simpa using hx, rfl⟩
  · simp only [Oper.looksAt, List.mem_append, hg]
    exact .inr (by simp [e])

theorem evT_set {d : Tmp} {x : AV} {y : Operand} (h : y ≠ .tmp d) : evT (T.set d x) y = evT T y := by
  cases y with
  | tmp t =>
    have hne : d ≠ t := fun e => h (e ▸ rfl)
    simp [evT, ASt.eval, List.getElem?_set, hne]
  | _ => rfl
theorem stepC_set {o : Oper} {d : Tmp} {x : AV} (h : d ∉ o.looksAt ops) : stepC P ops o (T.set d x) H c K = stepC P ops o T H c K := by
  obtain ⟨h1, h2⟩ := look_ops h
  have hc : ∀ K, acoreX P o.op (evT (T.set d x)) H c K = acoreX P o.op (evT T) H c K := fun K => acoreX_congr fun y hy => evT_set (h1 y hy)
  unfold stepC
  split
  · exact hc K
  · rename_i j want hg
    have hgd : guardT (T.set d x) ops j = guardT T ops j := by
      have := h2 j want hg
      unfold guardT ASt.guard
      cases hd : (ops[j]?).bind (·.dst) with
      | none => rfl
      | some e =>
        have hne : d ≠ e := fun he => this (by rw [hd, he])
        simp [List.getElem?_set, hne]
    rw [hgd]
    split
    · rw [hc K]
    · rfl
theorem stepC_put {o : Oper} {dst : Option Tmp} {x : AV} (h : ∀ d, dst = some d → d ∉ o.looksAt ops) : stepC P ops o (ASt.put ⟨T, H, c⟩ dst x).tmps H c K = stepC P ops o T H c K := by
  cases dst with
  | none => rfl
  | some d => exact stepC_set (h d rfl)

/-- At these slots and in this heap, and in all that have more, it yields x and leaves the heap alone. -/
def QV (P : Program) (ops : Array Oper) (o : Oper) (T : List AV) (H : AHeap) (x : AV) : Prop :=
  ∀ H' c' (K : AV → AHeap → Nat → Prop), HExt H H' → K x H' c' → stepC P ops o T H' c' K

theorem qv_of_step {o : Oper} (hq : quietOp o.op = true) (h : stepC P ops o T H c K) : ∃ x, K x H c ∧ QV P ops o T H x := by
  have core : acoreX P o.op (evT T) H c K → ∃ x, K x H c ∧ ∀ H' c' (K' : AV → AHeap → Nat → Prop), HExt H H' → K' x H' c' → acoreX P o.op (evT T) H' c' K' := by
    intro h
    have hnc : ∀ f args ts, o.op ≠ .call { callee := .value (.func f), args := args, argTypes := ts } := fun f args ts e => by rw [e] at hq; simp [quietOp] at hq
    obtain ⟨x, h1, h2⟩ := quiet_core hq (acoreX_acore h)
    refine ⟨x, h1, fun H' c' K' he hk => ?_⟩
    have := h2 H' c' K' he hk
    unfold acoreX
    split
    · exact absurd (by assumption) (hnc _ _ _)
    · exact this
  unfold stepC at h
  split at h
  · rename_i hg
    obtain ⟨x, h1, h2⟩ := core h
    exact ⟨x, h1, fun H' c' K' he hk => by unfold stepC; rw [hg]; exact h2 H' c' K' he hk⟩
  · rename_i j want hg
    split at h
    · rename_i b hb
      split at h
      · rename_i hw
        obtain ⟨x, h1, h2⟩ := core h
        exact ⟨x, h1, fun H' c' K' he hk => by unfold stepC; simp only [hg, hb, hw, if_true]; exact h2 H' c' K' he hk⟩
      · rename_i hw
        exact ⟨.tup [], h, fun H' c' K' he hk => by unfold stepC; simp only [hg, hb, hw, if_false]; exact hk⟩
    · exact h.elim
theorem QV.ext {o : Oper} {x : AV} (h : QV P ops o T H x) {H' : AHeap} (he : HExt H H') : QV P ops o T H' x := fun H'' c' K he' hk => h H'' c' K (he.trans he') hk
theorem QV.put {o : Oper} {x v : AV} (h : QV P ops o T H x) {dst : Option Tmp} (hd : ∀ d, dst = some d → d ∉ o.looksAt ops) : QV P ops o (ASt.put ⟨T, H, c⟩ dst v).tmps H x := fun H' c' K he hk => by
  cases dst with
  | none => exact h H' c' K he hk
  | some d => show stepC P ops o (T.set d v) H' c' K; rw [stepC_set (hd d rfl)]; exact h H' c' K he hk

theorem stepC_ext {o : Oper} (hq : quietOp o.op = true ∨ extOp o.op = true) (h : stepC P ops o T H c K) : stepC P ops o T H c fun v H' c' => HExt H H' ∧ K v H' c' := by
  unfold stepC at h ⊢
  split
  · rename_i hg; simp only [hg] at h; exact ext_core hq h
  · rename_i j want hg
    simp only [hg] at h
    split
    · rename_i b hb
      simp only [hb] at h
      split
      · rename_i hw; rw [if_pos hw] at h; exact ext_core hq h
      · rename_i hw; rw [if_neg hw] at h; exact ⟨HExt.refl H, h⟩
    · rename_i hb; simp only [hb] at h

theorem nilCmp_mono {H : AHeap} {op : BinOp} {t : TypeId} {x : AV} {K K' : AV → Prop} (hk : ∀ v, K v → K' v) (h : nilCmpA P H op t x K) : nilCmpA P H op t x K' := by
  obtain ⟨hT, hop, h⟩ := h
  refine ⟨hT, hop, ?_⟩
  split at h
  · exact hk _ h
  · exact fun b => hk _ (h b)
  · exact hk _ h
  · exact ⟨h.1, fun h0 => hk _ (h.2.1 h0), fun h0 b => hk _ (h.2.2 h0 b)⟩
  · exact h.elim


theorem acoreX_mono {op : Op} {ev : Operand → AV} {K' : AV → AHeap → Nat → Prop} (hk : ∀ v H c, K v H c → K' v H c) (h : acoreX P op ev H c K) : acoreX P op ev H c K' := by
  by_cases hqq : quietOp op = true
  · have hnc : ∀ f args ts, op ≠ .call { callee := .value (.func f), args := args, argTypes := ts } := fun f args ts e => by rw [e] at hqq; simp [quietOp] at hqq
    obtain ⟨x, h1, h2⟩ := quiet_core hqq (acoreX_acore h)
    have := h2 H c K' (HExt.refl H) (hk _ _ _ h1)
    unfold acoreX
    split
    · exact absurd rfl (hnc _ _ _)
    · exact this
  · unfold acoreX at h ⊢
    split at h
    · rename_i f args ts
      exact ⟨h.1, h.2.mono fun v H c ⟨a, b⟩ => ⟨a, hk _ _ _ b⟩⟩
    · rename_i hne
      unfold acore at h
      split at h
      all_goals try (simp [quietOp] at hqq; done)
      · simp only [acore]
        rename_i e
        cases hz : zeroT P e with
        | none => simp [hz] at h
        | some z =>
          cases hn : unitT P e with
          | none => simp [hz, hn] at h
          | some n => simp only [hz, hn] at h; exact hk _ _ _ h
      · simp only [acore]
        rename_i e x
        cases hz : (ev x).cells? with
        | none => simp [hz] at h
        | some z =>
          cases hn : unitT P e with
          | none => simp [hz, hn] at h
          | some n => simp only [hz, hn] at h; exact hk _ _ _ h
      · simp only [acore]
        rename_i t len ps
        cases hT : sliceT P t with
        | none => simp [hT] at h
        | some r =>
          obtain ⟨e, size, b⟩ := r
          simp only [hT] at h ⊢
          cases hz : zeroT P e with
          | none => simp [hz] at h
          | some z =>
            simp only [hz] at h ⊢
            split at h
            · exact ⟨h.1, hk _ _ _ h.2⟩
            · exact h.elim
      · simp only [acore, storeA] at h ⊢
        split at h
        · split at h
          · exact ⟨h.1, hk _ _ _ h.2⟩
          · exact h.elim
        · exact h.elim
      · simp only [acore]
        split at h
        · rename_i hy
          rw [if_pos hy]
          exact nilCmp_mono (fun v => hk _ _ _) h
        · rename_i hy; exact absurd hqq (by simp [quietOp, hy])
      · simp only [acore, makeA] at h ⊢
        split at h
        · split at h
          · exact ⟨h.1, hk _ _ _ h.2⟩
          · exact h.elim
        · exact h.elim
      · simp only [acore]
        split at h
        · rename_i x y t u hx ht
          simp only [appendA] at h ⊢
          split at h
          · obtain ⟨h0, h⟩ := h
            refine ⟨h0, ?_⟩
            split at h
            · exact ⟨h.1, hk _ _ _ h.2⟩
            · split at h
              · exact ⟨h.1, hk _ _ _ h.2⟩
              · exact h.elim
            · exact h.elim
          · exact h.elim
        · exact h.elim
      · rename_i f args ts
        exact absurd rfl (hne f args ts)
      · have hx := xcore_mono hk h
        unfold acore
        split <;> first | exact hx | exact (show False by simpa [xcore] using h).elim | (exfalso; simp_all; done)

/-- What follows may be weakened. -/
theorem stepC_mono {o : Oper} {K' : AV → AHeap → Nat → Prop} (hk : ∀ v H c, K v H c → K' v H c) (h : stepC P ops o T H c K) : stepC P ops o T H c K' := by
  unfold stepC at h ⊢
  split
  · rename_i hg; simp only [hg] at h; exact acoreX_mono hk h
  · rename_i j want hg
    simp only [hg] at h
    split
    · rename_i b hb
      simp only [hb] at h
      split
      · rename_i hw; rw [if_pos hw] at h; exact acoreX_mono hk h
      · rename_i hw; rw [if_neg hw] at h; exact hk _ _ _ h
    · rename_i hb; simp only [hb] at h
theorem stepA_mono {o : Oper} {st : ASt} {N N' : ASt → Prop} (hk : ∀ s, N s → N' s) (h : stepA P ops o st N) : stepA P ops o st N' := stepC_mono (fun _ _ _ hh => hk _ hh) h

/-- Whatever order is picked from here on. -/
def AAny (P : Program) (ops : Array Oper) (Q : Exit → ASt → Prop) : Nat → Array Bool → ASt → Prop
  | 0, listed, st => Region.ready .any ops listed = [] ∧ Q .normal st
  | n + 1, listed, st => (Region.ready .any ops listed = [] → Q .normal st) ∧
    ∀ i ∈ Region.ready .any ops listed, ∀ o, ops[i]? = some o → stepA P ops o st (AAny P ops Q n (listed.setIfInBounds i true))

def calm (o : Oper) : Bool := quietOp o.op || extOp o.op
theorem calm_or {o : Oper} (h : calm o = true) : quietOp o.op = true ∨ extOp o.op = true := by simpa [calm] using h

theorem put_put {st : ASt} {x y : Option Tmp} (v u : AV) (h : ∀ d, x = some d → y ≠ some d) : (st.put x v).put y u = (st.put y u).put x v := by
  cases x with
  | none => rfl
  | some d =>
    cases y with
    | none => rfl
    | some e =>
      have hne : d ≠ e := fun he => h d rfl (he ▸ rfl)
      simp [ASt.put, List.set_comm _ _ hne]
theorem put_heap (st : ASt) (x : Option Tmp) (v : AV) : (st.put x v).heap = st.heap := by cases x <;> rfl
theorem put_clk (st : ASt) (x : Option Tmp) (v : AV) : (st.put x v).clk = st.clk := by cases x <;> rfl
theorem put_tmps (T : List AV) (H H' : AHeap) (c c' : Nat) (x : Option Tmp) (v : AV) : (ASt.put ⟨T, H, c⟩ x v).tmps = (ASt.put ⟨T, H', c'⟩ x v).tmps := by cases x <;> rfl

/-- A quiet operation that may come up now may be taken first. -/
theorem aany_first {k : Nat} {ok : Oper} {x : AV} (hk : ops[k]? = some ok) (S : Nat → Prop) : ∀ (n : Nat) (listed : Array Bool) (st : ASt),
    (∀ j, S j → listed.getD j true = false ∧ ∃ oj e, ops[j]? = some oj ∧ e ∈ oj.after ∧ Region.binds .any e = true ∧ (e.on = k ∨ S e.on)) →
    (∀ j oj, ops[j]? = some oj → j ≠ k → listed.getD j true = false → ¬ S j → (∀ e ∈ oj.after, Region.binds .any e = true → e.on ≠ k) → ok.apart ops oj = true ∧ calm oj = true) →
    k ∈ Region.ready .any ops listed → QV P ops ok st.tmps st.heap x → AAny P ops Q n (listed.setIfInBounds k true) (st.put ok.dst x) → AAny P ops Q (n + 1) listed st := by
  intro n
  induction n with
  | zero =>
    intro listed st _ _ hr hy hA
    refine ⟨fun h => (by rw [h] at hr; cases hr), fun i hi o ho => ?_⟩
    by_cases hik : i = k
    · subst hik
      rw [hk] at ho; cases ho
      exact hy _ _ _ (HExt.refl _) hA
    · have := ready_mono hi hik
      rw [hA.1] at this
      cases this
  | succ n ih =>
    intro listed st hS hfree hr hy hA
    refine ⟨fun h => (by rw [h] at hr; cases hr), fun i hi o ho => ?_⟩
    by_cases hik : i = k
    · subst hik
      rw [hk] at ho; cases ho
      exact hy _ _ _ (HExt.refl _) hA
    · have h1 := hA.2 i (ready_mono hi hik) o ho
      obtain ⟨hiun, o', ho', hall⟩ := mem_ready.1 hi
      rw [ho] at ho'; cases ho'
      have hnot : ∀ e ∈ o.after, Region.binds .any e = true → e.on ≠ k := fun e he hb heq => by
        have h1 := hall e he hb
        have h0 := (mem_ready.1 hr).1
        rw [heq] at h1
        rcases Nat.lt_or_ge k listed.size with h' | h'
        · simp [h'] at h0 h1; rw [h0] at h1; cases h1
        · simp [Array.getElem?_eq_none h'] at h1
      have hnS : ¬ S i := fun hs => by
        obtain ⟨_, oj, e, hoj, he, hb, hor⟩ := hS i hs
        rw [ho] at hoj; cases hoj
        rcases hor with h' | h'
        · exact hnot e he hb h'
        · have h1 := hall e he hb
          have h0 := (hS _ h').1
          rcases Nat.lt_or_ge e.on listed.size with g | g
          · simp [g] at h0 h1; rw [h0] at h1; cases h1
          · simp [Array.getElem?_eq_none g] at h1
      obtain ⟨hap, hcalm⟩ := hfree i o ho hik hiun hnS hnot
      obtain ⟨a1, a2, a3⟩ := Oper.apart_spec hap
      unfold stepA at h1 ⊢
      rw [put_heap, put_clk] at h1
      have h2 : stepC P ops o st.tmps st.heap st.clk (putK (st.put ok.dst x).tmps o.dst (AAny P ops Q n ((listed.setIfInBounds k true).setIfInBounds i true))) := by
        have e := stepC_put (P := P) (ops := ops) (o := o) (T := st.tmps) (H := st.heap) (c := st.clk) (K := putK (st.put ok.dst x).tmps o.dst (AAny P ops Q n ((listed.setIfInBounds k true).setIfInBounds i true))) (dst := ok.dst) (x := x) a1
        rw [← e]
        exact h1
      refine stepC_mono ?_ (stepC_ext (calm_or hcalm) h2)
      rintro v H' c' ⟨hext, hK⟩
      refine ih (listed.setIfInBounds i true) (ASt.put ⟨st.tmps, H', c'⟩ o.dst v) ?_ ?_ (ready_mono hr (fun e => hik e.symm)) ?_ ?_
      · intro j hs
        obtain ⟨h1, h2⟩ := hS j hs
        refine ⟨?_, h2⟩
        have hij : i ≠ j := fun e => hnS (e ▸ hs)
        rw [getD_set_ne true hij]; exact h1
      · intro j oj hj hjk hun hns hno
        refine hfree j oj hj hjk ?_ hns hno
        by_cases hij : i = j
        · subst hij; exact hiun
        · rw [getD_set_ne true hij] at hun; exact hun
      · rw [put_heap]
        have h3 := (hy.ext hext)
        have := QV.put (c := c') (v := v) h3 (dst := o.dst) a3
        exact this
      · rw [Array.setIfInBounds_comm _ _ (fun e => hik e)]
        have e1 : (ASt.put ⟨st.tmps, H', c'⟩ o.dst v).put ok.dst x = ASt.put ⟨(st.put ok.dst x).tmps, H', c'⟩ o.dst v := by
          rw [← put_put x v (fun d hd => a2 d hd)]
          congr 1
          cases ok.dst <;> rfl
        rw [e1]
        exact hK

/-- Does operation j wait for operation k by an edge of its own? -/
def waits (o : Oper) (k : Nat) : Bool := o.after.any fun e => Region.binds .any e && e.on == k
def waitsOn (o : Oper) (k : Nat) (S : List Nat) : Bool := o.after.any fun e => Region.binds .any e && (e.on == k || S.contains e.on)
/-- What waits for operation k, by whatever way. -/
def depS (ops : Array Oper) (k : Nat) (listed : Array Bool) : List Nat :=
  (List.range ops.size).foldl (fun S j => if listed.getD j true then S else match ops[j]? with
    | some oj => if waitsOn oj k S then j :: S else S
    | none => S) []
def freeS (ops : Array Oper) (k : Nat) (ok : Oper) (listed : Array Bool) (S : List Nat) : Bool :=
  (S.all fun j => !(listed.getD j true) && match ops[j]? with
    | some oj => waitsOn oj k S
    | none => false) &&
  (List.range ops.size).all fun j => j == k || listed.getD j true || S.contains j || match ops[j]? with
    | some oj => waits oj k || (ok.apart ops oj && calm oj)
    | none => true
def freeOk (ops : Array Oper) (k : Nat) (ok : Oper) (listed : Array Bool) : Bool := freeS ops k ok listed (depS ops k listed)
theorem aany_free {k : Nat} {ok : Oper} {x : AV} {n : Nat} {listed : Array Bool} {st : ASt} (hk : ops[k]? = some ok) (hf : freeOk ops k ok listed = true) (hr : k ∈ Region.ready .any ops listed) (hqv : QV P ops ok st.tmps st.heap x)
    (h : AAny P ops Q n (listed.setIfInBounds k true) (st.put ok.dst x)) : AAny P ops Q (n + 1) listed st := by
  unfold freeOk at hf
  generalize depS ops k listed = S at hf
  simp only [freeS, Bool.and_eq_true, List.all_eq_true, List.mem_range] at hf
  obtain ⟨hS, hf⟩ := hf
  refine aany_first hk (fun j => S.contains j = true) n listed st ?_ ?_ hr hqv h
  · intro j hj
    have hm : j ∈ S := by simpa using hj
    have h1 := hS j hm
    simp only [Bool.and_eq_true, Bool.not_eq_true'] at h1
    obtain ⟨h1, h2⟩ := h1
    refine ⟨h1, ?_⟩
    split at h2
    · rename_i oj hoj
      simp only [waitsOn, Array.any_eq_true, Bool.and_eq_true, Bool.or_eq_true, beq_iff_eq] at h2
      obtain ⟨q, hq1, hq2, hq3⟩ := h2
      exact ⟨oj, _, hoj, Array.getElem_mem hq1, hq2, hq3⟩
    · exact absurd h2 (by simp)
  · intro j oj hj hjk hun hns hno
    have hjl : j < ops.size := by
      rcases Nat.lt_or_ge j ops.size with h | h
      · exact h
      · rw [Array.getElem?_eq_none h] at hj; cases hj
    have := hf j hjl
    have hns' : S.contains j = false := by simpa using hns
    simp only [hj, hun, hns', Bool.or_eq_true, beq_iff_eq, Bool.and_eq_true, Bool.false_eq_true, or_false, hjk, false_or] at this
    rcases this with hw | hw
    · simp only [waits, Array.any_eq_true, Bool.and_eq_true, beq_iff_eq] at hw
      obtain ⟨q, hq1, hq2, hq3⟩ := hw
      exact absurd hq3 (hno _ (Array.getElem_mem hq1) hq2)
    · exact hw
/-- An order that serves all: what comes next is quiet and apart from all that does not wait for it, or nothing else may come. -/
def orderOk (ops : Array Oper) : List Nat → Array Bool → Bool
  | [], listed => Region.ready .any ops listed == []
  | k :: rest, listed => (match ops[k]? with
      | some ok => (Region.ready .any ops listed == [k]) || ((Region.ready .any ops listed).contains k && quietOp ok.op && freeOk ops k ok listed)
      | none => false) && orderOk ops rest (listed.setIfInBounds k true)

theorem aany_of_order : ∀ (ord : List Nat) (l : List Oper) (listed : Array Bool) (st : ASt), l.map some = ord.map (ops[·]?) → orderOk ops ord listed = true → AOrd P ops Q l st → AAny P ops Q ord.length listed st
  | [], l, listed, st, hl, ho, h => by
    have : l = [] := by simpa using hl
    subst this
    exact ⟨by simpa [orderOk] using ho, h⟩
  | k :: rest, l, listed, st, hl, ho, h => by
    match l, hl, h with
    | o :: l2, hl2, h =>
      simp only [List.map_cons, List.cons.injEq] at hl2
      obtain ⟨hk, hl3⟩ := hl2
      simp only [orderOk, ← hk, Bool.and_eq_true, Bool.or_eq_true] at ho
      obtain ⟨h1, h2⟩ := ho
      by_cases hone : Region.ready .any ops listed = [k]
      · refine ⟨fun he => (by rw [hone] at he; cases he), fun i hi o' ho' => ?_⟩
        rw [hone] at hi
        simp at hi
        subst hi
        rw [← hk] at ho'; cases ho'
        exact stepA_mono (fun s hs => aany_of_order rest l2 _ s hl3 h2 hs) h
      · rcases h1 with h1 | h1
        · exact absurd (by simpa using h1) hone
        · obtain ⟨⟨hr, hq⟩, hf⟩ := h1
          unfold AOrd stepA at h
          obtain ⟨x, hx, hqv⟩ := qv_of_step hq h
          exact aany_free hk.symm hf (by simpa using hr) hqv (aany_of_order rest l2 _ _ hl3 h2 hx)

theorem stepA_sound {o : Oper} {st : ASt} {K : ASt → Prop} {w0 : World} {E0 : Env} {H0 : AHeap} {Q' : Exit → Act → World → Prop} {N : Act → World → Prop} {i : Nat} (hi : ops[i]? = some o)
    (hN : ∀ st' a' w', K st' → Inv w0 E0 H0 st' a' w' → N a' w') {a : Act} {w : World} (h : stepA P ops o st K) (hI : Inv w0 E0 H0 st a w) : wpOp P ops Q' i N a w := by
  unfold wpOp
  simp only [hi]
  have run : acoreX P o.op (evT st.tmps) st.heap st.clk (putK st.tmps o.dst K) → o.wp P a w N Q' := by
    intro h
    have h1 := acoreX_acore h
    rw [← evT_eq] at h1
    exact aop_sound (o := o) (st := st) (K := K) h1 w0 E0 H0 a w hI N Q' hN
  unfold stepA stepC at h
  split at h
  · rename_i hg
    have hw : Region.wanted o (yielded ops a.tmps) = true := by simp [Region.wanted, hg]
    rw [if_pos hw]
    exact .inl (run h)
  · rename_i j want hg
    split at h
    · rename_i b hb
      obtain ⟨E, hE⟩ := hI
      have hb' : st.guard ops j = some b := hb
      have hy := guard_rel hE hb'
      split at h
      · rename_i hbw
        have hw : Region.wanted o (yielded ops a.tmps) = true := by simp [Region.wanted, hg, hy, hbw]
        rw [if_pos hw]
        exact .inl (run h)
      · rename_i hbw
        have hw : Region.wanted o (yielded ops a.tmps) = false := by simp [Region.wanted, hg, hy, hbw]
        rw [hw]
        exact hN _ _ _ h ⟨E, InvE.put (st := ⟨st.tmps, st.heap, st.clk⟩) hE _ (rel_undef _ _)⟩
    · exact h.elim

theorem aany_sound {w0 : World} {E0 : Env} {H0 : AHeap} {Q' : Exit → Act → World → Prop} (hQ : ∀ st a w, Q .normal st → Inv w0 E0 H0 st a w → Q' .normal a w) : ∀ (n : Nat) (listed : Array Bool) (st : ASt) (a : Act) (w : World),
    AAny P ops Q n listed st → Inv w0 E0 H0 st a w → wpAny P .any ops Q' n listed a w
  | 0, _, st, a, w, h, hI => ⟨h.1, hQ st a w h.2 hI⟩
  | n + 1, listed, st, a, w, h, hI => ⟨fun h0 => hQ st a w (h.1 h0) hI, fun i hi => by
    obtain ⟨_, o, ho, _⟩ := mem_ready.1 hi
    exact stepA_sound ho (fun st' a' w' hK hI' => aany_sound hQ n _ st' a' w' hK hI') (h.2 i hi o ho) hI⟩

/-- A region whose order is open: walk it in an order that serves all. -/
theorem codeOk_draw {id : Nat} {ops : Array Oper} {st : ASt} (ord : List Nat) (hm : P.follows .mixedOrders = true) (hn : ord.length = ops.size) (hb : ord.all (· < ops.size) = true)
    (ho : orderOk ops ord (Array.replicate ops.size false) = true) (h : AOrd P ops Q (ord.filterMap (ops[·]?)) st) : CodeOk P (.region id ops true) Q st := by
  intro w0 E0 H0 a w ⟨E, hE⟩
  refine wp_region_any hm ?_
  obtain ⟨l, hle⟩ : ∃ l, l = ord.filterMap (ops[·]?) := ⟨_, rfl⟩
  rw [← hle] at h
  have hl : l.map some = ord.map (ops[·]?) := by
    subst hle
    clear hn ho h
    induction ord with
    | nil => rfl
    | cons k rest ih =>
      simp only [List.all_cons, Bool.and_eq_true, decide_eq_true_eq] at hb
      have hk : ops[k]? = some ops[k] := Array.getElem?_eq_getElem hb.1
      rw [List.filterMap_cons, hk]
      simp only [List.map_cons, hk]
      rw [ih hb.2]
  have hA := aany_of_order ord l _ st hl ho h
  rw [hn] at hA
  exact aany_sound (fun st' a' w' hq hI => ⟨st', hq, hI⟩) ops.size _ st a _ hA ⟨E, hE.drew⟩
end
end Go.Abs
