/-
  Regions whose order is open: steps that hang on no memory of the call's own trade places with whatever is apart from them. No program's text.
-/
import Derived.Test.YtjalcajhmiamgaaAbs28
namespace Go.Abs
set_option linter.unusedSimpArgs false
set_option linter.unusedVariables false
set_option linter.unnecessarySimpa false
open Go
section
variable {P : Program} {ops : Array Oper} {Q : Exit → ASt → Prop} {K : AV → AHeap → Nat → Prop} {T : List AV} {H : AHeap} {c : Nat}
theorem aany_still {k : Nat} {ok : Oper} {x : AV} (hk : ops[k]? = some ok) (S : Nat → Prop) : ∀ (n : Nat) (listed : Array Bool) (st : ASt),
    (∀ j, S j → listed.getD j true = false ∧ ∃ oj e, ops[j]? = some oj ∧ e ∈ oj.after ∧ Region.binds .any e = true ∧ (e.on = k ∨ S e.on)) →
    (∀ j oj, ops[j]? = some oj → j ≠ k → listed.getD j true = false → ¬ S j → (∀ e ∈ oj.after, Region.binds .any e = true → e.on ≠ k) → ok.apart ops oj = true) →
    k ∈ Region.ready .any ops listed → QV P ops ok st.tmps [] x → AAny P ops Q n (listed.setIfInBounds k true) (st.put ok.dst x) → AAny P ops Q (n + 1) listed st := by
  intro n
  induction n with
  | zero =>
    intro listed st _ _ hr hy hA
    refine ⟨fun h => (by rw [h] at hr; cases hr), fun i hi o ho => ?_⟩
    by_cases hik : i = k
    · subst hik
      rw [hk] at ho; cases ho
      exact hy _ _ _ (fun k B h => by simp at h) hA
    · have := ready_mono hi hik
      rw [hA.1] at this
      cases this
  | succ n ih =>
    intro listed st hS hfree hr hy hA
    refine ⟨fun h => (by rw [h] at hr; cases hr), fun i hi o ho => ?_⟩
    by_cases hik : i = k
    · subst hik
      rw [hk] at ho; cases ho
      exact hy _ _ _ (fun k B h => by simp at h) hA
    · have h1 := hA.2 i (ready_mono hi hik) o ho
      obtain ⟨hiun, o', ho', hall⟩ := mem_ready.1 hi
      rw [ho] at ho'; cases ho'
      have hnot : ∀ e ∈ o.after, Region.binds .any e = true → e.on ≠ k := fun e he hb heq => by
        have h1 := hall e he hb
        have h0 := (mem_ready.1 hr).1
        rw [heq] at h1
        rcases Nat.lt_or_ge k listed.size with h' | h'
        · simp [h'] at h0 h1; rw [h0] at h1; cases h1
        · simp [Array.getElem?_eq_none h'] at h1
      have hnS : ¬ S i := fun hs => by
        obtain ⟨_, oj, e, hoj, he, hb, hor⟩ := hS i hs
        rw [ho] at hoj; cases hoj
        rcases hor with h' | h'
        · exact hnot e he hb h'
        · have h1 := hall e he hb
          have h0 := (hS _ h').1
          rcases Nat.lt_or_ge e.on listed.size with g | g
          · simp [g] at h0 h1; rw [h0] at h1; cases h1
          · simp [Array.getElem?_eq_none g] at h1
      have hap := hfree i o ho hik hiun hnS hnot
      obtain ⟨a1, a2, a3⟩ := Oper.apart_spec hap
      unfold stepA at h1 ⊢
      rw [put_heap, put_clk] at h1
      have h2 : stepC P ops o st.tmps st.heap st.clk (putK (st.put ok.dst x).tmps o.dst (AAny P ops Q n ((listed.setIfInBounds k true).setIfInBounds i true))) := by
        have e := stepC_put (P := P) (ops := ops) (o := o) (T := st.tmps) (H := st.heap) (c := st.clk) (K := putK (st.put ok.dst x).tmps o.dst (AAny P ops Q n ((listed.setIfInBounds k true).setIfInBounds i true))) (dst := ok.dst) (x := x) a1
        rw [← e]
        exact h1
      refine stepC_mono ?_ h2
      rintro v H' c' hK
      refine ih (listed.setIfInBounds i true) (ASt.put ⟨st.tmps, H', c'⟩ o.dst v) ?_ ?_ (ready_mono hr (fun e => hik e.symm)) ?_ ?_
      · intro j hs
        obtain ⟨h1, h2⟩ := hS j hs
        refine ⟨?_, h2⟩
        have hij : i ≠ j := fun e => hnS (e ▸ hs)
        rw [getD_set_ne true hij]; exact h1
      · intro j oj hj hjk hun hns hno
        refine hfree j oj hj hjk ?_ hns hno
        by_cases hij : i = j
        · subst hij; exact hiun
        · rw [getD_set_ne true hij] at hun; exact hun
      · have := QV.put (c := c') (v := v) hy (dst := o.dst) a3
        rw [put_tmps st.tmps H' [] c' c' o.dst v]
        exact this
      · rw [Array.setIfInBounds_comm _ _ (fun e => hik e)]
        have e1 : (ASt.put ⟨st.tmps, H', c'⟩ o.dst v).put ok.dst x = ASt.put ⟨(st.put ok.dst x).tmps, H', c'⟩ o.dst v := by
          rw [← put_put x v (fun d hd => a2 d hd)]
          congr 1
          cases ok.dst <;> rfl
        rw [e1]
        exact hK

def stillS (ops : Array Oper) (k : Nat) (ok : Oper) (listed : Array Bool) (S : List Nat) : Bool :=
  (S.all fun j => !(listed.getD j true) && match ops[j]? with
    | some oj => waitsOn oj k S
    | none => false) &&
  (List.range ops.size).all fun j => j == k || listed.getD j true || S.contains j || match ops[j]? with
    | some oj => waits oj k || ok.apart ops oj
    | none => true
def stillOk (ops : Array Oper) (k : Nat) (ok : Oper) (listed : Array Bool) : Bool := stillS ops k ok listed (depS ops k listed)
theorem aany_stillOk {k : Nat} {ok : Oper} {x : AV} {n : Nat} {listed : Array Bool} {st : ASt} (hk : ops[k]? = some ok) (hf : stillOk ops k ok listed = true) (hr : k ∈ Region.ready .any ops listed) (hqv : QV P ops ok st.tmps [] x)
    (h : AAny P ops Q n (listed.setIfInBounds k true) (st.put ok.dst x)) : AAny P ops Q (n + 1) listed st := by
  unfold stillOk at hf
  generalize depS ops k listed = S at hf
  simp only [stillS, Bool.and_eq_true, List.all_eq_true, List.mem_range] at hf
  obtain ⟨hS, hf⟩ := hf
  refine aany_still hk (fun j => S.contains j = true) n listed st ?_ ?_ hr hqv h
  · intro j hj
    have hm : j ∈ S := by simpa using hj
    have h1 := hS j hm
    simp only [Bool.and_eq_true, Bool.not_eq_true'] at h1
    obtain ⟨h1, h2⟩ := h1
    refine ⟨h1, ?_⟩
    split at h2
    · rename_i oj hoj
      simp only [waitsOn, Array.any_eq_true, Bool.and_eq_true, Bool.or_eq_true, beq_iff_eq] at h2
      obtain ⟨q, hq1, hq2, hq3⟩ := h2
      exact ⟨oj, _, hoj, Array.getElem_mem hq1, hq2, hq3⟩
    · exact absurd h2 (by simp)
  · intro j oj hj hjk hun hns hno
    have hjl : j < ops.size := by
      rcases Nat.lt_or_ge j ops.size with h | h
      · exact h
      · rw [Array.getElem?_eq_none h] at hj; cases hj
    have := hf j hjl
    have hns' : S.contains j = false := by simpa using hns
    simp only [hj, hun, hns', Bool.or_eq_true, beq_iff_eq, Bool.and_eq_true, Bool.false_eq_true, or_false, hjk, false_or] at this
    rcases this with hw | hw
    · simp only [waits, Array.any_eq_true, Bool.and_eq_true, beq_iff_eq] at hw
      obtain ⟨q, hq1, hq2, hq3⟩ := hw
      exact absurd hq3 (hno _ (Array.getElem_mem hq1) hq2)
    · exact hw

/-- A walk of marked operations: as it comes; a call that is quiet; a step that hangs on no memory of its own; such a call. -/
inductive Mk where
  | n | q | s | c
  deriving DecidableEq
def stK (tmps : List AV) (H : AHeap) (c : Nat) (dst : Option Tmp) (K : ASt → Prop) : AV → AHeap → Nat → Prop := fun v _ _ => K (ASt.put ⟨tmps, H, c⟩ dst v)
def AOrdS (P : Program) (ops : Array Oper) (Q : Exit → ASt → Prop) : List (Mk × Oper) → ASt → Prop
  | [], st => Q .normal st
  | (.n, o) :: rest, st => stepA P ops o st (AOrdS P ops Q rest)
  | (.q, o) :: rest, st => qstep P ops o st.tmps st.heap (qputK st o.dst (AOrdS P ops Q rest))
  | (.s, o) :: rest, st => stepC P ops o st.tmps [] 0 (stK st.tmps st.heap st.clk o.dst (AOrdS P ops Q rest))
  | (.c, o) :: rest, st => qstep P ops o st.tmps [] (qputK st o.dst (AOrdS P ops Q rest))
def orderOkS (ops : Array Oper) : List (Mk × Nat) → Array Bool → Bool
  | [], listed => Region.ready .any ops listed == []
  | (m, k) :: rest, listed => (match ops[k]? with
      | some ok => (match m with
        | .n => Region.ready .any ops listed == [k] || ((Region.ready .any ops listed).contains k && quietOp ok.op && freeOk ops k ok listed)
        | .q => (Region.ready .any ops listed).contains k && freeOk ops k ok listed
        | .s => (Region.ready .any ops listed).contains k && quietOp ok.op && stillOk ops k ok listed
        | .c => (Region.ready .any ops listed).contains k && stillOk ops k ok listed)
      | none => false) && orderOkS ops rest (listed.setIfInBounds k true)
theorem aany_of_orderS : ∀ (ord : List (Mk × Nat)) (l : List (Mk × Oper)) (listed : Array Bool) (st : ASt), l.map (fun p => (p.1, some p.2)) = ord.map (fun p => (p.1, ops[p.2]?)) → orderOkS ops ord listed = true → AOrdS P ops Q l st → AAny P ops Q ord.length listed st
  | [], l, listed, st, hl, ho, h => by
    have : l = [] := by simpa using hl
    subst this
    exact ⟨by simpa [orderOkS] using ho, h⟩
  | (m, k) :: rest, l, listed, st, hl, ho, h => by
    match l, hl, h with
    | (m2, o) :: l2, hl2, h =>
      simp only [List.map_cons, List.cons.injEq, Prod.mk.injEq] at hl2
      obtain ⟨⟨rfl, hk⟩, hl3⟩ := hl2
      simp only [orderOkS, ← hk, Bool.and_eq_true] at ho
      obtain ⟨h1, h2⟩ := ho
      cases m2 with
      | n =>
        simp only [Bool.or_eq_true, Bool.and_eq_true] at h1
        by_cases hone : Region.ready .any ops listed = [k]
        · refine ⟨fun he => (by rw [hone] at he; cases he), fun i hi o' ho' => ?_⟩
          rw [hone] at hi
          simp at hi
          subst hi
          rw [← hk] at ho'; cases ho'
          exact stepA_mono (fun s hs => aany_of_orderS rest l2 _ s hl3 h2 hs) h
        · rcases h1 with h1 | h1
          · exact absurd (by simpa using h1) hone
          · obtain ⟨⟨hr, hq⟩, hf⟩ := h1
            unfold AOrdS stepA at h
            obtain ⟨x, hx, hqv⟩ := qv_of_step hq h
            exact aany_free hk.symm hf (by simpa using hr) hqv (aany_of_orderS rest l2 _ _ hl3 h2 hx)
      | q =>
        simp only [Bool.and_eq_true] at h1
        unfold AOrdS at h
        obtain ⟨x, hx, hqv⟩ := qv_of_qstep h
        exact aany_free hk.symm h1.2 (by simpa using h1.1) hqv (aany_of_orderS rest l2 _ _ hl3 h2 hx)
      | s =>
        simp only [Bool.and_eq_true] at h1
        unfold AOrdS at h
        obtain ⟨x, hx, hqv⟩ := qv_of_step h1.1.2 h
        exact aany_stillOk hk.symm h1.2 (by simpa using h1.1.1) hqv (aany_of_orderS rest l2 _ _ hl3 h2 hx)
      | c =>
        simp only [Bool.and_eq_true] at h1
        unfold AOrdS at h
        obtain ⟨x, hx, hqv⟩ := qv_of_qstep h
        exact aany_stillOk hk.symm h1.2 (by simpa using h1.1) hqv (aany_of_orderS rest l2 _ _ hl3 h2 hx)
/-- A region whose order is open, walked by marks. -/
theorem codeOk_drawS {id : Nat} {ops : Array Oper} {st : ASt} (ord : List (Mk × Nat)) (hm : P.follows .mixedOrders = true) (hn : ord.length = ops.size) (hb : ord.all (fun p => p.2 < ops.size) = true)
    (ho : orderOkS ops ord (Array.replicate ops.size false) = true) (h : AOrdS P ops Q (ord.filterMap (fun p => (ops[p.2]?).map fun o => (p.1, o))) st) : CodeOk P (.region id ops true) Q st := by
  intro w0 E0 H0 a w ⟨E, hE⟩
  refine wp_region_any hm ?_
  obtain ⟨l, hle⟩ : ∃ l, l = ord.filterMap (fun p => (ops[p.2]?).map fun o => (p.1, o)) := ⟨_, rfl⟩
  rw [← hle] at h
  have hl : l.map (fun p => (p.1, some p.2)) = ord.map (fun p => (p.1, ops[p.2]?)) := by
    subst hle
    clear hn ho h
    induction ord with
    | nil => rfl
    | cons p rest ih =>
      obtain ⟨mk0, k⟩ := p
      simp only [List.all_cons, Bool.and_eq_true, decide_eq_true_eq] at hb
      have hk : ops[k]? = some ops[k] := Array.getElem?_eq_getElem hb.1
      rw [List.filterMap_cons]
      simp only [hk, Option.map_some, List.map_cons]
      rw [ih hb.2]
  have hA := aany_of_orderS ord l _ st hl ho h
  rw [hn] at hA
  exact aany_sound (fun st' a' w' hq hI => ⟨st', hq, hI⟩) ops.size _ st a _ hA ⟨E, hE.drew⟩
end
/-! What simp knows of it -/
def ordSK (P : Program) (ops : Array Oper) (Q : Exit → ASt → Prop) (rest : List (Mk × Oper)) (tmps : List AV) (dst : Option Tmp) : AV → AHeap → Nat → Prop :=
  fun v H c => AOrdS P ops Q rest (ASt.put ⟨tmps, H, c⟩ dst v)
def qSK (P : Program) (ops : Array Oper) (Q : Exit → ASt → Prop) (rest : List (Mk × Oper)) (tmps : List AV) (dst : Option Tmp) (H : AHeap) (c : Nat) : AV → Prop :=
  fun v => AOrdS P ops Q rest (ASt.put ⟨tmps, H, c⟩ dst v)
def sSK (P : Program) (ops : Array Oper) (Q : Exit → ASt → Prop) (rest : List (Mk × Oper)) (tmps : List AV) (dst : Option Tmp) (H : AHeap) (c : Nat) : AV → AHeap → Nat → Prop :=
  fun v _ _ => AOrdS P ops Q rest (ASt.put ⟨tmps, H, c⟩ dst v)
section
variable {P : Program} {Q : Exit → ASt → Prop} {st : ASt} {ops : Array Oper} {tmps : List AV} {H : AHeap} {c : Nat} {ev : Operand → AV}
@[simp] theorem AOrdS_nil : AOrdS P ops Q [] st = Q .normal st := propext Iff.rfl
@[simp] theorem AOrdS_n (dst : Option Tmp) (op : Op) (t : TypeId) (pos : String) (after : Array Edge) (rest : List (Mk × Oper)) :
    AOrdS P ops Q ((.n, ⟨dst, op, t, pos, after, none⟩) :: rest) ⟨tmps, H, c⟩ = acoreX P op (evA tmps) H c (ordSK P ops Q rest tmps dst) := propext Iff.rfl
@[simp] theorem AOrdS_ng (dst : Option Tmp) (op : Op) (t : TypeId) (pos : String) (after : Array Edge) (j : Nat) (want : Bool) (rest : List (Mk × Oper)) :
    AOrdS P ops Q ((.n, ⟨dst, op, t, pos, after, some (j, want)⟩) :: rest) ⟨tmps, H, c⟩ = match ASt.guard ⟨tmps, [], 0⟩ ops j with
      | some b => if b = some want then acoreX P op (evA tmps) H c (ordSK P ops Q rest tmps dst) else ordSK P ops Q rest tmps dst (.tup []) H c
      | none => False := propext Iff.rfl
@[simp] theorem AOrdS_q (dst : Option Tmp) (op : Op) (t : TypeId) (pos : String) (after : Array Edge) (rest : List (Mk × Oper)) :
    AOrdS P ops Q ((.q, ⟨dst, op, t, pos, after, none⟩) :: rest) ⟨tmps, H, c⟩ = qcore P op (evA tmps) H (qSK P ops Q rest tmps dst H c) := propext Iff.rfl
@[simp] theorem AOrdS_qg (dst : Option Tmp) (op : Op) (t : TypeId) (pos : String) (after : Array Edge) (j : Nat) (want : Bool) (rest : List (Mk × Oper)) :
    AOrdS P ops Q ((.q, ⟨dst, op, t, pos, after, some (j, want)⟩) :: rest) ⟨tmps, H, c⟩ = match ASt.guard ⟨tmps, [], 0⟩ ops j with
      | some b => if b = some want then qcore P op (evA tmps) H (qSK P ops Q rest tmps dst H c) else qSK P ops Q rest tmps dst H c (.tup [])
      | none => False := propext Iff.rfl
@[simp] theorem AOrdS_s (dst : Option Tmp) (op : Op) (t : TypeId) (pos : String) (after : Array Edge) (rest : List (Mk × Oper)) :
    AOrdS P ops Q ((.s, ⟨dst, op, t, pos, after, none⟩) :: rest) ⟨tmps, H, c⟩ = acoreX P op (evA tmps) [] 0 (sSK P ops Q rest tmps dst H c) := propext Iff.rfl
@[simp] theorem AOrdS_sg (dst : Option Tmp) (op : Op) (t : TypeId) (pos : String) (after : Array Edge) (j : Nat) (want : Bool) (rest : List (Mk × Oper)) :
    AOrdS P ops Q ((.s, ⟨dst, op, t, pos, after, some (j, want)⟩) :: rest) ⟨tmps, H, c⟩ = match ASt.guard ⟨tmps, [], 0⟩ ops j with
      | some b => if b = some want then acoreX P op (evA tmps) [] 0 (sSK P ops Q rest tmps dst H c) else sSK P ops Q rest tmps dst H c (.tup []) [] 0
      | none => False := propext Iff.rfl
@[simp] theorem AOrdS_c (dst : Option Tmp) (op : Op) (t : TypeId) (pos : String) (after : Array Edge) (rest : List (Mk × Oper)) :
    AOrdS P ops Q ((.c, ⟨dst, op, t, pos, after, none⟩) :: rest) ⟨tmps, H, c⟩ = qcore P op (evA tmps) [] (qSK P ops Q rest tmps dst H c) := propext Iff.rfl
@[simp] theorem AOrdS_cg (dst : Option Tmp) (op : Op) (t : TypeId) (pos : String) (after : Array Edge) (j : Nat) (want : Bool) (rest : List (Mk × Oper)) :
    AOrdS P ops Q ((.c, ⟨dst, op, t, pos, after, some (j, want)⟩) :: rest) ⟨tmps, H, c⟩ = match ASt.guard ⟨tmps, [], 0⟩ ops j with
      | some b => if b = some want then qcore P op (evA tmps) [] (qSK P ops Q rest tmps dst H c) else qSK P ops Q rest tmps dst H c (.tup [])
      | none => False := propext Iff.rfl
@[simp] theorem ordSK_some (rest : List (Mk × Oper)) (d : Tmp) (v : AV) : ordSK P ops Q rest tmps (some d) v H c = AOrdS P ops Q rest ⟨tmps.set d v, H, c⟩ := propext Iff.rfl
@[simp] theorem ordSK_none (rest : List (Mk × Oper)) (v : AV) : ordSK P ops Q rest tmps none v H c = AOrdS P ops Q rest ⟨tmps, H, c⟩ := propext Iff.rfl
@[simp] theorem qSK_some (rest : List (Mk × Oper)) (d : Tmp) (v : AV) : qSK P ops Q rest tmps (some d) H c v = AOrdS P ops Q rest ⟨tmps.set d v, H, c⟩ := propext Iff.rfl
@[simp] theorem qSK_none (rest : List (Mk × Oper)) (v : AV) : qSK P ops Q rest tmps none H c v = AOrdS P ops Q rest ⟨tmps, H, c⟩ := propext Iff.rfl
@[simp] theorem sSK_some (rest : List (Mk × Oper)) (d : Tmp) (v : AV) (H' : AHeap) (c' : Nat) : sSK P ops Q rest tmps (some d) H c v H' c' = AOrdS P ops Q rest ⟨tmps.set d v, H, c⟩ := propext Iff.rfl
@[simp] theorem sSK_none (rest : List (Mk × Oper)) (v : AV) (H' : AHeap) (c' : Nat) : sSK P ops Q rest tmps none H c v H' c' = AOrdS P ops Q rest ⟨tmps, H, c⟩ := propext Iff.rfl
@[congr] theorem ordSK_congr (P : Program) (ops : Array Oper) (Q : Exit → ASt → Prop) (rest : List (Mk × Oper)) (tmps : List AV) (dst : Option Tmp) : ordSK P ops Q rest tmps dst = ordSK P ops Q rest tmps dst := rfl
@[congr] theorem qSK_congr (P : Program) (ops : Array Oper) (Q : Exit → ASt → Prop) (rest : List (Mk × Oper)) (tmps : List AV) (dst : Option Tmp) (H : AHeap) (c : Nat) : qSK P ops Q rest tmps dst H c = qSK P ops Q rest tmps dst H c := rfl
@[congr] theorem sSK_congr (P : Program) (ops : Array Oper) (Q : Exit → ASt → Prop) (rest : List (Mk × Oper)) (tmps : List AV) (dst : Option Tmp) (H : AHeap) (c : Nat) : sSK P ops Q rest tmps dst H c = sSK P ops Q rest tmps dst H c := rfl
end
end Go.Abs
