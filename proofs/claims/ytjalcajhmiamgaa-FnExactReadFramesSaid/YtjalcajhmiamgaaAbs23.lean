/-
  Regions whose order is open and that hold calls whose answers nobody writes: such a call counts as quiet. No program's text.
-/
import Derived.Test.YtjalcajhmiamgaaAbs22
namespace Go.Abs
set_option linter.unusedSimpArgs false
set_option linter.unusedVariables false
set_option linter.unnecessarySimpa false
open Go

section
variable {P : Program} {ops : Array Oper} {Q : Exit → ASt → Prop} {K : AV → AHeap → Nat → Prop} {T : List AV} {H : AHeap} {c : Nat}

theorem snap1_ext {H H' : AHeap} (he : HExt H H') {x : AC} {d : DC} (h : snap1 H x = some d) : snap1 H' x = some d := by
  cases x with
  | d c => exact h
  | own k g off n =>
    simp only [snap1] at h ⊢
    cases hb : blkAt H k g with
    | none => simp [hb] at h
    | some B => rw [he.blkAt hb]; simpa [hb] using h
  | ptr k g off =>
    simp only [snap1] at h ⊢
    cases hb : blkAt H k g with
    | none => simp [hb] at h
    | some B => rw [he.blkAt hb]; simpa [hb] using h
  | mp k g =>
    simp only [snap1] at h ⊢
    cases hb : objAt H k g with
    | none => simp [hb] at h
    | some p => rw [he.objAt hb]; simpa [hb] using h
  | obj => simp [snap1] at h
  | any => simp [snap1] at h
theorem mapM_ext {α β : Type} {f g : α → Option β} (hfg : ∀ x y, f x = some y → g x = some y) : ∀ {l : List α} {m : List β}, l.mapM f = some m → l.mapM g = some m
  | [], m, h => by simpa using h
  | x :: xs, m, h => by
    rw [List.mapM_cons] at h ⊢
    cases h1 : f x with
    | none => simp [h1] at h
    | some y =>
      cases h2 : xs.mapM f with
      | none => simp [h1, h2] at h
      | some ys => simp [h1, h2] at h; subst h; simp [hfg x y h1, mapM_ext hfg h2]
theorem snapC_ext {H H' : AHeap} (he : HExt H H') {x : AC} {d : DC} (h : snapC H x = some d) : snapC H' x = some d := by
  cases x with
  | own k g off n =>
    simp only [snapC] at h ⊢
    cases hb : blkAt H k g with
    | none => simp [hb] at h
    | some B =>
      rw [he.blkAt hb]
      simp only [hb] at h ⊢
      split at h
      · rename_i hle
        rw [if_pos hle]
        split at h
        · exact h
        · rename_i hm
          cases hm2 : ((B.cells.drop off).take (n * B.size)).mapM (snap1 H) with
          | none => simp [hm2] at h
          | some ds => rw [mapM_ext (fun _ _ hh => snap1_ext he hh) hm2]; simpa [hm2] using h
      · cases h
  | d c => exact h
  | ptr k g off => exact snap1_ext (x := .ptr k g off) he h
  | mp k g => exact snap1_ext (x := .mp k g) he h
  | obj es c => exact snap1_ext (x := .obj es c) he h
  | any => exact snap1_ext (x := .any) he h
theorem snapV_ext {H H' : AHeap} (he : HExt H H') {x y : AV} (h : snapV H x = some y) : snapV H' x = some y := by
  cases x with
  | one c =>
    simp only [snapV] at h ⊢
    cases hc : snapC H c with
    | none => simp [hc] at h
    | some d => rw [snapC_ext he hc]; simpa [hc] using h
  | agg cs =>
    simp only [snapV] at h ⊢
    cases hc : cs.mapM (snapC H) with
    | none => simp [hc] at h
    | some d => rw [mapM_ext (fun _ _ hh => snapC_ext he hh) hc]; simpa [hc] using h
  | tup vs => simp [snapV] at h

/-- A call whose answer is taken as data. -/
def QCall (P : Program) (f : FuncId) (args : List AV) (H : AHeap) (K : AV → Prop) : Prop :=
  ∃ dargs post x, FCall P f dargs post ∧ args.mapM (snapV H) = some dargs ∧ (∀ r Hn, post r Hn → snapV Hn r = some x) ∧ K x
theorem qcall {f : FuncId} {args dargs : List AV} {post : AV → AHeap → Prop} {K : AV → Prop} (x : AV) (hc : FCall P f dargs post) (hs : args.mapM (snapV H) = some dargs)
    (hx : ∀ r Hn, post r Hn → snapV Hn r = some x) (hK : K x) : QCall P f args H K := ⟨dargs, post, x, hc, hs, hx, hK⟩

def qcore (P : Program) (op : Op) (ev : Operand → AV) (H : AHeap) (K : AV → Prop) : Prop :=
  match op with
  | .call { callee := .value (.func f), args, .. } => callable P f = true ∧ QCall P f (args.toList.map ev) H K
  | _ => False
def qstep (P : Program) (ops : Array Oper) (o : Oper) (T : List AV) (H : AHeap) (K : AV → Prop) : Prop :=
  match o.guard with
  | none => qcore P o.op (evT T) H K
  | some (j, want) => match guardT T ops j with
    | some b => if b = some want then qcore P o.op (evT T) H K else K (.tup [])
    | none => False

theorem qv_of_qstep {o : Oper} {K : AV → Prop} (h : qstep P ops o T H K) : ∃ x, K x ∧ QV P ops o T H x := by
  have core : qcore P o.op (evT T) H K → ∃ x, K x ∧ ∀ H' c' (K' : AV → AHeap → Nat → Prop), HExt H H' → K' x H' c' → acoreX P o.op (evT T) H' c' K' := by
    intro h
    unfold qcore at h
    split at h
    · rename_i f args ts hop
      obtain ⟨hcl, dargs, post, x, hf, hs, hx, hK⟩ := h
      refine ⟨x, hK, fun H' c' K' he hk => ?_⟩
      rw [hop]
      exact ⟨hcl, acall_froze hf (mapM_ext (fun _ _ hh => snapV_ext he hh) hs) fun r Hn hp => ⟨x, hx r Hn hp, HExt.refl _, hk⟩⟩
    · exact h.elim
  unfold qstep at h
  split at h
  · rename_i hg
    obtain ⟨x, h1, h2⟩ := core h
    exact ⟨x, h1, fun H' c' K' he hk => by unfold stepC; rw [hg]; exact h2 H' c' K' he hk⟩
  · rename_i j want hg
    split at h
    · rename_i b hb
      split at h
      · rename_i hw
        obtain ⟨x, h1, h2⟩ := core h
        exact ⟨x, h1, fun H' c' K' he hk => by unfold stepC; simp only [hg, hb, hw, if_true]; exact h2 H' c' K' he hk⟩
      · rename_i hw
        exact ⟨.tup [], h, fun H' c' K' he hk => by unfold stepC; simp only [hg, hb, hw, if_false]; exact hk⟩
    · exact h.elim

def qputK (st : ASt) (dst : Option Tmp) (K : ASt → Prop) : AV → Prop := fun v => K (st.put dst v)
/-- A walk of operations; a call that is marked is taken as quiet. -/
def AOrdQ (P : Program) (ops : Array Oper) (Q : Exit → ASt → Prop) : List (Bool × Oper) → ASt → Prop
  | [], st => Q .normal st
  | (false, o) :: rest, st => stepA P ops o st (AOrdQ P ops Q rest)
  | (true, o) :: rest, st => qstep P ops o st.tmps st.heap (qputK st o.dst (AOrdQ P ops Q rest))

def orderOkQ (ops : Array Oper) : List (Bool × Nat) → Array Bool → Bool
  | [], listed => Region.ready .any ops listed == []
  | (q, k) :: rest, listed => (match ops[k]? with
      | some ok => (!q && Region.ready .any ops listed == [k]) || ((Region.ready .any ops listed).contains k && (q || quietOp ok.op) && freeOk ops k ok listed)
      | none => false) && orderOkQ ops rest (listed.setIfInBounds k true)

theorem aany_of_orderQ : ∀ (ord : List (Bool × Nat)) (l : List (Bool × Oper)) (listed : Array Bool) (st : ASt), l.map (fun p => (p.1, some p.2)) = ord.map (fun p => (p.1, ops[p.2]?)) → orderOkQ ops ord listed = true → AOrdQ P ops Q l st → AAny P ops Q ord.length listed st
  | [], l, listed, st, hl, ho, h => by
    have : l = [] := by simpa using hl
    subst this
    exact ⟨by simpa [orderOkQ] using ho, h⟩
  | (q, k) :: rest, l, listed, st, hl, ho, h => by
    match l, hl, h with
    | (q2, o) :: l2, hl2, h =>
      simp only [List.map_cons, List.cons.injEq, Prod.mk.injEq] at hl2
      obtain ⟨⟨rfl, hk⟩, hl3⟩ := hl2
      simp only [orderOkQ, ← hk, Bool.and_eq_true, Bool.or_eq_true] at ho
      obtain ⟨h1, h2⟩ := ho
      have free : ∀ {x : AV}, k ∈ Region.ready .any ops listed → freeOk ops k o listed = true → QV P ops o st.tmps st.heap x → AOrdQ P ops Q l2 (st.put o.dst x) → AAny P ops Q (((q2, k) :: rest).length) listed st := by
        intro x hr hf hqv hx
        exact aany_free hk.symm hf hr hqv (aany_of_orderQ rest l2 _ _ hl3 h2 hx)
      cases q2 with
      | true =>
        rcases h1 with h1 | h1
        · simp at h1
        · obtain ⟨⟨hr, _⟩, hf⟩ := h1
          unfold AOrdQ at h
          obtain ⟨x, hx, hqv⟩ := qv_of_qstep h
          exact free (by simpa using hr) hf hqv hx
      | false =>
        by_cases hone : Region.ready .any ops listed = [k]
        · refine ⟨fun he => (by rw [hone] at he; cases he), fun i hi o' ho' => ?_⟩
          rw [hone] at hi
          simp at hi
          subst hi
          rw [← hk] at ho'; cases ho'
          exact stepA_mono (fun s hs => aany_of_orderQ rest l2 _ s hl3 h2 hs) h
        · rcases h1 with h1 | h1
          · exact absurd (by simpa using h1) hone
          · obtain ⟨⟨hr, hq⟩, hf⟩ := h1
            unfold AOrdQ stepA at h
            obtain ⟨x, hx, hqv⟩ := qv_of_step (by simpa using hq) h
            exact free (by simpa using hr) hf hqv hx

/-- A region whose order is open: walk it in an order that serves all, the marked calls taken as quiet. -/
theorem codeOk_drawq {id : Nat} {ops : Array Oper} {st : ASt} (ord : List (Bool × Nat)) (hm : P.follows .mixedOrders = true) (hn : ord.length = ops.size) (hb : ord.all (fun p => p.2 < ops.size) = true)
    (ho : orderOkQ ops ord (Array.replicate ops.size false) = true) (h : AOrdQ P ops Q (ord.filterMap (fun p => (ops[p.2]?).map fun o => (p.1, o))) st) : CodeOk P (.region id ops true) Q st := by
  intro w0 E0 H0 a w ⟨E, hE⟩
  refine wp_region_any hm ?_
  obtain ⟨l, hle⟩ : ∃ l, l = ord.filterMap (fun p => (ops[p.2]?).map fun o => (p.1, o)) := ⟨_, rfl⟩
  rw [← hle] at h
  have hl : l.map (fun p => (p.1, some p.2)) = ord.map (fun p => (p.1, ops[p.2]?)) := by
    subst hle
    clear hn ho h
    induction ord with
    | nil => rfl
    | cons p rest ih =>
      obtain ⟨q, k⟩ := p
      simp only [List.all_cons, Bool.and_eq_true, decide_eq_true_eq] at hb
      have hk : ops[k]? = some ops[k] := Array.getElem?_eq_getElem hb.1
      rw [List.filterMap_cons]
      simp only [hk, Option.map_some, List.map_cons]
      rw [ih hb.2]
  have hA := aany_of_orderQ ord l _ st hl ho h
  rw [hn] at hA
  exact aany_sound (fun st' a' w' hq hI => ⟨st', hq, hI⟩) ops.size _ st a _ hA ⟨E, hE.drew⟩
end
end Go.Abs
