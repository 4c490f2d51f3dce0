/-
  Calls whose answer is a tuple of data; iterators. No program's text.
-/
import Derived.Test.YtiogdfliailenaaK6
import Derived.Maps.RangeRun
namespace Go.Abs
set_option linter.unusedSimpArgs false
set_option linter.unusedVariables false
set_option linter.unnecessarySimpa false
open Go
theorem RelV1.data {w : World} {E E' : Env} {x : AV} {v : Value} (hx : dataV x = true) (h : ∀ b, E.I b → E'.I b) (hr : RelV1 w E x v) : RelV1 w E' x v := by
  cases x with
  | one c => exact RelC.data (c := c) hx (fun b hb => ⟨h b hb, rfl⟩) hr
  | agg cs =>
    obtain ⟨l, rfl, hrl⟩ := hr
    refine ⟨l, rfl, hrl.1, fun j c u hj hu => ⟨(hrl.2 j c u hj hu).1, RelC.data ?_ (fun b hb => ⟨h b hb, rfl⟩) (hrl.2 j c u hj hu).2⟩⟩
    exact List.all_eq_true.1 hx c (List.mem_of_getElem? hj)
  | tup vs => cases hx
theorem RelV.tupData {w : World} {E E' : Env} {vs : List AV} {v : Value} (hx : vs.all dataV = true) (h : ∀ b, E.I b → E'.I b) (hr : RelV w E (.tup vs) v) : RelV w E' (.tup vs) v := by
  obtain ⟨l, rfl, hl, hrl⟩ := hr
  exact ⟨l, rfl, hl, fun j x u hj hu => RelV1.data (List.all_eq_true.1 hx x (List.mem_of_getElem? hj)) h (hrl j x u hj hu)⟩
theorem acall_dataX {P : Program} {f : FuncId} {args : List AV} {x : AV} {H : AHeap} {clk : Nat} {K : AV → AHeap → Nat → Prop} (hc : DCall P f args x) (ha : args.all dataV = true) (hx : ∀ (w : World) (E E' : Env) (v : Value), (∀ b, E.I b → E'.I b) → RelV w E x v → RelV w E' x v) (hK : K x H clk) : ACall P f args H clk K := by
  intro w E vals hclk hsim hargs
  have hrel : RelVs w ⟨E.I, [], E.clk⟩ args vals := ⟨hargs.1, fun j y v hy hv => RelV.data (E := E) (List.all_eq_true.1 ha y (List.mem_of_getElem? hy)) (fun b hb => ⟨hb, rfl⟩) (hargs.2 j y v hy hv)⟩
  refine (hc E.clk w ⟨E.I, [], E.clk⟩ vals rfl ⟨rfl, fun k i hi => by simp at hi, hsim.I, fun k B hB => by simp at hB, fun k k' B B' i i' b hB => by simp at hB, hsim.glob⟩ hrel).mono fun e w' => ?_
  rintro ⟨v, r, Hn, E', rfl, hle, hsim', hr, hfrm, hlive, hI0, rfl⟩
  have hnot : ∀ b, ¬ LiveB (⟨E.I, [], E.clk⟩ : Env) [] b := fun b ⟨k, B, i, h, _⟩ => by simp at h
  have hold : ∀ b, b < w.heap.size → w'.heap[b]? = w.heap[b]? := fun b hb => hfrm.block b hb (hnot b)
  let E2 : Env := ⟨E'.I, E.β, E.clk⟩
  have hle2 : Env.Le w E w' E2 := ⟨fun b hb => ⟨(hle.I b hb).1, hold b (hsim.I b hb)⟩, Nat.le_refl _, fun k i' hi => .inl hi⟩
  refine ⟨v, r, H, E2, rfl, hle2, ⟨hsim.len, hsim.gens, hsim'.I, ?_, hsim.apart, hsim'.glob⟩, hx _ E' _ _ (fun b hb => hb) hr, ⟨hfrm.os, hfrm.tape, hfrm.output, hfrm.size, fun b hb _ => hold b hb⟩, fun b hb => .inl hb, ?_, by rw [show E2.clk = clk from hclk]; exact hK⟩
  · intro k B hB
    obtain ⟨i, hi, hok⟩ := hsim.blk k B hB
    exact ⟨i, hi, hok.mono_same hle2 (fun b hb hI => (hI0 b (hok.lt hb) hI).resolve_right (hnot b)) (fun b hb => hold b (hok.lt hb))⟩
  · exact fun b hb hI => .inl ((hI0 b hb hI).resolve_right (hnot b))
theorem acall_tup {P : Program} {f : FuncId} {args : List AV} {vs : List AV} {H : AHeap} {clk : Nat} {K : AV → AHeap → Nat → Prop} (hc : FCall P f args fun r H => r = .tup vs ∧ H = []) (ha : args.all dataV = true) (hx : vs.all dataV = true) (hK : K (.tup vs) H clk) : ACall P f args H clk K :=
  acall_dataX (fun clk => (hc clk).mono fun _ _ _ h => h.2.2.1) ha (fun _ _ _ _ h hr => RelV.tupData hx h hr) hK
theorem qcall_tup {P : Program} {f : FuncId} {args : List AV} {vs : List AV} {H : AHeap} {K : AV → Prop} (hc : FCall P f args fun r H => r = .tup vs ∧ H = []) (ha : args.all dataV = true) (hx : vs.all dataV = true) (hK : K (.tup vs)) : QCall P f args H K :=
  ⟨_, hK, fun _ _ _ _ hk => acall_tup hc ha hx hk⟩
end Go.Abs
namespace Go.Abs
set_option linter.unusedSimpArgs false
set_option linter.unusedVariables false
set_option linter.unnecessarySimpa false
open Go

/-- A walk over a map that nobody writes: its block, the map's entries, which of them have come. -/
structure Wk where
  r : Nat
  es : List MapEntry
  c : Nat
  done : List MapEntry

/-- What has come; whether yield has said 'no more'; the walk that is under way. -/
structure Gh (α : Type) where
  stop : Bool
  pre : List α
  it : Option Wk

abbrev JT (α : Type) := Bool → (Nat → Prop) → (Nat → Prop) → List α → World → Prop

/-- What the iterator may rely on. -/
structure Amb {α : Type} (P : Program) (l : Nat) (encs : α → List Value) (N : Nat) (J : JT α) : Prop where
  fix : ∀ s X L pre A B, J s X L pre A → Fix X A B → J s X L pre B
  yield : ∀ pre x W1 X L, J false X L pre W1 → pre.length < N → YieldAt (Wd none) 0 P l (encs x).toArray W1 fun e W' => ∃ X' L', Shift X L X' L' W1 W' ∧
      ∃ b : Bool, e = .returned (.bool b) ∧ J (!b) X' L' (pre ++ [x]) W'

def WkAt (I : Nat → Prop) (X : Nat → Prop) (W : World) (k : Wk) : Prop :=
  ∃ m, W.heap[k.r]? = some (.mapIter (some m) k.c (k.done.map (·.born)).toArray k.c) ∧ I m ∧ W.heap[m]? = some (.map k.es.toArray k.c) ∧ ¬ X k.r ∧ ¬ I k.r

structure YInvE {α : Type} (J : JT α) (g : Gh α) (st : ASt) (a : Act) (w : World) (X L : Nat → Prop) (W : World) (E0 : Env) (H0 : AHeap) (E : Env) : Prop where
  J : J g.stop X L g.pre W
  inv : InvE W E0 H0 st a w E
  sim0 : SimH W E0 H0
  lt : ∀ b, X b → b < W.heap.size
  own : ∀ b, X b → ¬ LiveB E0 H0 b
  LX : ∀ b, L b → X b
  LI : ∀ b, L b → ¬ E0.I b
  it : ∀ k, g.it = some k → WkAt E0.I X W k
  dfr : a.defers = []
def YInv {α : Type} (J : JT α) (g : Gh α) (st : ASt) (a : Act) (w : World) : Prop := ∃ X L W E0 H0 E, YInvE J g st a w X L W E0 H0 E

def YQ {α : Type} (J : JT α) (Q : Exit → Gh α → ASt → Prop) : Exit → Act → World → Prop := fun e a w => ∃ g st, Q e g st ∧ YInv J g st a w
def YOk {α : Type} (P : Program) (J : JT α) (c : Code) (Q : Exit → Gh α → ASt → Prop) (g : Gh α) (st : ASt) : Prop :=
  ∀ a w, YInv J g st a w → c.wpIn (Wd none) 0 P (YQ J Q) a w
def YL {α : Type} (P : Program) (J : JT α) (ops : Array Oper) (Q : Exit → Gh α → ASt → Prop) (os : List Oper) (g : Gh α) (st : ASt) : Prop :=
  ∀ a w, YInv J g st a w → wpListIn (Wd none) 0 P ops (YQ J Q) os a w
def YExit.then {α : Type} (next : Gh α → ASt → Prop) (Q : Exit → Gh α → ASt → Prop) : Exit → Gh α → ASt → Prop
  | .normal, g, st => next g st
  | e, g, st => Q e g st
def YExit.inBlock {α : Type} (id : Nat) (Q : Exit → Gh α → ASt → Prop) : Exit → Gh α → ASt → Prop
  | .exit id', g, st => if id' = id then Q .normal g st else Q (.exit id') g st
  | e, g, st => Q e g st

section
variable {α : Type} {P : Program} {J : JT α} {l N : Nat} {encs : α → List Value} {Q : Exit → Gh α → ASt → Prop} {g : Gh α} {st : ASt}

theorem YInvE.live {a : Act} {w W : World} {X L : Nat → Prop} {E0 E : Env} {H0 : AHeap} (h : YInvE J g st a w X L W E0 H0 E) : ∀ b, X b → ¬ LiveB E st.heap b := fun b hb hl => by
  rcases h.inv.live b hl with h1 | h1
  · exact h.own b hb h1
  · have := h.lt b hb; omega
theorem YInvE.fixed {a : Act} {w W : World} {X L : Nat → Prop} {E0 E : Env} {H0 : AHeap} (h : YInvE J g st a w X L W E0 H0 E) : Fix X W w :=
  ⟨h.inv.frm.os, h.inv.frm.tape, h.inv.frm.output, h.inv.frm.size, fun b hb hx => h.inv.frm.block b hb (h.own b hx)⟩
theorem YInvE.li {a : Act} {w W : World} {X L : Nat → Prop} {E0 E : Env} {H0 : AHeap} (h : YInvE J g st a w X L W E0 H0 E) : ∀ b, L b → ¬ E.I b := fun b hb hI => by
  have hx := h.LX b hb
  rcases h.inv.I0 b (h.lt b hx) hI with h1 | h1
  · exact h.LI b hb h1
  · exact h.own b hx h1
theorem WkAt.later {a : Act} {w W : World} {X L : Nat → Prop} {E0 E : Env} {H0 : AHeap} (h : YInvE J g st a w X L W E0 H0 E) {k : Wk} (hk : WkAt E0.I X W k) : WkAt E.I X w k := by
  obtain ⟨m, h1, h2, h3, h4, h5⟩ := hk
  have g1 := h.inv.le.I m h2
  have hnl : ¬ LiveB E0 H0 k.r := fun hl => by
    obtain ⟨o, ho, q⟩ := live_obj h.sim0 hl
    rw [h1] at ho; cases ho
    rcases q with ⟨c, t, m, e⟩ | ⟨es, c, e⟩ <;> cases e
  have hlt : k.r < W.heap.size := (Array.getElem?_eq_some_iff.1 h1).1
  exact ⟨m, by rw [h.inv.frm.block _ hlt hnl]; exact h1, g1.1, by rw [g1.2]; exact h3, h4, fun hI => (h.inv.I0 _ hlt hI).elim h5 hnl⟩
/-- A stretch begun anew, in the same world. -/
theorem YInvE.anew {a a1 : Act} {w W : World} {X L : Nat → Prop} {E0 E : Env} {H0 : AHeap} {T : List AV} (A : Amb P l encs N J) (h : YInvE J g st a w X L W E0 H0 E) (hd : a1.defers = []) (hr : RelVs w E T a1.tmps.toList) :
    YInvE J g ⟨T, st.heap, st.clk⟩ a1 w X L w E st.heap E :=
  ⟨A.fix _ _ _ _ _ _ h.J h.fixed, h.inv.anew hd hr, h.inv.sim, fun b hb => Nat.lt_of_lt_of_le (h.lt b hb) h.inv.frm.size, h.live, h.LX, h.li, fun k hk => (h.it k hk).later h, hd⟩

theorem yok_mono {c : Code} {Q' : Exit → Gh α → ASt → Prop} (h : YOk P J c Q g st) (hq : ∀ e g s, Q e g s → Q' e g s) : YOk P J c Q' g st :=
  fun a w hI => wpIn_mono (h a w hI) fun _ _ _ ⟨g', s', h1, h2⟩ => ⟨g', s', hq _ _ _ h1, h2⟩
/-- Code in which yield is not called. -/
theorem yok_aw {c : Code} (hn : noRange c = true) (h : AW P c (fun e s => Q e g s) st) : YOk P J c Q g st := by
  rintro a w ⟨X, L, W, E0, H0, E, hY⟩
  refine wpIn_mono (aw_sound c _ _ h none 0 (.inl rfl) W E0 H0 a w ⟨E, hY.inv⟩) ?_
  rintro e a' w' ⟨hd, s', hq, E', hE'⟩
  exact ⟨g, s', hq, X, L, W, E0, H0, E', hY.J, hE', hY.sim0, hY.lt, hY.own, hY.LX, hY.LI, hY.it, (hd.resolve_left (by simp [hn])).trans hY.dfr⟩
theorem yok_seq {x y : Code} (h : YOk P J x (YExit.then (YOk P J y Q) Q) g st) : YOk P J (.seq x y) Q g st := by
  intro a w hI
  refine wpIn_seq (wpIn_mono (h a w hI) ?_)
  rintro e a' w' ⟨g', s', hq, hI'⟩
  cases e with
  | normal => exact hq a' w' hI'
  | _ => exact ⟨g', s', hq, hI'⟩
theorem yok_block {id : Nat} {c : Code} (h : YOk P J c (YExit.inBlock id Q) g st) : YOk P J (.block id c) Q g st := by
  intro a w hI
  refine wpIn_block (wpIn_mono (h a w hI) ?_)
  rintro e a' w' ⟨g', s', hq, hI'⟩
  cases e with
  | exit id' =>
    simp only [YExit.inBlock] at hq
    simp only [Exit.inBlock]
    split
    · rename_i h1; rw [if_pos h1] at hq; exact ⟨g', s', hq, hI'⟩
    · rename_i h1; rw [if_neg h1] at hq; exact ⟨g', s', hq, hI'⟩
  | _ => exact ⟨g', s', hq, hI'⟩
theorem yok_cond {c : Operand} {x y : Code} {b : Bool} (hb : st.eval c = .one (.d (.s (.bool b)))) (h1 : b = true → YOk P J x Q g st) (h2 : b = false → YOk P J y Q g st) : YOk P J (.cond c x y) Q g st := by
  rintro a w ⟨X, L, W, E0, H0, E, hY⟩
  have hc : a.eval c = .bool b := scal hY.inv hb
  exact wpIn_cond_split hc (fun ht => h1 ht a w ⟨X, L, W, E0, H0, E, hY⟩) (fun hf => h2 hf a w ⟨X, L, W, E0, H0, E, hY⟩)
theorem yok_skip (h : Q .normal g st) : YOk P J .skip Q g st := yok_aw rfl h
theorem yok_exit {id : Nat} (h : Q (.exit id) g st) : YOk P J (.exit id) Q g st := yok_aw rfl h
theorem yok_ret (h : Q .ret g st) : YOk P J .ret Q g st := yok_aw rfl h
theorem yok_loop {c : Code} (mask : List Bool) (m : Nat) (I : Gh α → ASt → Prop) (μ : Gh α → ASt → Nat) (h0 : I g (st.clean mask m))
    (round : ∀ g s, I g s → YOk P J c (YExit.then (fun g' s' => I g' (s'.clean mask m) ∧ μ g' (s'.clean mask m) < μ g s) Q) g s) : YOk P J (.loop c) Q g st := by
  have hclean : ∀ {g : Gh α} {s : ASt} {a : Act} {w : World}, YInv J g s a w → YInv J g (s.clean mask m) a w := fun ⟨X, L, W, E0, H0, E, h⟩ =>
    ⟨X, L, W, E0, H0, _, h.J, h.inv.clean mask m, h.sim0, h.lt, h.own, h.LX, h.LI, h.it, h.dfr⟩
  intro a w hI
  classical
  let S : Act → World → Nat → Prop := fun a w n => ∃ g s, I g s ∧ YInv J g s a w ∧ μ g s = n
  refine wpIn_loop (fun a w => ∃ n, S a w n) (fun a w => if h : ∃ n, S a w n then Classical.choose (least _ h) else 0) ⟨_, _, _, h0, hclean hI, rfl⟩ ?_
  intro a w hS
  obtain ⟨g, s, hs, hI, hμ⟩ := (Classical.choose_spec (least _ hS)).1
  refine wpIn_mono (round g s hs a w hI) ?_
  rintro e a' w' ⟨g', s', hq, hI'⟩
  cases e with
  | normal =>
    obtain ⟨hI2, hlt⟩ := hq
    have hS' : S a' w' (μ g' (s'.clean mask m)) := ⟨_, _, hI2, hclean hI', rfl⟩
    refine ⟨⟨_, hS'⟩, ?_⟩
    have hx : ∃ n, S a' w' n := ⟨_, hS'⟩
    rw [dif_pos hx, dif_pos hS]
    exact Nat.lt_of_le_of_lt ((Classical.choose_spec (least _ hx)).2 _ hS') (by rw [← hμ]; exact hlt)
  | _ => exact ⟨g', s', hq, hI'⟩

/-! Regions -/
variable {ops : Array Oper} {o : Oper} {rest : List Oper}
theorem yok_region {id : Nat} (h : YL P J ops Q ops.toList g st) : YOk P J (.region id ops false) Q g st :=
  fun a w hI => wpIn_region_list (h a w hI)
theorem yl_nil (h : Q .normal g st) : YL P J ops Q [] g st := fun a w hI => ⟨g, st, h, hI⟩
theorem YInvE.step {a a' : Act} {w w' W : World} {X L : Nat → Prop} {E0 E E' : Env} {H0 : AHeap} {st' : ASt} (h : YInvE J g st a w X L W E0 H0 E) (hE : InvE W E0 H0 st' a' w' E') (hd : a'.defers = a.defers) : YInvE J g st' a' w' X L W E0 H0 E' :=
  ⟨h.J, hE, h.sim0, h.lt, h.own, h.LX, h.LI, h.it, hd.trans h.dfr⟩
theorem yl_op (hg : o.guard = none) (h : aop P o st (fun s => YL P J ops Q rest g s)) : YL P J ops Q (o :: rest) g st := by
  rintro a w ⟨X, L, W, E0, H0, E, hY⟩
  unfold wpListIn
  have hw : Region.wanted o (yielded ops a.tmps) = true := by simp [Region.wanted, hg]
  rw [if_pos hw]
  exact aop_soundIn h none 0 W E0 H0 a w ⟨E, hY.inv⟩ _ _ fun st' a' w' hK ⟨E', hI'⟩ hd' => hK a' w' ⟨X, L, W, E0, H0, E', hY.step hI' hd'⟩
/-- The first operations of a region. -/
theorem yl_ops : ∀ (os : List Oper) {st : ASt}, AOps P ops (fun _ s => YL P J ops Q rest g s) os st → YL P J ops Q (os ++ rest) g st
  | [], st, h => h
  | o :: os, st, h => by
    rintro a w ⟨X, L, W, E0, H0, E, hY⟩
    rw [List.cons_append]
    unfold wpListIn
    simp only [AOps] at h
    split at h
    · rename_i hg
      have hw : Region.wanted o (yielded ops a.tmps) = true := by simp [Region.wanted, hg]
      rw [if_pos hw]
      exact aop_soundIn h none 0 W E0 H0 a w ⟨E, hY.inv⟩ _ _ fun st' a' w' hK ⟨E', hI'⟩ hd' => yl_ops os hK a' w' ⟨X, L, W, E0, H0, E', hY.step hI' hd'⟩
    · rename_i j want hg
      split at h
      · rename_i b hb
        have hy := guard_rel hY.inv hb
        split at h
        · rename_i hbw
          have hw : Region.wanted o (yielded ops a.tmps) = true := by simp [Region.wanted, hg, hy, hbw]
          rw [if_pos hw]
          exact aop_soundIn h none 0 W E0 H0 a w ⟨E, hY.inv⟩ _ _ fun st' a' w' hK ⟨E', hI'⟩ hd' => yl_ops os hK a' w' ⟨X, L, W, E0, H0, E', hY.step hI' hd'⟩
        · rename_i hbw
          have hw : Region.wanted o (yielded ops a.tmps) = false := by simp [Region.wanted, hg, hy, hbw]
          rw [hw]
          exact ⟨fun _ _ => trivial, yl_ops os h _ _ ⟨X, L, W, E0, H0, E, hY.step (hY.inv.put _ (rel_undef _ _)) (put_defers _ _ _)⟩⟩
      · exact h.elim
theorem yl_take (n : Nat) {os : List Oper} {st : ASt} (h : AOps P ops (fun _ s => YL P J ops Q (os.drop n) g s) (os.take n) st) : YL P J ops Q os g st := by
  have := yl_ops (os.take n) h
  rwa [List.take_append_drop] at this
@[simp] theorem yexit_then_normal (next : Gh α → ASt → Prop) : YExit.then next Q .normal g st = next g st := propext Iff.rfl
@[simp] theorem yexit_then_ret (next : Gh α → ASt → Prop) : YExit.then next Q .ret g st = Q .ret g st := propext Iff.rfl
@[simp] theorem yexit_then_exit (next : Gh α → ASt → Prop) (id : Nat) : YExit.then next Q (.exit id) g st = Q (.exit id) g st := propext Iff.rfl
@[simp] theorem yexit_in_normal (id : Nat) : YExit.inBlock id Q .normal g st = Q .normal g st := propext Iff.rfl
@[simp] theorem yexit_in_ret (id : Nat) : YExit.inBlock id Q .ret g st = Q .ret g st := propext Iff.rfl
@[simp] theorem yexit_in_exit (id id' : Nat) : YExit.inBlock id Q (.exit id') g st = if id' = id then Q .normal g st else Q (.exit id') g st := propext Iff.rfl
/-- What a guard says. -/
def wants (ops : Array Oper) (o : Oper) (st : ASt) : Prop := match o.guard with
  | none => True
  | some (j, want) => st.guard ops j = some (some want)
theorem wants_rel {a : Act} {w W : World} {E0 E : Env} {H0 : AHeap} (hE : InvE W E0 H0 st a w E) (h : wants ops o st) : Region.wanted o (yielded ops a.tmps) = true := by
  unfold wants at h
  split at h
  · rename_i hg; simp [Region.wanted, hg]
  · rename_i j want hg
    have hy := guard_rel hE h
    simp [Region.wanted, hg, hy]
/-- yield is called. -/
theorem yl_yield (A : Amb P l encs N J) {f : Operand} {args : Array Operand} {ts : Array TypeId} (ho : o.op = .call { callee := .value f, args, argTypes := ts }) (hg : wants ops o st) (hf : st.eval f = sv (.func (.yield l) #[] #[]))
    (x : α) (hx : (args.toList.map fun y => (st.eval y).val?) = (encs x).map some) (hs : g.stop = false) (hN : g.pre.length < N)
    (h : ∀ b : Bool, YL P J ops Q rest { g with stop := !b, pre := g.pre ++ [x] } (st.put o.dst (bv b))) : YL P J ops Q (o :: rest) g st := by
  rintro a w ⟨X, L, W, E0, H0, E, hY⟩
  unfold wpListIn
  rw [if_pos (wants_rel hY.inv hg)]
  have hfv : a.eval f = .func (.yield l) #[] #[] := by
    have := hY.inv.eval f
    rw [hf] at this
    generalize a.eval f = q at this
    cases this
    rfl
  have hav : (args.map a.eval) = (encs x).toArray := by
    apply Array.ext'
    simp only [Array.toList_map]
    have key : ∀ (as : List Operand) (vs : List Value), (as.map fun y => (st.eval y).val?) = vs.map some → as.map a.eval = vs := by
      intro as
      induction as with
      | nil => intro vs h; cases vs with | nil => rfl | cons => simp at h
      | cons y as ih =>
        intro vs h
        cases vs with
        | nil => simp at h
        | cons v vs =>
          simp only [List.map_cons, List.cons.injEq] at h
          rw [List.map_cons, ih vs h.2, val_rel h.1 (hY.inv.eval y)]
    exact key _ _ hx
  have hJ : J false X L g.pre w := by have := A.fix _ _ _ _ _ _ hY.J hY.fixed; rwa [hs] at this
  obtain ⟨fn, tmps, assign, body, hy, hR⟩ := A.yield g.pre x w X L hJ hN
  have hd : ∀ c, o.op ≠ .defer c := fun c e => by rw [ho] at e; cases e
  refine ⟨fun _ _ => trivial, ?_⟩
  rw [Oper.semAt_eq _ _ _ hd]
  have hrun : (execOp a.eval o).run P w = .ok (.round l fn tmps assign body) w := by
    simp only [execOp, ho, resolve, hfv]; simp [Deferred.ofValue, invoke, hav, hy]
  rw [hrun]
  refine ⟨fun h0 => by simp at h0, hR.mono ?_⟩
  rintro e W' ⟨X', L', hsh, b, rfl, hJ'⟩
  refine h b _ _ ⟨X', L', W', E, st.heap, E, ?_⟩
  have hle : Env.Le w E W' E := ⟨fun q hq => ⟨hq, hsh.same q (hY.inv.sim.I q hq) (fun hl => hY.li q hl hq)⟩, Nat.le_refl _, fun _ _ h => .inl h⟩
  have hlive : ∀ q, LiveB E st.heap q → ¬ L q := fun q hq hl => hY.live q (hY.LX q hl) hq
  have hsim : SimH W' E st.heap := ⟨hY.inv.sim.len, hY.inv.sim.gens, fun q hq => Nat.lt_of_lt_of_le (hY.inv.sim.I q hq) hsh.size, fun k B hB => by
    obtain ⟨i, hi, hok⟩ := hY.inv.sim.blk k B hB
    exact ⟨i, hi, hok.mono_same hle (fun _ _ hI => hI) (fun q hq => hsh.same q (hok.lt hq) (hlive q ⟨k, B, i, hB, hi, hq⟩))⟩, hY.inv.sim.apart, fun q cs hq => (hY.inv.sim.glob q cs hq).mono hle.I⟩
  have hrel : RelVs W' E st.tmps a.tmps.toList := hY.inv.rel.mono hle
  have hI0 : InvE W' E st.heap st a W' E := ⟨by rw [hY.dfr]; exact Marks.nil _ _ _, Env.Le.refl _ _, hY.inv.clk, hsim, hrel, Frm.refl _ _, fun b hb => .inl hb, fun b _ hb => .inl hb⟩
  have hpt : InvE W' E st.heap (st.put o.dst (bv b)) (a.put o.dst (.bool b)) W' E := hI0.put o.dst (RelD.s rfl)
  refine ⟨hJ', hpt, hsim, hsh.Xlt, fun q hq hl => ?_, hsh.LX, fun q hq hI => ?_, fun k hk => ?_, (put_defers _ _ _).trans hY.dfr⟩
  · rcases hsh.sX q hq with h1 | h1
    · exact hY.live q h1 hl
    · have := live_lt (st := st) hY.inv.sim hl; omega
  · rcases hsh.sL q hq with h1 | h1
    · exact hY.li q h1 hI
    · have := hY.inv.sim.I q hI; omega
  · obtain ⟨m, h1, h2, h3, h4, h5⟩ := (hY.it k hk).later hY
    have hrlt : k.r < w.heap.size := (Array.getElem?_eq_some_iff.1 h1).1
    refine ⟨m, ?_, h2, ?_, fun hx => (hsh.sX _ hx).elim h4 (fun h => by omega), h5⟩
    · rw [hsh.same _ hrlt (fun hl => h4 (hY.LX _ hl))]; exact h1
    · rw [(hle.I m h2).2]; exact h3
/-- A walk over a map begins. -/
theorem yl_range (A : Amb P l encs N J) {t : TypeId} {m : Operand} {kt et : TypeId} {es : List MapEntry} {c : Nat} (ho : o.op = .range t m) (hg : wants ops o st) (ht : mapT P t = some (kt, et)) (hm : st.eval m = .one (.d (.map es c)))
    (h : ∀ r, YL P J ops Q rest { g with it := some ⟨r, es, c, []⟩ } (st.put o.dst (sv (.pointer (some ⟨r, 0, none⟩))))) : YL P J ops Q (o :: rest) g st := by
  rintro a w ⟨X, L, W, E0, H0, E, hY⟩
  unfold wpListIn
  rw [if_pos (wants_rel hY.inv hg)]
  have hmv := hY.inv.eval m
  rw [hm] at hmv
  generalize hq : a.eval m = q at hmv
  cases hmv with
  | map hI hmp =>
  rename_i r0
  have hd : ∀ c, o.op ≠ .defer c := fun c e => by rw [ho] at e; cases e
  refine ⟨fun _ _ => trivial, ?_⟩
  rw [Oper.semAt_eq _ _ _ hd]
  have hu := mapT_some ht
  have hrun : (execOp a.eval o).run P w = .ok (.value (.pointer (some ⟨w.heap.size, 0, none⟩))) (w.alloc (.mapIter (some r0) c #[] c)) := by
    simp [execOp, ho, hq, Instr.range, run_underlying hu, MapKept.run_getObj_map hmp, Result.andThen]
  rw [hrun]
  have hY1 := hY.anew A (T := st.tmps) hY.dfr hY.inv.rel
  refine h w.heap.size _ _ ⟨X, L, w.alloc (.mapIter (some r0) c #[] c), E, st.heap, E, ?_⟩
  have hle : Env.Le w E (w.alloc (.mapIter (some r0) c #[] c)) E := ⟨fun b hb => ⟨hb, alloc_old w _ b (hY.inv.sim.I b hb)⟩, Nat.le_refl _, fun _ _ h => .inl h⟩
  have hfx := fix_alloc w (.mapIter (some r0) c #[] c) (fun _ => True)
  have hsim : SimH (w.alloc (.mapIter (some r0) c #[] c)) E st.heap := ⟨hY.inv.sim.len, hY.inv.sim.gens, fun q hq => Nat.lt_of_lt_of_le (hY.inv.sim.I q hq) hfx.size, fun k B hB => by
    obtain ⟨i, hi, hok⟩ := hY.inv.sim.blk k B hB
    exact ⟨i, hi, hok.mono_same hle (fun _ _ hI => hI) (fun q hq => hfx.same q (hok.lt hq) trivial)⟩, hY.inv.sim.apart, fun q cs hq => (hY.inv.sim.glob q cs hq).mono hle.I⟩
  have hI0 : InvE (w.alloc (.mapIter (some r0) c #[] c)) E st.heap st a (w.alloc (.mapIter (some r0) c #[] c)) E := ⟨by rw [hY.dfr]; exact Marks.nil _ _ _, Env.Le.refl _ _, hY.inv.clk, hsim, hY.inv.rel.mono hle, Frm.refl _ _, fun b hb => .inl hb, fun b _ hb => .inl hb⟩
  refine ⟨A.fix _ _ _ _ _ _ hY1.J (fix_alloc _ _ _), hI0.put o.dst (RelD.s rfl), hsim, fun b hb => by have := hY1.lt b hb; simp; omega, hY.live, hY.LX, hY.li, fun k hk => ?_, (put_defers _ _ _).trans hY.dfr⟩
  cases hk
  refine ⟨r0, heap_alloc_new w _, hI, by rw [alloc_old w _ _ (hY.inv.sim.I _ hI)]; exact hmp, fun hx => ?_, fun hx => ?_⟩
  · have := hY1.lt _ hx; simp at this
  · have := hY.inv.sim.I _ hx; simp at this
/-- A walk over a map goes on. -/
theorem yl_next (A : Amb P l encs N J) {it : Operand} (ho : o.op = .next it false) (hg : wants ops o st) (k : Wk) (hk : g.it = some k) (hi : st.eval it = sv (.pointer (some ⟨k.r, 0, none⟩)))
    (hb : (∀ e ∈ k.es, e.born < k.c) ∧ (k.es.map (·.born)).Nodup) (hd : ∀ e ∈ k.done, e ∈ k.es) (hc : ∀ e ∈ k.es, oneCells e.key = true ∧ oneCells e.val = true)
    (h0 : (∀ e ∈ k.es, e ∈ k.done) → YL P J ops Q rest g (st.put o.dst (.tup [bv false])))
    (h1 : ∀ e ∈ k.es, e ∉ k.done → YL P J ops Q rest { g with it := some { k with done := k.done ++ [e] } } (st.put o.dst (.tup [bv true, AV.ofV e.key, AV.ofV e.val]))) : YL P J ops Q (o :: rest) g st := by
  rintro a w ⟨X, L, W, E0, H0, E, hY⟩
  unfold wpListIn
  rw [if_pos (wants_rel hY.inv hg)]
  have hv : a.eval it = .pointer (some ⟨k.r, 0, none⟩) := by
    have := hY.inv.eval it
    rw [hi] at this
    generalize a.eval it = q at this
    cases this
    rfl
  have hdf : ∀ c, o.op ≠ .defer c := fun c e => by rw [ho] at e; cases e
  refine ⟨fun _ _ => trivial, ?_⟩
  rw [Oper.semAt_eq _ _ _ hdf]
  obtain ⟨m, w1, w2, w3, w4, w5⟩ := (hY.it k hk).later hY
  have hleft : ∀ e, e ∈ (leftOf k.es.toArray (k.done.map (·.born)).toArray).toList ↔ e ∈ k.es ∧ e ∉ k.done := fun e => by
    simp only [leftOf, Array.toList_filter, List.mem_filter, List.contains_toArray, Bool.not_eq_true', List.contains_eq_mem, decide_eq_false_iff_not, List.mem_map, not_exists, not_and]
    refine ⟨fun ⟨h1, h2⟩ => ⟨h1, fun h => h2 e h rfl⟩, fun ⟨h1, h2⟩ => ⟨h1, fun x hx he => h2 ?_⟩⟩
    have hx' := hd x hx
    obtain ⟨i, hi, rfl⟩ := List.getElem_of_mem hx'
    obtain ⟨j, hj, rfl⟩ := List.getElem_of_mem h1
    have : i = j := (List.getElem?_inj (l := k.es.map (fun e : MapEntry => e.born)) (by simpa using hi) hb.2).1 (by simp [hi, hj, he])
    subst this; exact hx
  have hnl : ¬ LiveB E st.heap k.r := fun hl => by
    obtain ⟨o, ho, q⟩ := live_obj hY.inv.sim hl
    rw [w1] at ho; cases ho
    rcases q with ⟨c, t, m, e⟩ | ⟨es, c, e⟩ <;> cases e
  rcases run_next_at (P := P) w o.type k.r m k.c k.c _ k.es.toArray k.c w1 w3 (by simpa using hb.1) (Nat.le_refl _) with ⟨hz, hrun⟩ | ⟨e, he, wd, hwd, hrun⟩
  · have hrun' : (execOp a.eval o).run P w = .ok (.value (.tuple #[.bool false])) w := by simp [execOp, ho, hv, hrun, Result.andThen]
    rw [hrun']
    refine h0 (fun e he => ?_) _ _ ⟨X, L, W, E0, H0, E, hY.step (hY.inv.put o.dst ?_) (put_defers _ _ _)⟩
    · by_cases hdn : e ∈ k.done
      · exact hdn
      · have := (hleft e).2 ⟨he, hdn⟩
        rw [Array.eq_empty_of_size_eq_zero hz] at this
        simp at this
    · exact ⟨[.bool false], rfl, rfl, fun j x u hx hu => by
        match j with
        | 0 => simp at hx hu; subst hx; subst hu; exact RelD.s rfl
        | j + 1 => simp at hx⟩
  · have hrun' : (execOp a.eval o).run P w = .ok (.value (.tuple #[.bool true, e.key, e.val])) (ChangeMaps.setBlock wd k.r (.mapIter (some m) k.c (((k.done.map (·.born)).toArray).push e.born) k.c)) := by simp [execOp, ho, hv, hrun, Result.andThen]
    rw [hrun']
    have hem := (hleft e).1 he
    obtain ⟨w', hw'⟩ : ∃ w', w' = ChangeMaps.setBlock wd k.r (.mapIter (some m) k.c (((k.done.map (·.born)).toArray).push e.born) k.c) := ⟨_, rfl⟩
    rw [← hw']
    have hfx : Fix (fun b => b ≠ k.r) w w' := by
      rw [hw']
      rcases hwd with rfl | rfl
      · exact ⟨rfl, rfl, ⟨rfl, Nat.le_refl _⟩, by simp [ChangeMaps.setBlock], fun b hb hx => by simp [ChangeMaps.setBlock, Array.getElem?_setIfInBounds, Ne.symm hx]⟩
      · exact ⟨rfl, rfl, ⟨rfl, Nat.le_succ _⟩, by simp [ChangeMaps.setBlock], fun b hb hx => by simp [ChangeMaps.setBlock, Array.getElem?_setIfInBounds, Ne.symm hx]; rfl⟩
    have hr' : w'.heap[k.r]? = some (.mapIter (some m) k.c (((k.done.map (·.born)).toArray).push e.born) k.c) := by
      have hlt : k.r < w.heap.size := (Array.getElem?_eq_some_iff.1 w1).1
      rw [hw']
      rcases hwd with rfl | rfl
      · simp [ChangeMaps.setBlock, Array.getElem?_setIfInBounds, hlt]
      · simp [ChangeMaps.setBlock, Array.getElem?_setIfInBounds, hlt]
    have hY1 := hY.anew A (T := st.tmps) hY.dfr hY.inv.rel
    have hfX : Fix X w w' := ⟨hfx.os, hfx.tape, hfx.output, hfx.size, fun b hb hx => hfx.same b hb (fun e => w4 (e ▸ hx))⟩
    have hInv := hY1.inv.fix (X := fun b => b ≠ k.r) hfx
    have hle : Env.Le w E w' E := ⟨fun b hb => ⟨hb, hfx.same b (hY.inv.sim.I b hb) (fun e => w5 (e ▸ hb))⟩, Nat.le_refl _, fun _ _ h => .inl h⟩
    have hsim : SimH w' E st.heap := ⟨hY.inv.sim.len, hY.inv.sim.gens, fun q hq => Nat.lt_of_lt_of_le (hY.inv.sim.I q hq) hfx.size, fun q B hB => by
      obtain ⟨i, hi, hok⟩ := hY.inv.sim.blk q B hB
      exact ⟨i, hi, hok.mono_same hle (fun _ _ hI => hI) (fun z hz => hfx.same z (hok.lt hz) (fun e => hnl (e ▸ ⟨q, B, i, hB, hi, hz⟩)))⟩, hY.inv.sim.apart, fun q cs hq => (hY.inv.sim.glob q cs hq).mono hle.I⟩
    have hI0 : InvE w' E st.heap st a w' E := ⟨by rw [hY.dfr]; exact Marks.nil _ _ _, Env.Le.refl _ _, hY.inv.clk, hsim, hY.inv.rel.mono hle, Frm.refl _ _, fun b hb => .inl hb, fun b _ hb => .inl hb⟩
    refine h1 e hem.1 hem.2 _ _ ⟨X, L, w', E, st.heap, E, A.fix _ _ _ _ _ _ hY1.J hfX, hI0.put o.dst ?_, hsim, fun b hb => Nat.lt_of_lt_of_le (hY1.lt b hb) hfx.size, hY.live, hY.LX, hY.li, fun q hq => ?_, (put_defers _ _ _).trans hY.dfr⟩
    · refine ⟨[.bool true, e.key, e.val], rfl, rfl, fun j x u hx hu => ?_⟩
      match j with
      | 0 => simp at hx hu; subst hx; subst hu; exact RelD.s rfl
      | 1 => simp at hx hu; subst hx; subst hu; exact ofV_rel (hc e hem.1).1
      | 2 => simp at hx hu; subst hx; subst hu; exact ofV_rel (hc e hem.1).2
      | j + 3 => simp at hx
    · cases hq
      exact ⟨m, by rw [hr']; simp, w2, by rw [(hle.I m w2).2]; exact w3, w4, w5⟩

/-- The entry that came last. -/
theorem yl_entry {it : Operand} (ho : o.op = .entry it) (hg : wants ops o st) (k : Wk) (hk : g.it = some k) (hi : st.eval it = sv (.pointer (some ⟨k.r, 0, none⟩)))
    (hn : (k.es.map (·.born)).Nodup) (d : List MapEntry) (e : MapEntry) (hd : k.done = d ++ [e]) (he : e ∈ k.es) (hc : oneCells e.key = true ∧ oneCells e.val = true)
    (h : YL P J ops Q rest g (st.put o.dst (.tup [AV.ofV e.key, AV.ofV e.val]))) : YL P J ops Q (o :: rest) g st := by
  rintro a w ⟨X, L, W, E0, H0, E, hY⟩
  unfold wpListIn
  rw [if_pos (wants_rel hY.inv hg)]
  have hv : a.eval it = .pointer (some ⟨k.r, 0, none⟩) := by
    have := hY.inv.eval it
    rw [hi] at this
    generalize a.eval it = q at this
    cases this
    rfl
  have hdf : ∀ c, o.op ≠ .defer c := fun c e => by rw [ho] at e; cases e
  refine ⟨fun _ _ => trivial, ?_⟩
  rw [Oper.semAt_eq _ _ _ hdf]
  obtain ⟨m, w1, w2, w3, w4, w5⟩ := (hY.it k hk).later hY
  have hseen : (k.done.map (·.born)).toArray = ((d.map (·.born)).toArray).push e.born := by rw [hd]; simp
  rw [hseen] at w1
  have hrun := run_entry_at (P := P) w k.r m k.c _ k.es.toArray k.c e w1 w3 (by simpa using he) (by simpa using hn)
  have hrun' : (execOp a.eval o).run P w = .ok (.value (.tuple #[e.key, e.val])) w := by simp [execOp, ho, hv, hrun, Result.andThen]
  rw [hrun']
  refine h _ _ ⟨X, L, W, E0, H0, E, hY.step (hY.inv.put o.dst ?_) (put_defers _ _ _)⟩
  refine ⟨[e.key, e.val], rfl, rfl, fun j x u hx hu => ?_⟩
  match j with
  | 0 => simp at hx hu; subst hx; subst hu; exact ofV_rel hc.1
  | 1 => simp at hx hu; subst hx; subst hu; exact ofV_rel hc.2
  | j + 2 => simp at hx

/-- What an iterator owes, out of its body's walk. -/
theorem aseq_of {f : FuncId} {fn : Func} {c : Code} {cs : List DC} {S Sp : List α → Prop} (hf : P.funcs[f]? = some fn) (hb : fn.body = some c) (hres : fn.results = #[])
    (h : ∀ (l : Nat) (J : JT α), Amb P l encs N J → YOk P J c (fun e g _ => (e = .normal ∨ e = .ret) ∧ ((g.stop = false ∧ S g.pre) ∨ (g.stop = true ∧ Sp g.pre))) ⟨false, [], none⟩
      ⟨sv (.func (.yield l) #[] #[]) :: (cs.map fun d => .one (.d d)) ++ List.replicate (fn.ntmps - (cs.length + 1)) unknown, [], 0⟩) : ASeq P f cs encs S Sp N := by
  intro l I lb J Jx W X0 L0 hlen hrel hI hG hJ hJx hY h0 hX hLX hLI
  let JJ : JT α := fun s X L pre W => if s = true then Jx X L pre W else J X L pre W
  have A : Amb P l encs N JJ := ⟨fun s X L pre A B hj hfx => by
      cases s with
      | true => exact hJx X L pre A B hj hfx
      | false => exact hJ X L pre A B hj hfx,
    fun pre x W1 X L hj hn => by
      obtain ⟨fn, tmps, assign, body, h1, h2⟩ := hY pre x W1 X L hj hn
      refine ⟨fn, tmps, assign, body, h1, h2.mono ?_⟩
      rintro e W' ⟨X', L', hs, ⟨he, hj'⟩ | ⟨he, hj'⟩⟩
      · exact ⟨X', L', hs, true, he, hj'⟩
      · exact ⟨X', L', hs, false, he, hj'⟩⟩
  refine (callsIn_wide (n := 0)).1 (callsIn_of_wp_marks hf hb trivial ?_)
  have hinit : YInv JJ ⟨false, [], none⟩ ⟨sv (.func (.yield l) #[] #[]) :: (cs.map fun d => .one (.d d)) ++ List.replicate (fn.ntmps - (cs.length + 1)) unknown, [], 0⟩
      { tmps := #[.func (.yield l) #[] #[]] ++ lb.toArray ++ Array.replicate (fn.ntmps - (#[Value.func (.yield l) #[] #[]] ++ lb.toArray).size) undef, defers := [] } W := by
    have hsim : SimH W ⟨I, [], 0⟩ [] := ⟨rfl, fun k i h => by simp at h, hI, fun k B h => by simp at h, fun k k' B B' i i' b h => by simp at h, hG⟩
    refine ⟨X0, L0, W, ⟨I, [], 0⟩, [], ⟨I, [], 0⟩, h0, ⟨Marks.nil _ _ _, Env.Le.refl _ _, rfl, hsim, ⟨by simp [hlen], fun j x v hx hv => ?_⟩, Frm.refl _ _, fun b hb => .inl hb, fun b _ hb => .inl hb⟩, hsim, hX, fun b _ ⟨k, B, i, h, _⟩ => by simp at h, hLX, hLI, fun k hk => by simp at hk, rfl⟩
    simp only [Array.toList_append, Array.toList_replicate, List.cons_append, List.append_assoc] at hx hv
    match j with
    | 0 => simp at hx hv; subst hx; subst hv; exact RelD.s rfl
    | j + 1 =>
      simp only [List.getElem?_cons_succ, List.nil_append] at hx hv
      rw [List.getElem?_append] at hx hv
      simp only [List.length_map] at hx
      by_cases hj : j < cs.length
      · rw [if_pos hj] at hx
        rw [if_pos (by rw [← hlen]; exact hj)] at hv
        rw [List.getElem?_map] at hx
        cases hc : cs[j]? with
        | none => simp [hc] at hx
        | some d => simp [hc] at hx; subst hx; exact hrel j d v hc hv
      · rw [if_neg hj] at hx
        rw [List.getElem?_replicate] at hx
        split at hx
        · cases hx; exact rel_unknown _
        · cases hx
  refine wpIn_mono (h l JJ A _ _ hinit) ?_
  rintro e a' w' ⟨g, st, ⟨he, hq⟩, X, L, W', E0, H0, E, hYE⟩
  have fin : LeavesInM Fence.wide 0 P fn a'.tmps (fun e W' => (∃ v, e = .returned v) ∧ ((∃ xs X L, S xs ∧ J X L xs W') ∨ (∃ pre X L, Sp pre ∧ Jx X L pre W'))) a'.defers .returning w' := by
    rw [hYE.dfr]
    show LeavesIn Fence.wide 0 P fn a'.tmps _ [] .returning w'
    have hj := A.fix _ _ _ _ _ _ hYE.J hYE.fixed
    have hrs : (results fn a'.tmps).run P w' = .ok (.tuple #[]) w' := by simp [results, hres]
    refine ⟨_, hrs, ⟨_, rfl⟩, ?_⟩
    rcases hq with ⟨hs, hS⟩ | ⟨hs, hS⟩
    · rw [hs] at hj; exact .inl ⟨g.pre, X, L, hS, hj⟩
    · rw [hs] at hj; exact .inr ⟨g.pre, X, L, hS, hj⟩
  rcases he with rfl | rfl
  · exact fin
  · exact fin
end
end Go.Abs
namespace Go.Abs
set_option linter.unusedSimpArgs false
set_option linter.unusedVariables false
set_option linter.unnecessarySimpa false
open Go
/-- Whatever order is picked of the first operations: the last ones do not come up before all of these are taken. -/
def preOk (ops : Array Oper) (T : Array Bool) : Nat → Array Bool → Array Bool → Bool
  | 0, l, _ => l == T
  | n + 1, l, l2 => !(Region.ready .any ops l).isEmpty && Region.ready .any ops l == Region.ready .any ops l2 && (Region.ready .any ops l).all fun i => preOk ops T n (l.setIfInBounds i true) (l2.setIfInBounds i true)
def lineOk (ops : Array Oper) : List Nat → Array Bool → Bool
  | [], l => Region.ready .any ops l == []
  | k :: ks, l => Region.ready .any ops l == [k] && lineOk ops ks (l.setIfInBounds k true)
section
variable {P : Program} {ops : Array Oper}
theorem aany_pre {Q : Exit → ASt → Prop} (ro : Option Nat) (d : Nat) {w0 : World} {E0 : Env} {H0 : AHeap} {Q' : Exit → Act → World → Prop} {ds : List Deferred} (m : Nat) (T : Array Bool)
    (hT : ∀ st a w, Q .normal st → Inv w0 E0 H0 st a w → a.defers = ds → wpAnyIn (Wd ro) d P .any ops Q' m T a w) : ∀ (n : Nat) (l l2 : Array Bool) (st : ASt) (a : Act) (w : World),
    preOk ops T n l l2 = true → AAny P ops Q n l2 st → Inv w0 E0 H0 st a w → a.defers = ds → wpAnyIn (Wd ro) d P .any ops Q' (n + m) l a w
  | 0, l, l2, st, a, w, hp, h, hI, hd => by
    have : l = T := by simpa [preOk] using hp
    subst this
    rw [Nat.zero_add]
    exact hT st a w h.2 hI hd
  | n + 1, l, l2, st, a, w, hp, h, hI, hd => by
    simp only [preOk, Bool.and_eq_true, List.all_eq_true] at hp
    obtain ⟨⟨h1, h2⟩, h3⟩ := hp
    have h2' : Region.ready .any ops l = Region.ready .any ops l2 := by simpa using h2
    rw [Nat.succ_add]
    refine ⟨fun h0 => ?_, fun i hi => ?_⟩
    · rw [h0] at h1; simp at h1
    · obtain ⟨_, o, ho, _⟩ := mem_ready.1 hi
      exact stepA_sound ho (fun st' a' w' hK hI' hd' => aany_pre ro d m T hT n _ _ st' a' w' (h3 i hi) hK hI' (hd'.trans hd)) (h.2 i (by rw [← h2']; exact hi) o ho) hI ro d
theorem wpAny_line {F : Fence} {n : Nat} {Q : Exit → Act → World → Prop} : ∀ (ks : List Nat) (l : Array Bool) (a : Act) (w : World), ks.all (fun k => decide (k < ops.size)) = true → lineOk ops ks l = true → wpListIn F n P ops Q (ks.filterMap (ops[·]?)) a w → wpAnyIn F n P .any ops Q ks.length l a w
  | [], l, a, w, _, ho, h => ⟨by simpa [lineOk] using ho, h⟩
  | k :: ks, l, a, w, hb, ho, h => by
    simp only [lineOk, Bool.and_eq_true] at ho
    simp only [List.all_cons, Bool.and_eq_true, decide_eq_true_eq] at hb
    have h1 : Region.ready .any ops l = [k] := by simpa using ho.1
    have hk : ops[k]? = some ops[k] := Array.getElem?_eq_getElem hb.1
    refine ⟨fun h0 => (by rw [h1] at h0; cases h0), fun i hi => ?_⟩
    rw [h1] at hi
    simp at hi; subst hi
    rw [List.filterMap_cons, hk] at h
    simp only [wpListIn] at h
    unfold wpOpIn
    rw [hk]
    simp only
    split
    · rename_i hw
      rw [if_pos hw] at h
      exact Oper.wpIn_mono (fun a w hh => wpAny_line ks _ a w (by simpa using hb.2) ho.2 hh) h
    · rename_i hw
      rw [if_neg hw] at h
      exact ⟨h.1, wpAny_line ks _ _ w (by simpa using hb.2) ho.2 h.2⟩
def firstK (ops : Array Oper) (k : Nat) (b : Bool) : Array Bool := ((List.range ops.size).map fun i => if i < k then b else !b).toArray
section
variable {α : Type} {J : JT α} {l N : Nat} {encs : α → List Value} {Q : Exit → Gh α → ASt → Prop} {g : Gh α} {st : ASt}
/-- Up to the operation k any order; from there on one after the other. -/
theorem yok_drawPre {id : Nat} (k : Nat) (ks : List Nat) (pre : List (Mk × Nat)) (hm : P.follows .mixedOrders = true)
    (hs : k + ks.length = ops.size) (hk : pre.length = k) (hb : (pre.all (fun p => p.2 < ops.size) && ks.all fun k => decide (k < ops.size)) = true)
    (ho : (preOk ops (firstK ops k true) k (Array.replicate ops.size false) (firstK ops k false) && orderOkT ops pre (firstK ops k false) && Region.ready .any ops (seenT pre (firstK ops k false)) == [] && lineOk ops ks (firstK ops k true)) = true)
    (h : AOrdS P ops (fun _ s => YL P J ops Q (ks.filterMap (ops[·]?)) g s) (pre.filterMap (fun p => (ops[p.2]?).map fun o => (p.1, o))) st) : YOk P J (.region id ops true) Q g st := by
  rintro a w ⟨X, L, W, E0, H0, E, hY⟩
  simp only [Bool.and_eq_true, beq_iff_eq] at hb ho
  obtain ⟨⟨⟨ho1, ho2⟩, ho3⟩, ho4⟩ := ho
  refine wpIn_region_any hm ?_
  have hA : AAny P ops (fun _ s => YL P J ops Q (ks.filterMap (ops[·]?)) g s) (pre.length + 0) (firstK ops k false) st :=
    aany_then pre _ _ st 0 (marks_map hb.1) ho2 h fun s hs => ⟨ho3, hs⟩
  rw [Nat.add_zero, hk] at hA
  have := aany_pre (Q := fun _ s => YL P J ops Q (ks.filterMap (ops[·]?)) g s) none 0 (w0 := W) (E0 := E0) (H0 := H0) (Q' := YQ J Q) (ds := a.defers) ks.length (firstK ops k true)
    (fun st' a' w' hq ⟨E', hI'⟩ hd' => wpAny_line ks _ a' w' hb.2 ho4 (hq a' w' ⟨X, L, W, E0, H0, E', hY.step hI' hd'⟩)) k _ _ st a _ ho1 hA ⟨E, hY.inv.drew⟩ rfl
  rw [hs] at this
  exact this
end
end
end Go.Abs
namespace Go.Abs
set_option linter.unusedSimpArgs false
set_option linter.unusedVariables false
set_option linter.unnecessarySimpa false
open Go
section
variable {P : Program} {ops : Array Oper} {Q : Exit → ASt → Prop}
/-- Whatever order is picked from here on; the arrays of R stay as they are. -/
def AAnyR (P : Program) (ops : Array Oper) (Q : Exit → ASt → Prop) (R : AHeap) : Nat → Array Bool → ASt → Prop
  | 0, listed, st => Region.ready .any ops listed = [] ∧ Q .normal st
  | n + 1, listed, st => (Region.ready .any ops listed = [] → Q .normal st) ∧
    ∀ i ∈ Region.ready .any ops listed, ∀ o, ops[i]? = some o → stepW P ops o st fun s => HExt R s.heap ∧ AAnyR P ops Q R n (listed.setIfInBounds i true) s
theorem aanyR_W {R : AHeap} : ∀ (n : Nat) (listed : Array Bool) (st : ASt), AAnyR P ops Q R n listed st → AAnyW P ops Q n listed st
  | 0, _, _, h => h
  | n + 1, listed, st, h => ⟨h.1, fun i hi o ho => stepW_mono (fun s hs => aanyR_W n _ s hs.2) (h.2 i hi o ho)⟩
theorem aanyR_still {R : AHeap} {k : Nat} {ok : Oper} {x : AV} (hk : ops[k]? = some ok) (S : Nat → Prop) : ∀ (n : Nat) (listed : Array Bool) (st : ASt), HExt R st.heap →
    (∀ j, S j → listed.getD j true = false ∧ ∃ oj e, ops[j]? = some oj ∧ e ∈ oj.after ∧ Region.binds .any e = true ∧ (e.on = k ∨ S e.on)) →
    (∀ j oj, ops[j]? = some oj → j ≠ k → listed.getD j true = false → ¬ S j → (∀ e ∈ oj.after, Region.binds .any e = true → e.on ≠ k) → ok.apart ops oj = true) →
    k ∈ Region.ready .any ops listed → QV P ops ok st.tmps R x → AAnyR P ops Q R n (listed.setIfInBounds k true) (st.put ok.dst x) → AAnyR P ops Q R (n + 1) listed st := by
  intro n
  induction n with
  | zero =>
    intro listed st hR _ _ hr hy hA
    refine ⟨fun h => (by rw [h] at hr; cases hr), fun i hi o ho => ?_⟩
    by_cases hik : i = k
    · subst hik
      rw [hk] at ho; cases ho
      exact stepCW_of (hy _ _ _ hR ⟨by rw [put_heap]; exact hR, hA⟩)
    · have := ready_mono hi hik
      rw [hA.1] at this
      cases this
  | succ n ih =>
    intro listed st hR hS hfree hr hy hA
    refine ⟨fun h => (by rw [h] at hr; cases hr), fun i hi o ho => ?_⟩
    by_cases hik : i = k
    · subst hik
      rw [hk] at ho; cases ho
      exact stepCW_of (hy _ _ _ hR ⟨by rw [put_heap]; exact hR, hA⟩)
    · have h1 := hA.2 i (ready_mono hi hik) o ho
      obtain ⟨hiun, o', ho', hall⟩ := mem_ready.1 hi
      rw [ho] at ho'; cases ho'
      have hnot : ∀ e ∈ o.after, Region.binds .any e = true → e.on ≠ k := fun e he hb heq => by
        have h1 := hall e he hb
        have h0 := (mem_ready.1 hr).1
        rw [heq] at h1
        rcases Nat.lt_or_ge k listed.size with h' | h'
        · simp [h'] at h0 h1; rw [h0] at h1; cases h1
        · simp [Array.getElem?_eq_none h'] at h1
      have hnS : ¬ S i := fun hs => by
        obtain ⟨_, oj, e, hoj, he, hb, hor⟩ := hS i hs
        rw [ho] at hoj; cases hoj
        rcases hor with h' | h'
        · exact hnot e he hb h'
        · have h1 := hall e he hb
          have h0 := (hS _ h').1
          rcases Nat.lt_or_ge e.on listed.size with g | g
          · simp [g] at h0 h1; rw [h0] at h1; cases h1
          · simp [Array.getElem?_eq_none g] at h1
      have hap := hfree i o ho hik hiun hnS hnot
      obtain ⟨a1, a2, a3⟩ := Oper.apart_spec hap
      unfold stepW at h1 ⊢
      rw [put_heap, put_clk] at h1
      have h2 : stepCW P ops o st.tmps st.heap st.clk (putK (st.put ok.dst x).tmps o.dst fun s => HExt R s.heap ∧ AAnyR P ops Q R n ((listed.setIfInBounds k true).setIfInBounds i true) s) := by
        have e := stepCW_put (P := P) (ops := ops) (o := o) (T := st.tmps) (H := st.heap) (c := st.clk) (K := putK (st.put ok.dst x).tmps o.dst fun s => HExt R s.heap ∧ AAnyR P ops Q R n ((listed.setIfInBounds k true).setIfInBounds i true) s) (dst := ok.dst) (x := x) a1
        rw [← e]
        exact h1
      refine stepCW_mono ?_ h2
      rintro v H' c' ⟨hR', hK⟩
      have hR2 : HExt R H' := by rw [put_heap] at hR'; exact hR'
      refine ⟨by rw [put_heap]; exact hR2, ih (listed.setIfInBounds i true) (ASt.put ⟨st.tmps, H', c'⟩ o.dst v) (by rw [put_heap]; exact hR2) ?_ ?_ (ready_mono hr (fun e => hik e.symm)) ?_ ?_⟩
      · intro j hs
        obtain ⟨h1, h2⟩ := hS j hs
        refine ⟨?_, h2⟩
        have hij : i ≠ j := fun e => hnS (e ▸ hs)
        rw [getD_set_ne true hij]; exact h1
      · intro j oj hj hjk hun hns hno
        refine hfree j oj hj hjk ?_ hns hno
        by_cases hij : i = j
        · subst hij; exact hiun
        · rw [getD_set_ne true hij] at hun; exact hun
      · have := QV.put (c := c') (v := v) hy (dst := o.dst) a3
        rw [put_tmps st.tmps H' R c' c' o.dst v]
        exact this
      · rw [Array.setIfInBounds_comm _ _ (fun e => hik e)]
        have e1 : (ASt.put ⟨st.tmps, H', c'⟩ o.dst v).put ok.dst x = ASt.put ⟨(st.put ok.dst x).tmps, H', c'⟩ o.dst v := by
          rw [← put_put x v (fun d hd => a2 d hd)]
          congr 1
          cases ok.dst <;> rfl
        rw [e1]
        exact hK
theorem aanyR_stillOk {R : AHeap} {k : Nat} {ok : Oper} {x : AV} {n : Nat} {listed : Array Bool} {st : ASt} (hR : HExt R st.heap) (hk : ops[k]? = some ok) (hf : stillOk ops k ok listed = true) (hr : k ∈ Region.ready .any ops listed) (hqv : QV P ops ok st.tmps R x)
    (h : AAnyR P ops Q R n (listed.setIfInBounds k true) (st.put ok.dst x)) : AAnyR P ops Q R (n + 1) listed st := by
  unfold stillOk at hf
  generalize depS ops k listed = S at hf
  simp only [stillS, Bool.and_eq_true, List.all_eq_true, List.mem_range] at hf
  obtain ⟨hS, hf⟩ := hf
  refine aanyR_still hk (fun j => S.contains j = true) n listed st hR ?_ ?_ hr hqv h
  · intro j hj
    have hm : j ∈ S := by simpa using hj
    have h1 := hS j hm
    simp only [Bool.and_eq_true, Bool.not_eq_true'] at h1
    obtain ⟨h1, h2⟩ := h1
    refine ⟨h1, ?_⟩
    split at h2
    · rename_i oj hoj
      simp only [waitsOn, Array.any_eq_true, Bool.and_eq_true, Bool.or_eq_true, beq_iff_eq] at h2
      obtain ⟨q, hq1, hq2, hq3⟩ := h2
      exact ⟨oj, _, hoj, Array.getElem_mem hq1, hq2, hq3⟩
    · exact absurd h2 (by simp)
  · intro j oj hj hjk hun hns hno
    have hjl : j < ops.size := by
      rcases Nat.lt_or_ge j ops.size with h | h
      · exact h
      · rw [Array.getElem?_eq_none h] at hj; cases hj
    have := hf j hjl
    have hns' : S.contains j = false := by simpa using hns
    simp only [hj, hun, hns', Bool.or_eq_true, beq_iff_eq, Bool.and_eq_true, Bool.false_eq_true, or_false, hjk, false_or] at this
    rcases this with hw | hw
    · simp only [waits, Array.any_eq_true, Bool.and_eq_true, beq_iff_eq] at hw
      obtain ⟨q, hq1, hq2, hq3⟩ := hw
      exact absurd hq3 (hno _ (Array.getElem_mem hq1) hq2)
    · exact hw
/-- A walk as a tree: a step, or a call, that reads at most what is kept, taken out; the one that is next; either of two. -/
inductive Wq where
  | nil
  | still (k : Nat) (r : Wq)
  | call (k : Nat) (r : Wq)
  | next (k : Nat) (r : Wq)
  | two (k1 : Nat) (r1 : Wq) (k2 : Nat) (r2 : Wq)
def Wq.len : Wq → Nat
  | .nil => 0
  | .still _ r => r.len + 1
  | .call _ r => r.len + 1
  | .next _ r => r.len + 1
  | .two _ r1 _ _ => r1.len + 1
def kept (R : AHeap) (K : ASt → Prop) (s : ASt) : Prop := HExt R s.heap ∧ K s
def stillR (P : Program) (ops : Array Oper) (R : AHeap) (k : Nat) (st : ASt) (K : ASt → Prop) : Prop := match ops[k]? with
  | some o => stepC P ops o st.tmps R 0 (stK st.tmps st.heap st.clk o.dst K)
  | none => False
def callR (P : Program) (ops : Array Oper) (R : AHeap) (k : Nat) (st : ASt) (K : ASt → Prop) : Prop := match ops[k]? with
  | some o => qstep P ops o st.tmps R (qputK st o.dst K)
  | none => False
def AOrdR (P : Program) (ops : Array Oper) (Q : Exit → ASt → Prop) (R : AHeap) : Wq → ASt → Prop
  | .nil, st => Q .normal st
  | .still k r, st => stillR P ops R k st (AOrdR P ops Q R r)
  | .call k r, st => callR P ops R k st (AOrdR P ops Q R r)
  | .next k r, st => stepOf P ops k st (kept R (AOrdR P ops Q R r))
  | .two k1 r1 k2 r2, st => stepOf P ops k1 st (kept R (AOrdR P ops Q R r1)) ∧ stepOf P ops k2 st (kept R (AOrdR P ops Q R r2))
def orderOkR (ops : Array Oper) : Wq → Array Bool → Bool
  | .nil, listed => Region.ready .any ops listed == []
  | .still k r, listed => (match ops[k]? with
      | some ok => (Region.ready .any ops listed).contains k && quietOp ok.op && stillOk ops k ok listed
      | none => false) && orderOkR ops r (listed.setIfInBounds k true)
  | .call k r, listed => (match ops[k]? with
      | some ok => (Region.ready .any ops listed).contains k && stillOk ops k ok listed
      | none => false) && orderOkR ops r (listed.setIfInBounds k true)
  | .next k r, listed => Region.ready .any ops listed == [k] && orderOkR ops r (listed.setIfInBounds k true)
  | .two k1 r1 k2 r2, listed => Region.ready .any ops listed == [k1, k2] && r1.len == r2.len && orderOkR ops r1 (listed.setIfInBounds k1 true) && orderOkR ops r2 (listed.setIfInBounds k2 true)
theorem aanyR_of {R : AHeap} : ∀ (t : Wq) (listed : Array Bool) (st : ASt), HExt R st.heap → orderOkR ops t listed = true → AOrdR P ops Q R t st → AAnyR P ops Q R t.len listed st
  | .nil, listed, st, _, ho, h => ⟨by simpa [orderOkR] using ho, h⟩
  | .still k r, listed, st, hR, ho, h => by
    simp only [orderOkR, Bool.and_eq_true] at ho
    obtain ⟨h1, h2⟩ := ho
    unfold AOrdR stillR at h
    split at h1
    · rename_i ok hk
      simp only [hk, Bool.and_eq_true] at h h1
      obtain ⟨x, hx, hqv⟩ := qv_of_step h1.1.2 h
      exact aanyR_stillOk hR hk h1.2 (by simpa using h1.1.1) hqv (aanyR_of r _ _ (by rw [put_heap]; exact hR) h2 hx)
    · cases h1
  | .call k r, listed, st, hR, ho, h => by
    simp only [orderOkR, Bool.and_eq_true] at ho
    obtain ⟨h1, h2⟩ := ho
    unfold AOrdR callR at h
    split at h1
    · rename_i ok hk
      simp only [hk, Bool.and_eq_true] at h h1
      obtain ⟨x, hx, hqv⟩ := qv_of_qstep h
      exact aanyR_stillOk hR hk h1.2 (by simpa using h1.1) hqv (aanyR_of r _ _ (by rw [put_heap]; exact hR) h2 hx)
    · cases h1
  | .next k r, listed, st, hR, ho, h => by
    simp only [orderOkR, Bool.and_eq_true, beq_iff_eq] at ho
    obtain ⟨h1, h2⟩ := ho
    unfold AOrdR at h
    refine ⟨fun he => (by rw [h1] at he; cases he), fun i hi o hoi => ?_⟩
    rw [h1] at hi
    simp at hi
    subst hi
    exact stepOf_mono hoi (fun s hs => ⟨hs.1, aanyR_of r _ s hs.1 h2 hs.2⟩) h
  | .two k1 r1 k2 r2, listed, st, hR, ho, h => by
    simp only [orderOkR, Bool.and_eq_true, beq_iff_eq] at ho
    obtain ⟨⟨⟨h1, h2⟩, h3⟩, h4⟩ := ho
    unfold AOrdR at h
    refine ⟨fun he => (by rw [h1] at he; cases he), fun i hi o hoi => ?_⟩
    rw [h1] at hi
    simp only [List.mem_cons, List.not_mem_nil, or_false] at hi
    rcases hi with rfl | rfl
    · exact stepOf_mono hoi (fun s hs => ⟨hs.1, aanyR_of r1 _ s hs.1 h3 hs.2⟩) h.1
    · exact stepOf_mono hoi (fun s hs => ⟨hs.1, by rw [show r1.len = r2.len from h2]; exact aanyR_of r2 _ s hs.1 h4 hs.2⟩) h.2
/-- A region whose order is open, walked as a tree; the arrays of R are kept by all its steps. -/
theorem codeOk_drawR {id : Nat} {ops : Array Oper} {st : ASt} (R : AHeap) (t : Wq) (hm : P.follows .mixedOrders = true) (hn : t.len = ops.size)
    (ho : orderOkR ops t (Array.replicate ops.size false) = true) (hR : HExt R st.heap) (h : AOrdR P ops Q R t st) : CodeOk P (.region id ops true) Q st := by
  intro ro d _ w0 E0 H0 a w ⟨E, hE⟩
  refine wpIn_region_any hm ?_
  have hA := aanyR_W _ _ _ (aanyR_of t _ st hR ho h)
  rw [hn] at hA
  exact aanyW_sound ro d (ds := a.defers) (fun st' a' w' hq hI hd => ⟨.inr hd, st', hq, hI⟩) ops.size _ st a _ hA ⟨E, hE.drew⟩ rfl
end
/-! What simp knows of it -/
theorem hext_nil (H : AHeap) : HExt [] H := fun k B h => by simp at h
@[simp] theorem hext_nil_iff (H : AHeap) : HExt [] H ↔ True := ⟨fun _ => trivial, fun _ => hext_nil H⟩
@[simp] theorem hext_none (b : Option ABlk) (R H : AHeap) : HExt (none :: R) (b :: H) ↔ HExt R H := by
  constructor
  · intro h k B hB; exact h (k + 1) B (by simpa using hB)
  · intro h k B hB
    cases k with
    | zero => simp at hB
    | succ k => simpa using h k B (by simpa using hB)
@[simp] theorem hext_some (B : ABlk) (b : Option ABlk) (R H : AHeap) : HExt (some B :: R) (b :: H) ↔ b = some B ∧ HExt R H := by
  constructor
  · intro h; exact ⟨by simpa using h 0 B rfl, fun k B' hB => h (k + 1) B' (by simpa using hB)⟩
  · rintro ⟨rfl, h⟩ k B' hB
    cases k with
    | zero => simpa using hB
    | succ k => simpa using h k B' (by simpa using hB)
section
variable {P : Program} {Q : Exit → ASt → Prop} {st : ASt} {ops : Array Oper} {R : AHeap} {tmps : List AV} {H : AHeap} {c : Nat}
@[simp] theorem kept_iff (K : ASt → Prop) : kept R K ⟨tmps, H, c⟩ = (HExt R H ∧ K ⟨tmps, H, c⟩) := propext Iff.rfl
@[simp] theorem AOrdR_nil : AOrdR P ops Q R .nil st = Q .normal st := propext Iff.rfl
@[simp] theorem AOrdR_still (k : Nat) (r : Wq) : AOrdR P ops Q R (.still k r) st = stillR P ops R k st (AOrdR P ops Q R r) := propext Iff.rfl
@[simp] theorem AOrdR_call (k : Nat) (r : Wq) : AOrdR P ops Q R (.call k r) st = callR P ops R k st (AOrdR P ops Q R r) := propext Iff.rfl
@[simp] theorem AOrdR_next (k : Nat) (r : Wq) : AOrdR P ops Q R (.next k r) st = stepOf P ops k st (kept R (AOrdR P ops Q R r)) := propext Iff.rfl
@[simp] theorem AOrdR_two (k1 k2 : Nat) (r1 r2 : Wq) : AOrdR P ops Q R (.two k1 r1 k2 r2) st = (stepOf P ops k1 st (kept R (AOrdR P ops Q R r1)) ∧ stepOf P ops k2 st (kept R (AOrdR P ops Q R r2))) := propext Iff.rfl
def qRK (tmps : List AV) (dst : Option Tmp) (H : AHeap) (c : Nat) (K : ASt → Prop) : AV → Prop := fun v => K (ASt.put ⟨tmps, H, c⟩ dst v)
def stillRO (P : Program) (ops : Array Oper) (R : AHeap) (st : ASt) (K : ASt → Prop) : Option Oper → Prop
  | some o => stepC P ops o st.tmps R 0 (stK st.tmps st.heap st.clk o.dst K)
  | none => False
def callRO (P : Program) (ops : Array Oper) (R : AHeap) (st : ASt) (K : ASt → Prop) : Option Oper → Prop
  | some o => qstep P ops o st.tmps R (qputK st o.dst K)
  | none => False
@[simp] theorem stillR_get (k : Nat) (K : ASt → Prop) : stillR P ops R k st K = stillRO P ops R st K ops[k]? := by unfold stillR stillRO; split <;> simp_all
@[simp] theorem callR_get (k : Nat) (K : ASt → Prop) : callR P ops R k st K = callRO P ops R st K ops[k]? := by unfold callR callRO; split <;> simp_all
@[simp] theorem stillRO_some (K : ASt → Prop) (dst : Option Tmp) (op : Op) (t : TypeId) (pos : String) (after : Array Edge) :
    stillRO P ops R ⟨tmps, H, c⟩ K (some ⟨dst, op, t, pos, after, none⟩) = acoreX P op (evA tmps) R 0 (wsSK tmps dst H c K) := propext Iff.rfl
@[simp] theorem callRO_some (K : ASt → Prop) (dst : Option Tmp) (op : Op) (t : TypeId) (pos : String) (after : Array Edge) :
    callRO P ops R ⟨tmps, H, c⟩ K (some ⟨dst, op, t, pos, after, none⟩) = qcore P op (evA tmps) R (qRK tmps dst H c K) := propext Iff.rfl
@[simp] theorem qRK_some (d : Tmp) (v : AV) (K : ASt → Prop) : qRK tmps (some d) H c K v = K ⟨tmps.set d v, H, c⟩ := propext Iff.rfl
@[simp] theorem qRK_none (v : AV) (K : ASt → Prop) : qRK tmps none H c K v = K ⟨tmps, H, c⟩ := propext Iff.rfl
@[congr] theorem qRK_congr (tmps : List AV) (dst : Option Tmp) (H : AHeap) (c : Nat) (K : ASt → Prop) : qRK tmps dst H c K = qRK tmps dst H c K := rfl
@[congr] theorem kept_congr (R : AHeap) (K : ASt → Prop) (s : ASt) : kept R K s = kept R K s := rfl
@[congr] theorem AOrdR_congr (P : Program) (ops : Array Oper) (Q : Exit → ASt → Prop) (R : AHeap) (t : Wq) (st st' : ASt) (h : st = st') : AOrdR P ops Q R t st = AOrdR P ops Q R t st' := by rw [h]
@[congr] theorem stillRO_congr (P : Program) (ops : Array Oper) (R : AHeap) (st : ASt) (K : ASt → Prop) {o o' : Option Oper} (h : o = o') : stillRO P ops R st K o = stillRO P ops R st K o' := by rw [h]
@[congr] theorem callRO_congr (P : Program) (ops : Array Oper) (R : AHeap) (st : ASt) (K : ASt → Prop) {o o' : Option Oper} (h : o = o') : callRO P ops R st K o = callRO P ops R st K o' := by rw [h]
end
end Go.Abs
namespace Go.Abs
set_option linter.unusedSimpArgs false
set_option linter.unusedVariables false
set_option linter.unnecessarySimpa false
open Go
section
variable {P : Program}
/-- A call that writes several arrays: what else it made is forgotten. -/
def TPostS (m : Nat) (p : AV → List ABlk → AHeap → Prop) (r : AV) (H : AHeap) (_ : Nat) : Prop := ∃ Bs' Hn, H = Bs'.map some ++ Hn ∧ Bs'.length = m ∧ p r Bs' []
theorem rcallS_take {f : FuncId} {args : List AV} {Bs : List ABlk} {p : AV → List ABlk → AHeap → Prop} (h : ∀ clk, ACall P f args (Bs.map some) clk (TPostS Bs.length p)) : RCallS P f args Bs p := by
  intro clk w E vals hclk hsim hrel
  refine (h clk w E vals hclk hsim hrel).mono fun e w' => ?_
  rintro ⟨v, r, H', E', rfl, hle, hsim', hr, hfrm, hlive, hI0, Bs', Hn, rfl, hm, hp⟩
  have htake : ∀ {α : Type} {l : List α} {k : Nat} {x : α}, (l.take Bs'.length)[k]? = some x → l[k]? = some x := by
    intro α l k x hx
    rw [List.getElem?_take] at hx
    split at hx
    · exact hx
    · cases hx
  have hat : ∀ {k : Nat} {B : ABlk}, (Bs'.map some : AHeap)[k]? = some (some B) → (Bs'.map some ++ Hn)[k]? = some (some B) ∧ k < Bs'.length := by
    intro k B hB
    have hl : k < (Bs'.map some : AHeap).length := (List.getElem?_eq_some_iff.1 hB).1
    exact ⟨by rw [List.getElem?_append_left hl]; exact hB, by simpa using hl⟩
  have hle1 : Env.Le w' E' w' ⟨E'.I, E'.β.take Bs'.length, E'.clk⟩ := ⟨fun b hb => ⟨hb, rfl⟩, Nat.le_refl _, fun k i' hi => .inl (htake hi)⟩
  refine ⟨v, r, Bs'.map some, ⟨E'.I, E'.β.take Bs'.length, E'.clk⟩, rfl, hle.trans hle1, ⟨?_, fun k i hi => hsim'.gens k i (htake hi), hsim'.I, ?_, ?_, hsim'.glob⟩, hr.mono hle1, hfrm, ?_, hI0, Bs', [], by simp, hm, hp⟩
  · have := hsim'.len; simp at this; simp; omega
  · intro k B1 hB1
    obtain ⟨hB, hk⟩ := hat hB1
    obtain ⟨i, hi, hok⟩ := hsim'.blk k B1 hB
    exact ⟨i, by rw [List.getElem?_take, if_pos hk]; exact hi, hok.mono_same hle1 (fun _ _ hI => hI) (fun _ _ => rfl)⟩
  · intro k k' B1 B2 i i' b h1 h2 h3 h4
    exact hsim'.apart k k' B1 B2 i i' b (hat h1).1 (hat h2).1 (htake h3) (htake h4)
  · rintro b ⟨k, B1, i, h1, h2, h3⟩
    exact hlive b ⟨k, B1, i, (hat h1).1, htake h2, h3⟩
/-- A call that writes one array; which arrays of its own the answer keeps is said at the end. -/
def EPostR (p : AV → ABlk → AHeap → Prop) (r : AV) (H : AHeap) (c : Nat) : Prop := ∃ σ0 τ, GPostR (0 :: σ0) τ (fun r H => ∃ B' Hn, H = some B' :: Hn ∧ p r B' Hn) r H c
theorem rcall_gatherE {P : Program} {f : FuncId} {args : List AV} {B : ABlk} {p : AV → ABlk → AHeap → Prop} (h : ∀ clk, ACall P f args [some B] clk (EPostR p)) : RCall P f args B p := by
  intro clk w E vals hclk hsim hrel
  refine (h clk w E vals hclk hsim hrel).mono fun e w' => ?_
  rintro ⟨v, r, H', E', rfl, hle, hsim', hr, hfrm, hlive, hI0, σ0, τ, hren, hblk, hnd, hpost⟩
  have hE1 : E.β.length = 1 := by simpa using hsim.len
  generalize hσ : 0 :: σ0 = σ at hren hnd hblk hpost
  have hσ0 : σ[0]? = some 0 := by rw [← hσ]; rfl
  have hall : ∀ i ∈ σ, ∃ b, E'.β[i]? = some b := fun i hi => by
    obtain ⟨B, hB, _⟩ := hblk i hi
    obtain ⟨b, hb, _⟩ := hsim'.blk i B hB
    exact ⟨b, hb⟩
  let bi : Nat → BI := fun i => E'.β.getD i ⟨0, none, 0, 0, 0⟩
  have hbi : ∀ i ∈ σ, E'.β[i]? = some (bi i) := fun i hi => by
    obtain ⟨b, hb⟩ := hall i hi
    simp [bi, List.getD_eq_getElem?_getD, hb]
  let E2 : Env := ⟨E'.I, σ.map bi, E'.clk⟩
  have hβ : ∀ (j : Nat) (i : BI), E2.β[j]? = some i → E'.β[sig σ j]? = some i := fun j i hj => by
    simp only [E2, List.getElem?_map] at hj
    cases hs : σ[j]? with
    | none => simp [hs] at hj
    | some q =>
      simp [hs] at hj
      have : sig σ j = q := by simp [sig, List.getD_eq_getElem?_getD, hs]
      rw [this, hbi q (List.mem_of_getElem? hs), hj]
  have hle2 : Env.Le w E w' E2 := ⟨hle.I, hle.clk, fun j i hi => by
    rcases hle.β _ i (hβ j i hi) with h | h
    · left
      have hq : sig σ j < E.β.length := (List.getElem?_eq_some_iff.1 h).1
      have hj : j < σ.length := by
        have := (List.getElem?_eq_some_iff.1 hi).1
        simpa [E2] using this
      have hs : σ[j]? = some (sig σ j) := by simp [sig, List.getD_eq_getElem?_getD, hj]
      have h0 : sig σ j = 0 := by omega
      have hj0 : j = 0 := (List.getElem?_inj hj hnd).1 (by rw [hs, h0, hσ0])
      rw [hj0]
      rwa [h0] at h
    · exact .inr h⟩
  have hle3 : Env.Le w' E' w' ⟨E'.I, E'.β, E'.clk⟩ := Env.Le.refl _ _
  have atG : ∀ (j : Nat) (B : ABlk), (gat σ τ H')[j]? = some (some B) → ∃ q B0, σ[j]? = some q ∧ H'[q]? = some (some B0) ∧ B = B0.ren τ ∧ (B0.ren τ).ren (sig σ) = B0 := fun j B hB => by
    simp only [gat, List.getElem?_map] at hB
    cases hs : σ[j]? with
    | none => simp [hs] at hB
    | some q =>
      obtain ⟨B0, hB0, hr0⟩ := hblk q (List.mem_of_getElem? hs)
      simp [hs, hB0] at hB
      exact ⟨q, B0, rfl, hB0, hB.symm, hr0⟩
  have hβq : ∀ (j q : Nat) (i : BI), σ[j]? = some q → E2.β[j]? = some i → E'.β[q]? = some i := fun j q i hs hi => by
    have := hβ j i hi
    simpa [sig, List.getD_eq_getElem?_getD, hs] using this
  refine ⟨v, r.ren τ, gat σ τ H', E2, rfl, hle2, ⟨by simp [E2, gat], ?_, hsim'.I, ?_, ?_, hsim'.glob⟩, ?_, hfrm, ?_, hI0, hpost⟩
  · intro j i hi
    exact hsim'.gens _ i (hβ j i hi)
  · intro j B hB
    obtain ⟨q, B0, hs, hB0, rfl, hr0⟩ := atG j B hB
    obtain ⟨i, hi, hok⟩ := hsim'.blk q B0 hB0
    have hij : E2.β[j]? = some i := by
      simp only [E2, List.getElem?_map, hs]
      have := hbi q (List.mem_of_getElem? hs)
      rw [hi] at this
      simpa using this.symm
    refine ⟨i, hij, hok.1, hok.2.1, hok.2.2.1, hok.2.2.2.1, ?_⟩
    obtain ⟨_, _, _, _, h5⟩ := hok
    cases hb : i.blk with
    | none => rw [hb] at h5; exact ⟨by simp [ABlk.ren, h5.1], h5.2⟩
    | some b =>
      rw [hb] at h5
      obtain ⟨hn, ⟨C, hC, hl, hlc, hrl⟩ | hm⟩ := h5
      · refine ⟨hn, .inl ⟨C, hC, hl, by simpa [ABlk.ren] using hlc, ?_⟩⟩
        have hcs : (B0.ren τ).cells.map (AC.ren (sig σ)) = B0.cells := congrArg ABlk.cells hr0
        have hlen : (B0.ren τ).cells.length = B0.cells.length := by simp [ABlk.ren]
        rw [hlen]
        rw [← hcs] at hrl
        have := unren_rels (E := E') (E' := E2) rfl rfl hβ hrl
        simpa [hlen] using this
      · exact ⟨hn, .inr hm.ren⟩
  · intro j j' B B' i i' b hB hB' hi hi' hb hb'
    obtain ⟨q, B0, hs, hB0, _, _⟩ := atG j B hB
    obtain ⟨q', B0', hs', hB0', _, _⟩ := atG j' B' hB'
    have hq := hsim'.apart q q' B0 B0' i i' b hB0 hB0' (hβq j q i hs hi) (hβq j' q' i' hs' hi') hb hb'
    subst hq
    have hjl : j < σ.length := (List.getElem?_eq_some_iff.1 hs).1
    exact (List.getElem?_inj hjl hnd).1 (hs.trans hs'.symm)
  · have h1 : RelV w' E' ((r.ren τ).ren (sig σ)) v := by rw [hren]; exact hr
    exact unren_relV (E := E') (E' := E2) rfl rfl hβ h1
  · rintro b ⟨j, B, i, hB, hi, hb⟩
    obtain ⟨q, B0, hs, hB0, _, _⟩ := atG j B hB
    exact hlive b ⟨q, B0, i, hB0, hβq j q i hs hi, hb⟩

/-- Less may be known: slots and arrays forgotten. -/
theorem codeOk_weak {c : Code} {Q : Exit → ASt → Prop} {st : ASt} (mask : List Bool) {H' : AHeap} (hw : WkH st.heap H') (h : CodeOk P c Q ⟨keepA mask st.tmps, H', st.clk⟩) : CodeOk P c Q st := by
  intro ro n hr w0 E0 H0 a w ⟨E, hE⟩
  exact h ro n hr w0 E0 H0 a w ⟨_, hE.weak mask hw⟩
/-- It goes on, and then I holds of what is kept. -/
def nrmW (mask : List Bool) (I : ASt → Prop) (e : Exit) (s : ASt) : Prop := e = .normal ∧ ∃ H', WkH s.heap H' ∧ I ⟨keepA mask s.tmps, H', s.clk⟩
@[simp] theorem nrmW_iff (mask : List Bool) (I : ASt → Prop) (tmps : List AV) (H : AHeap) (c : Nat) : nrmW mask I .normal ⟨tmps, H, c⟩ ↔ ∃ H', WkH H H' ∧ I ⟨keepA mask tmps, H', c⟩ := by simp [nrmW]
@[congr] theorem nrmW_congr (mask : List Bool) (I : ASt → Prop) (e : Exit) {s s' : ASt} (h : s = s') : nrmW mask I e s = nrmW mask I e s' := by rw [h]
variable {a b c d : Code} {Q : Exit → ASt → Prop} {st : ASt}
theorem nrmW_go {mask : List Bool} {I : ASt → Prop} (h2 : ∀ s, I s → CodeOk P d Q s) {e : Exit} {s : ASt} (h : nrmW mask I e s) : AExit.then (CodeOk P d Q) Q e s := by
  obtain ⟨rfl, H', hw, hI⟩ := h
  exact codeOk_weak mask hw (h2 _ hI)
theorem codeOk_cut (mask : List Bool) (I : ASt → Prop) (h1 : CodeOk P a (nrmW mask I) st) (h2 : ∀ s, I s → CodeOk P d Q s) : CodeOk P (.seq a d) Q st :=
  codeOk_seq (CodeOk.mono h1 fun e s hq => nrmW_go h2 hq)
theorem codeOk_cut2 (mask : List Bool) (I : ASt → Prop) (h1 : AW P (.seq a b) (nrmW mask I) st) (h2 : ∀ s, I s → CodeOk P d Q s) : CodeOk P (.seq a (.seq b d)) Q st :=
  codeOk_seq (CodeOk.mono (aw_sound a _ st h1) fun e s hq => by
    cases e with
    | normal => exact codeOk_cut mask I (aw_sound b _ s hq) h2
    | _ => exact absurd hq.1 (by simp))
theorem codeOk_cut3 (mask : List Bool) (I : ASt → Prop) (h1 : AW P (.seq a (.seq b c)) (nrmW mask I) st) (h2 : ∀ s, I s → CodeOk P d Q s) : CodeOk P (.seq a (.seq b (.seq c d))) Q st :=
  codeOk_seq (CodeOk.mono (aw_sound a _ st h1) fun e s hq => by
    cases e with
    | normal => exact codeOk_cut2 mask I hq h2
    | _ => exact absurd hq.1 (by simp))
end
end Go.Abs
namespace Go.Abs
set_option linter.unusedSimpArgs false
set_option linter.unusedVariables false
set_option linter.unnecessarySimpa false
open Go
/-- Array j becomes data, also where other arrays speak of it. -/
def frzB (H : AHeap) (j : Nat) (B : ABlk) : ABlk := { B with cells := B.cells.map (frzC H j) }
theorem codeOk_freezeB {P : Program} {c : Code} {Q : Exit → ASt → Prop} {T : List AV} {H : AHeap} {clk : Nat} (j : Nat) (h : CodeOk P c Q ⟨T.map (frzV H j), (H.map (Option.map (frzB H j))).set j none, clk⟩) : CodeOk P c Q ⟨T, H, clk⟩ := by
  intro ro n hr w0 E0 H0 a w ⟨E, hE⟩
  let B1 : Nat → Prop := fun b => ∃ (B : ABlk) (i : BI), H[j]? = some (some B) ∧ E.β[j]? = some i ∧ i.blk = some b
  let E1 : Env := ⟨fun b => E.I b ∨ B1 b, E.β, E.clk⟩
  have hsim : SimH w E H := hE.sim
  have hle1 : Env.Le w E w E1 := ⟨fun b hb => ⟨.inl hb, rfl⟩, Nat.le_refl _, fun k i' hi => .inl hi⟩
  have hset : ∀ (k : Nat) (B' : ABlk), ((H.map (Option.map (frzB H j))).set j none)[k]? = some (some B') → k ≠ j ∧ ∃ B, H[k]? = some (some B) ∧ B' = frzB H j B := fun k B' hB => by
    rw [List.getElem?_set] at hB
    split at hB
    · split at hB <;> simp at hB
    · rename_i hne
      rw [List.getElem?_map] at hB
      cases hk : H[k]? with
      | none => simp [hk] at hB
      | some b =>
        cases b with
        | none => simp [hk] at hB
        | some B => simp [hk] at hB; exact ⟨fun e => hne e.symm, B, rfl, hB.symm⟩
  have hlive1 : ∀ b, B1 b → LiveB E H b := fun b ⟨B, i, h1, h2, h3⟩ => ⟨j, B, i, h1, h2, h3⟩
  have hlt1 : ∀ b, B1 b → b < w.heap.size := fun b hb => live_lt (st := ⟨[], H, 0⟩) hsim (hlive1 b hb)
  have hcell : ∀ {c : AC} {v : Value}, RelC w E c v → RelC w E1 (frzC H j c) v := fun {c v} hr => by
    unfold frzC
    split
    · rename_i hj
      split
      · rename_i d hd; exact snap1_one hsim hj hd hr
      · exact hr.mono hle1
    · exact hr.mono hle1
  have hsim1 : SimH w E1 ((H.map (Option.map (frzB H j))).set j none) := by
    refine ⟨by simp [E1, hsim.len], hsim.gens, ?_, ?_, ?_, fun g cs hg => (hsim.glob g cs hg).mono hle1.I⟩
    · rintro b (hb | hb)
      · exact hsim.I b hb
      · exact hlt1 b hb
    · intro k B' hB
      obtain ⟨hkj, B, hB', rfl⟩ := hset k B' hB
      obtain ⟨i, hi, h1, h2, h3, h4, h5⟩ := hsim.blk k B hB'
      refine ⟨i, hi, h1, h2, h3, h4, ?_⟩
      cases hb : i.blk with
      | none =>
        rw [hb] at h5
        exact ⟨by simp [frzB, h5.1], h5.2⟩
      | some b =>
        rw [hb] at h5
        obtain ⟨hn, hor⟩ := h5
        have hn1 : ¬ E1.I b := by
          rintro (hI | ⟨B', i', g1, g2, g3⟩)
          · exact hn hI
          · exact absurd (hsim.apart k j B B' i i' b hB' g1 hi g2 hb g3) hkj
        rcases hor with ⟨C, hC, hCl, hBl, hrel⟩ | ⟨hz0, es, cc, hcs, hm⟩
        · refine ⟨hn1, .inl ⟨C, hC, hCl, by simpa [frzB] using hBl, by simpa [frzB] using hrel.1, fun q c v hq hv => ?_⟩⟩
          simp only [frzB, List.getElem?_map, List.length_map] at hq hv
          cases hc : B.cells[q]? with
          | none => simp [hc] at hq
          | some c0 =>
            simp [hc] at hq; subst hq
            obtain ⟨g1, g2⟩ := hrel.2 q c0 v hc hv
            exact ⟨g1, hcell g2⟩
        · exact ⟨hn1, .inr ⟨hz0, es, cc, by simp [frzB, hcs, frzC, ofJ], hm⟩⟩
    · intro k k' B B' i i' b hB hB' hi hi' hb hb'
      obtain ⟨_, B2, hB2, _⟩ := hset k B hB
      obtain ⟨_, B3, hB3, _⟩ := hset k' B' hB'
      exact hsim.apart k k' B2 B3 i i' b hB2 hB3 hi hi' hb hb'
  refine h ro n hr w0 E0 H0 a w ⟨E1, hE.dfr.mono hle1, hE.le.trans hle1, hE.clk, hsim1, ⟨by simpa using hE.rel.1, fun q x v hx hv => ?_⟩, hE.frm, ?_, ?_⟩
  · rw [List.getElem?_map] at hx
    cases ht : T[q]? with
    | none => simp [ht] at hx
    | some y =>
      simp [ht] at hx; subst hx
      have hr := hE.rel.2 q y v ht hv
      cases y with
      | one c => exact hcell (c := c) hr
      | agg cs => exact hr.mono hle1
      | tup vs => exact hr.mono hle1
  · rintro b ⟨k, B, i, h1, h2, h3⟩
    obtain ⟨_, B2, hB2, _⟩ := hset k B h1
    exact hE.live b ⟨k, B2, i, hB2, h2, h3⟩
  · rintro b hb (hI | hb1)
    · exact hE.I0 b hb hI
    · rcases hE.live b (hlive1 b hb1) with h1 | h1
      · exact .inr h1
      · omega
/-- The nil slice read as a slice of nothing. -/
def nil0 : AC → AC
  | .d .nil => .d (.list 0 [])
  | c => c
theorem nil0_rel {w : World} {E : Env} {c : AC} {v : Value} (h : RelC w E c v) : RelC w E (nil0 c) v := by
  cases c with
  | d c =>
    cases c with
    | nil =>
      have h1 : RelD w E.I .nil v := h
      cases h1
      exact RelD.list (fun _ => undef) (fun h => absurd rfl h) (fun j h => absurd h (by simp)) (Nat.le_refl _) (Nat.zero_le _)
    | _ => exact h
  | _ => exact h
def nilB (B : ABlk) : ABlk := { B with cells := B.cells.map nil0 }
theorem codeOk_nil0 {P : Program} {c : Code} {Q : Exit → ASt → Prop} {T : List AV} {H : AHeap} {clk : Nat} (h : CodeOk P c Q ⟨T, H.map (Option.map nilB), clk⟩) : CodeOk P c Q ⟨T, H, clk⟩ := by
  have old : ∀ {k : Nat} {B' : ABlk}, (H.map (Option.map nilB))[k]? = some (some B') → ∃ B, H[k]? = some (some B) ∧ B' = nilB B := by
    intro k B' hB
    rw [List.getElem?_map] at hB
    cases hk : H[k]? with
    | none => simp [hk] at hB
    | some b =>
      cases b with
      | none => simp [hk] at hB
      | some B => simp [hk] at hB; exact ⟨B, rfl, hB.symm⟩
  intro ro n hr w0 E0 H0 a w ⟨E, hE⟩
  have hs : SimH w E H := hE.sim
  refine h ro n hr w0 E0 H0 a w ⟨E, hE.dfr, hE.le, hE.clk, ⟨by simp [hs.len], hs.gens, hs.I, ?_, ?_, hs.glob⟩, hE.rel, hE.frm, ?_, hE.I0⟩
  · intro k B' hB'
    obtain ⟨B, hB, rfl⟩ := old hB'
    obtain ⟨i, hi, h1, h2, h3, h4, h5⟩ := hs.blk k B hB
    refine ⟨i, hi, h1, h2, h3, h4, ?_⟩
    cases hb : i.blk with
    | none =>
      rw [hb] at h5
      exact ⟨by simp [nilB, h5.1], h5.2⟩
    | some b =>
      rw [hb] at h5
      obtain ⟨hn, ⟨C, hC, hCl, hBl, hrel⟩ | ⟨hz0, es, cc, hcs, hm⟩⟩ := h5
      rotate_left
      · exact ⟨hn, .inr ⟨hz0, es, cc, by simp [nilB, hcs, nil0], hm⟩⟩
      refine ⟨hn, .inl ⟨C, hC, hCl, by simpa [nilB] using hBl, by simpa [nilB] using hrel.1, fun j c v hj hv => ?_⟩⟩
      simp only [nilB, List.getElem?_map, List.length_map] at hj hv
      cases hc : B.cells[j]? with
      | none => simp [hc] at hj
      | some c0 =>
        simp [hc] at hj; subst hj
        obtain ⟨g1, g2⟩ := hrel.2 j c0 v hc hv
        exact ⟨g1, nil0_rel g2⟩
  · intro k k' B B' i i' b hB hB' hi hi' hb hb'
    obtain ⟨B1, hB1, _⟩ := old hB
    obtain ⟨B2, hB2, _⟩ := old hB'
    exact hs.apart k k' B1 B2 i i' b hB1 hB2 hi hi' hb hb'
  · rintro b ⟨k, B, i, hB, hi, hb⟩
    obtain ⟨B1, hB1, _⟩ := old hB
    exact hE.live b ⟨k, B1, i, hB1, hi, hb⟩
/-- A call with data that answers some data. -/
theorem acall_dataE {P : Program} {f : FuncId} {args : List AV} {p : AV → Prop} {H : AHeap} {clk : Nat} {K : AV → AHeap → Nat → Prop} (hc : ∀ clk, ACall P f args [] clk fun r _ _ => p r) (ha : args.all dataV = true) (hx : ∀ r, p r → dataV r = true ∨ ∃ vs, r = .tup vs ∧ vs.all dataV = true) (hK : ∀ r, p r → K r H clk) : ACall P f args H clk K := by
  intro w E vals hclk hsim hargs
  have hrel : RelVs w ⟨E.I, [], E.clk⟩ args vals := ⟨hargs.1, fun j y v hy hv => RelV.data (E := E) (List.all_eq_true.1 ha y (List.mem_of_getElem? hy)) (fun b hb => ⟨hb, rfl⟩) (hargs.2 j y v hy hv)⟩
  refine (hc E.clk w ⟨E.I, [], E.clk⟩ vals rfl ⟨rfl, fun k i hi => by simp at hi, hsim.I, fun k B hB => by simp at hB, fun k k' B B' i i' b hB => by simp at hB, hsim.glob⟩ hrel).mono fun e w' => ?_
  rintro ⟨v, r, Hn, E', rfl, hle, hsim', hr, hfrm, hlive, hI0, hp⟩
  have hnot : ∀ b, ¬ LiveB (⟨E.I, [], E.clk⟩ : Env) [] b := fun b ⟨k, B, i, h, _⟩ => by simp at h
  have hold : ∀ b, b < w.heap.size → w'.heap[b]? = w.heap[b]? := fun b hb => hfrm.block b hb (hnot b)
  let E2 : Env := ⟨E'.I, E.β, E.clk⟩
  have hle2 : Env.Le w E w' E2 := ⟨fun b hb => ⟨(hle.I b hb).1, hold b (hsim.I b hb)⟩, Nat.le_refl _, fun k i' hi => .inl hi⟩
  have hrr : RelV w' E2 r v := by
    rcases hx r hp with h | ⟨vs, rfl, h⟩
    · exact RelV.data (E := E') h (fun b hb => ⟨hb, rfl⟩) hr
    · exact RelV.tupData (E := E') h (fun b hb => hb) hr
  refine ⟨v, r, H, E2, rfl, hle2, ⟨hsim.len, hsim.gens, hsim'.I, ?_, hsim.apart, hsim'.glob⟩, hrr, ⟨hfrm.os, hfrm.tape, hfrm.output, hfrm.size, fun b hb _ => hold b hb⟩, fun b hb => .inl hb, ?_, by rw [show E2.clk = clk from hclk]; exact hK r hp⟩
  · intro k B hB
    obtain ⟨i, hi, hok⟩ := hsim.blk k B hB
    exact ⟨i, hi, hok.mono_same hle2 (fun b hb hI => (hI0 b (hok.lt hb) hI).resolve_right (hnot b)) (fun b hb => hold b (hok.lt hb))⟩
  · exact fun b hb hI => .inl ((hI0 b hb hI).resolve_right (hnot b))
end Go.Abs
