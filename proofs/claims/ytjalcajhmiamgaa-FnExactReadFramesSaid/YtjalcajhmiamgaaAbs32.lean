/-
  States known less well: loops whose rounds leave arrays behind that nobody asks for. No program's text.
-/
import Derived.Test.YtjalcajhmiamgaaAbs31
namespace Go.Abs
set_option linter.unusedSimpArgs false
set_option linter.unusedVariables false
set_option linter.unnecessarySimpa false
open Go
/-- Of an array less is known, or nothing. -/
def WkB (b b' : Option ABlk) : Prop := match b' with
  | none => True
  | some B' => ∃ B, b = some B ∧ B'.gen = B.gen ∧ B'.elem = B.elem ∧ B'.size = B.size ∧ B'.cells.length ≤ B.cells.length ∧ (B.size = 0 → B'.cells = B.cells) ∧ ∀ (j : Nat) (c : AC), B'.cells[j]? = some c → c = .any ∨ B.cells[j]? = some c
def WkH (H H' : AHeap) : Prop := H'.length ≤ H.length ∧ ∀ (k : Nat) (b b' : Option ABlk), H[k]? = some b → H'[k]? = some b' → WkB b b'
@[simp] theorem WkH_nil (H : AHeap) : WkH H [] := ⟨by simp, by simp⟩
@[simp] theorem WkH_cons (b b' : Option ABlk) (H H' : AHeap) : WkH (b :: H) (b' :: H') ↔ WkB b b' ∧ WkH H H' := by
  constructor
  · rintro ⟨h1, h2⟩
    exact ⟨h2 0 b b' rfl rfl, by simpa using h1, fun k x y hx hy => h2 (k + 1) x y (by simpa using hx) (by simpa using hy)⟩
  · rintro ⟨h1, h2, h3⟩
    refine ⟨by simpa using h2, fun k x y hx hy => ?_⟩
    cases k with
    | zero => simp at hx hy; subst hx hy; exact h1
    | succ k => exact h3 k x y (by simpa using hx) (by simpa using hy)
@[simp] theorem WkB_none (b : Option ABlk) : WkB b none := trivial
@[simp] theorem WkB_refl (b : Option ABlk) : WkB b b := by
  cases b with
  | none => trivial
  | some B => exact ⟨B, rfl, rfl, rfl, rfl, Nat.le_refl _, fun _ => rfl, fun j c h => .inr h⟩
theorem WkB_cells {g e s : Nat} {cs cs' : List AC} (hs : s ≠ 0) (hl : cs'.length ≤ cs.length) (h : ∀ (j : Nat) (c : AC), cs'[j]? = some c → c = .any ∨ cs[j]? = some c) : WkB (some ⟨g, e, s, cs⟩) (some ⟨g, e, s, cs'⟩) :=
  ⟨_, rfl, rfl, rfl, rfl, hl, fun e => absurd e hs, h⟩
theorem WkB_any {g e s n : Nat} {cs : List AC} (hs : s ≠ 0) (hl : n ≤ cs.length) : WkB (some ⟨g, e, s, cs⟩) (some ⟨g, e, s, List.replicate n .any⟩) :=
  WkB_cells hs (by simpa using hl) fun j c h => .inl (by rw [List.getElem?_replicate] at h; split at h <;> simp_all)
section
variable {P : Program} {w0 w : World} {E0 E : Env} {H0 : AHeap} {st : ASt} {a : Act} {o : Oper}
theorem InvE.weak (h : InvE w0 E0 H0 st a w E) (mask : List Bool) {H' : AHeap} (hw : WkH st.heap H') : InvE w0 E0 H0 ⟨keepA mask st.tmps, H', st.clk⟩ a w ⟨E.I, E.β.take H'.length, E.clk⟩ := by
  have htake : ∀ {α : Type} {l : List α} {k m : Nat} {x : α}, (l.take m)[k]? = some x → l[k]? = some x := by
    intro α l k m x hx
    rw [List.getElem?_take] at hx
    split at hx
    · exact hx
    · cases hx
  have hle : Env.Le w E w ⟨E.I, E.β.take H'.length, E.clk⟩ := ⟨fun b hb => ⟨hb, rfl⟩, Nat.le_refl _, fun k i' hi => .inl (htake hi)⟩
  have old : ∀ {k : Nat} {B' : ABlk}, H'[k]? = some (some B') → ∃ B, st.heap[k]? = some (some B) ∧ B'.gen = B.gen ∧ B'.elem = B.elem ∧ B'.size = B.size ∧ B'.cells.length ≤ B.cells.length ∧ (B.size = 0 → B'.cells = B.cells) ∧ ∀ (j : Nat) (c : AC), B'.cells[j]? = some c → c = .any ∨ B.cells[j]? = some c := by
    intro k B' hB
    have hk : k < st.heap.length := Nat.lt_of_lt_of_le (List.getElem?_eq_some_iff.1 hB).1 hw.1
    obtain ⟨B, hb, hr⟩ := hw.2 k _ _ (List.getElem?_eq_getElem hk) hB
    exact ⟨B, by rw [List.getElem?_eq_getElem hk, hb], hr⟩
  refine ⟨h.dfr, h.le.trans hle, h.clk, ⟨by simp [h.sim.len]; exact Nat.min_eq_left hw.1, fun k i hi => h.sim.gens k i (htake hi), h.sim.I, ?_, ?_, fun g cs hg => (h.sim.glob g cs hg).mono hle.I⟩, ⟨by simp [length_keepA, h.rel.1], ?_⟩, h.frm, ?_, h.I0⟩
  · intro k B' hB'
    obtain ⟨B, hB, e1, e2, e3, hl, hz, hc⟩ := old hB'
    obtain ⟨i, hi, hok⟩ := h.sim.blk k B hB
    have hk : k < H'.length := (List.getElem?_eq_some_iff.1 hB').1
    refine ⟨i, by simp only; rw [List.getElem?_take, if_pos hk]; exact hi, ?_⟩
    obtain ⟨h1, h2, h3, h4, h5⟩ := hok.mono_same hle (fun _ _ hI => hI) (fun _ _ => rfl)
    refine ⟨h1.trans e1.symm, h2.trans e2.symm, h3.trans e3.symm, h4, ?_⟩
    cases hb : i.blk with
    | none =>
      rw [hb] at h5
      refine ⟨?_, h5.2⟩
      have : B'.cells.length = 0 := by have := h5.1; rw [this] at hl; simpa using hl
      exact List.eq_nil_of_length_eq_zero this
    | some b =>
      rw [hb] at h5
      obtain ⟨hn, ⟨C, hC, hCl, hBl, hrel⟩ | ⟨hz0, es, cc, hcs, hm⟩⟩ := h5
      rotate_left
      · exact ⟨hn, .inr ⟨e3.trans hz0, es, cc, (hz hz0).trans hcs, hm⟩⟩
      refine ⟨hn, .inl ⟨C, hC, hCl, by omega, by simp; omega, fun j c v hj hv => ?_⟩⟩
      have hjl : j < B'.cells.length := (List.getElem?_eq_some_iff.1 hj).1
      have hv' : (C.take B.cells.length)[j]? = some v := by
        rw [List.getElem?_take, if_pos (by omega)]
        rw [List.getElem?_take, if_pos hjl] at hv
        exact hv
      obtain ⟨c0, hc0⟩ : ∃ c0, B.cells[j]? = some c0 := ⟨_, List.getElem?_eq_getElem (by omega)⟩
      obtain ⟨g1, g2⟩ := hrel.2 j c0 v hc0 hv'
      refine ⟨g1, ?_⟩
      rcases hc j c hj with rfl | h'
      · trivial
      · rw [hc0] at h'; cases h'; exact g2
  · intro k k' B B' i i' b hB hB' hi hi' hb hb'
    obtain ⟨B1, hB1, _⟩ := old hB
    obtain ⟨B2, hB2, _⟩ := old hB'
    exact h.sim.apart k k' B1 B2 i i' b hB1 hB2 (htake hi) (htake hi') hb hb'
  · intro j x v hx hv
    rcases keepA_at _ _ _ _ hx with rfl | hx
    · exact rel_unknown _
    · exact (h.rel.2 j x v hx hv).mono hle
  · rintro b ⟨k, B, i, hB, hi, hb⟩
    obtain ⟨B1, hB1, _⟩ := old hB
    exact h.live b ⟨k, B1, i, hB1, htake hi, hb⟩

/-- A loop: at its head less may be known than a round leaves. -/
theorem codeOk_loopW {c : Code} {Q : Exit → ASt → Prop} (mask : List Bool) (I : ASt → Prop) (μ : ASt → Nat) (h0 : ∃ H', WkH st.heap H' ∧ I ⟨keepA mask st.tmps, H', st.clk⟩)
    (round : ∀ s, I s → AW P c (AExit.then (fun s' => ∃ H', WkH s'.heap H' ∧ I ⟨keepA mask s'.tmps, H', s'.clk⟩ ∧ μ ⟨keepA mask s'.tmps, H', s'.clk⟩ < μ s) Q) s) : CodeOk P (.loop c) Q st := by
  intro w0 E0 H0 a w ⟨E, hE⟩
  classical
  let S : Act → World → Nat → Prop := fun a w n => ∃ s, I s ∧ Inv w0 E0 H0 s a w ∧ μ s = n
  obtain ⟨H0', hw0, hI0⟩ := h0
  refine wp_loop (fun a w => ∃ n, S a w n) (fun a w => if h : ∃ n, S a w n then Classical.choose (least _ h) else 0) ⟨_, _, hI0, ⟨_, hE.weak mask hw0⟩, rfl⟩ ?_
  intro a w hS
  obtain ⟨s, hs, hI, hμ⟩ := (Classical.choose_spec (least _ hS)).1
  refine wp_mono (aw_sound c _ _ (round s hs) w0 E0 H0 a w hI) ?_
  rintro e a' w' ⟨s', hq, E', hE'⟩
  cases e with
  | normal =>
    obtain ⟨H', hw, hI', hlt⟩ := hq
    have hS' : S a' w' (μ ⟨keepA mask s'.tmps, H', s'.clk⟩) := ⟨_, hI', ⟨_, hE'.weak mask hw⟩, rfl⟩
    refine ⟨⟨_, hS'⟩, ?_⟩
    have hx : ∃ n, S a' w' n := ⟨_, hS'⟩
    rw [dif_pos hx, dif_pos hS]
    exact Nat.lt_of_le_of_lt ((Classical.choose_spec (least _ hx)).2 _ hS') (by rw [← hμ]; exact hlt)
  | exit id => exact ⟨s', hq, E', hE'⟩
  | goto l => exact ⟨s', hq, E', hE'⟩
  | ret => exact ⟨s', hq, E', hE'⟩
  | panic ch => exact ⟨s', hq, E', hE'⟩
  | outgrown => exact ⟨s', hq, E', hE'⟩
end
end Go.Abs
