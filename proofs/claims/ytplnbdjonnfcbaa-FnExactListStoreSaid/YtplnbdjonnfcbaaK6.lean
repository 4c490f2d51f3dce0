/-
  Further rules. No program's text.
-/
import Derived.Test.YtplnbdjonnfcbaaK5
namespace Go.Abs
set_option linter.unusedSimpArgs false
set_option linter.unusedVariables false
set_option linter.unnecessarySimpa false
open Go
/-- A call that answers the nil slice answers an own array of nothing. -/
theorem fcall_own_nil {P : Program} {f : FuncId} {args : List AV} {Q : AV → AHeap → Prop} (e : TypeId) (sz : Nat)
    (h : FCall P f args fun r H => (r = .one (.d .nil) ∧ H = []) ∨ Q r H) : FCall P f args fun r H => (∃ g, r = .one (.own 0 g 0 0) ∧ H = [some ⟨g, e, sz, []⟩]) ∨ Q r H := by
  intro clk w E vals hclk hsim hrel
  refine (h clk w E vals hclk hsim hrel).mono fun ex w' => ?_
  rintro ⟨v, r, H', E', rfl, hle, hsim', hr, hfrm, hlive, hI0, hrf, hHf, hp⟩
  rcases hp with ⟨rfl, rfl⟩ | hq
  · have hv : v = .slice none 0 0 := by
      have h1 : RelD w' E'.I .nil v := hr
      cases h1; rfl
    subst hv
    refine ⟨_, .one (.own 0 E'.clk 0 0), [some ⟨E'.clk, e, sz, []⟩], ⟨E'.I, [⟨E'.clk, none, e, sz, 0⟩], E'.clk + 1⟩, rfl, ?_, ?_, ?_, hfrm, ?_, hI0, rfl, ?_, .inl ⟨_, rfl, rfl⟩⟩
    · refine hle.trans ⟨fun b hb => ⟨hb, rfl⟩, Nat.le_succ _, fun k i' hi => .inr ?_⟩
      match k with
      | 0 => simp at hi; subst hi; exact Nat.le_refl _
      | k + 1 => simp at hi
    · refine ⟨rfl, fun k i hi => ?_, hsim'.I, fun k B hB => ?_, fun k k' B B' i i' b hB hB' hi hi' hb hb' => ?_, hsim'.glob⟩
      · match k with
        | 0 => simp at hi; subst hi; exact Nat.lt_succ_self _
        | k + 1 => simp at hi
      · match k with
        | 0 =>
          simp at hB; subst hB
          exact ⟨_, rfl, rfl, rfl, rfl, Nat.lt_succ_self _, rfl, rfl⟩
        | k + 1 => simp at hB
      · match k with
        | 0 => simp at hi; subst hi; cases hb
        | k + 1 => simp at hi
    · refine ⟨rfl, Nat.lt_succ_self _, fun i hi hg => ?_⟩
      simp at hi; subst hi
      exact ⟨none, 0, rfl, Nat.le_refl _, Nat.zero_le _, by simp, rfl, rfl⟩
    · rintro b ⟨k, B, i, hB, hi, hb⟩
      match k with
      | 0 => simp at hi; subst hi; cases hb
      | k + 1 => simp at hi
    · intro b hb
      simp at hb; subst hb
      intro c hc; simp at hc
  · exact ⟨v, r, H', E', rfl, hle, hsim', hr, hfrm, hlive, hI0, hrf, hHf, .inr hq⟩
/-- What a call leaves that nobody asks for is forgotten: which arrays are kept is said at the end. -/
def EPost (post : AV → AHeap → Prop) (r : AV) (H : AHeap) (c : Nat) : Prop := ∃ σ τ, GPost σ τ post r H c
theorem fcall_gatherE {P : Program} {f : FuncId} {args : List AV} {post : AV → AHeap → Prop} (h : ∀ clk, ACall P f args [] clk (EPost post)) : FCall P f args post := by
  intro clk w E vals hclk hsim hrel
  refine (h clk w E vals hclk hsim hrel).mono fun e w' => ?_
  rintro ⟨v, r, H', E', rfl, hle, hsim', hr, hfrm, hlive, hI0, σ, τ, hren, hblk, hnd, hrf, hHf, hpost⟩
  have hE0 : E.β = [] := List.eq_nil_of_length_eq_zero (by simpa using hsim.len)
  have hall : ∀ i ∈ σ, ∃ b, E'.β[i]? = some b := fun i hi => by
    obtain ⟨B, hB, _⟩ := hblk i hi
    obtain ⟨b, hb, _⟩ := hsim'.blk i B hB
    exact ⟨b, hb⟩
  let bi : Nat → BI := fun i => E'.β.getD i ⟨0, none, 0, 0, 0⟩
  have hbi : ∀ i ∈ σ, E'.β[i]? = some (bi i) := fun i hi => by
    obtain ⟨b, hb⟩ := hall i hi
    simp [bi, List.getD_eq_getElem?_getD, hb]
  let E2 : Env := ⟨E'.I, σ.map bi, E'.clk⟩
  have hβ : ∀ (j : Nat) (i : BI), E2.β[j]? = some i → E'.β[sig σ j]? = some i := fun j i hj => by
    simp only [E2, List.getElem?_map] at hj
    cases hs : σ[j]? with
    | none => simp [hs] at hj
    | some q =>
      simp [hs] at hj
      have : sig σ j = q := by simp [sig, List.getD_eq_getElem?_getD, hs]
      rw [this, hbi q (List.mem_of_getElem? hs), hj]
  have hgen : ∀ (j : Nat) (i : BI), E'.β[j]? = some i → E.clk ≤ i.gen := fun j i hi => by
    rcases hle.β j i hi with h | h
    · rw [hE0] at h; simp at h
    · exact h
  have hle2 : Env.Le w E w' E2 := ⟨hle.I, hle.clk, fun j i hi => .inr (hgen _ i (hβ j i hi))⟩
  have hle3 : Env.Le w' E' w' ⟨E'.I, E'.β, E'.clk⟩ := Env.Le.refl _ _
  have atG : ∀ (j : Nat) (B : ABlk), (gat σ τ H')[j]? = some (some B) → ∃ q B0, σ[j]? = some q ∧ H'[q]? = some (some B0) ∧ B = B0.ren τ ∧ (B0.ren τ).ren (sig σ) = B0 := fun j B hB => by
    simp only [gat, List.getElem?_map] at hB
    cases hs : σ[j]? with
    | none => simp [hs] at hB
    | some q =>
      obtain ⟨B0, hB0, hr0⟩ := hblk q (List.mem_of_getElem? hs)
      simp [hs, hB0] at hB
      exact ⟨q, B0, rfl, hB0, hB.symm, hr0⟩
  have hβq : ∀ (j q : Nat) (i : BI), σ[j]? = some q → E2.β[j]? = some i → E'.β[q]? = some i := fun j q i hs hi => by
    have := hβ j i hi
    simpa [sig, List.getD_eq_getElem?_getD, hs] using this
  refine ⟨v, r.ren τ, gat σ τ H', E2, rfl, hle2, ⟨by simp [E2, gat], ?_, hsim'.I, ?_, ?_, hsim'.glob⟩, ?_, hfrm, ?_, hI0, hrf, hHf, hpost⟩
  · intro j i hi
    exact hsim'.gens _ i (hβ j i hi)
  · intro j B hB
    obtain ⟨q, B0, hs, hB0, rfl, hr0⟩ := atG j B hB
    obtain ⟨i, hi, hok⟩ := hsim'.blk q B0 hB0
    have hij : E2.β[j]? = some i := by
      simp only [E2, List.getElem?_map, hs]
      have := hbi q (List.mem_of_getElem? hs)
      rw [hi] at this
      simpa using this.symm
    refine ⟨i, hij, hok.1, hok.2.1, hok.2.2.1, hok.2.2.2.1, ?_⟩
    obtain ⟨_, _, _, _, h5⟩ := hok
    cases hb : i.blk with
    | none => rw [hb] at h5; exact ⟨by simp [ABlk.ren, h5.1], h5.2⟩
    | some b =>
      rw [hb] at h5
      obtain ⟨hn, ⟨C, hC, hl, hlc, hrl⟩ | hm⟩ := h5
      · refine ⟨hn, .inl ⟨C, hC, hl, by simpa [ABlk.ren] using hlc, ?_⟩⟩
        have hcs : (B0.ren τ).cells.map (AC.ren (sig σ)) = B0.cells := congrArg ABlk.cells hr0
        have hlen : (B0.ren τ).cells.length = B0.cells.length := by simp [ABlk.ren]
        rw [hlen]
        rw [← hcs] at hrl
        have := unren_rels (E := E') (E' := E2) rfl rfl hβ hrl
        simpa [hlen] using this
      · exact ⟨hn, .inr hm.ren⟩
  · intro j j' B B' i i' b hB hB' hi hi' hb hb'
    obtain ⟨q, B0, hs, hB0, _, _⟩ := atG j B hB
    obtain ⟨q', B0', hs', hB0', _, _⟩ := atG j' B' hB'
    have hq := hsim'.apart q q' B0 B0' i i' b hB0 hB0' (hβq j q i hs hi) (hβq j' q' i' hs' hi') hb hb'
    subst hq
    have hjl : j < σ.length := (List.getElem?_eq_some_iff.1 hs).1
    exact (List.getElem?_inj hjl hnd).1 (hs.trans hs'.symm)
  · have h1 : RelV w' E' ((r.ren τ).ren (sig σ)) v := by rw [hren]; exact hr
    exact unren_relV (E := E') (E' := E2) rfl rfl hβ h1
  · rintro b ⟨j, B, i, hB, hi, hb⟩
    obtain ⟨q, B0, hs, hB0, _, _⟩ := atG j B hB
    exact hlive b ⟨q, B0, i, hB0, hβq j q i hs hi, hb⟩
end Go.Abs
