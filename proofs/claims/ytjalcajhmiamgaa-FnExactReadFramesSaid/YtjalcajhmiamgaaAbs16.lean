/-
  What a call leaves that nobody asks for is forgotten; the answer's arrays are numbered anew. No program's text.
-/
import Derived.Test.YtjalcajhmiamgaaAbs15
namespace Go.Abs
set_option linter.unusedSimpArgs false
set_option linter.unusedVariables false
set_option linter.unnecessarySimpa false
open Go

def sig (σ : List Nat) (j : Nat) : Nat := σ.getD j 0
def gat (σ : List Nat) (τ : Nat → Nat) (H : AHeap) : AHeap := σ.map fun i => (H.getD i none).map (ABlk.ren τ)
def GPost (σ : List Nat) (τ : Nat → Nat) (post : AV → AHeap → Prop) (r : AV) (H : AHeap) (_ : Nat) : Prop :=
  (r.ren τ).ren (sig σ) = r ∧ (∀ i ∈ σ, ∃ B, H[i]? = some (some B) ∧ (B.ren τ).ren (sig σ) = B) ∧ σ.Nodup ∧ (r.ren τ).flat ∧ flatH (gat σ τ H) ∧ post (r.ren τ) (gat σ τ H)

section
variable {P : Program} {w : World} {E : Env}

theorem fcall_gather {f : FuncId} {args : List AV} {post : AV → AHeap → Prop} (σ : List Nat) (τ : Nat → Nat) (h : ∀ clk, ACall P f args [] clk (GPost σ τ post)) : FCall P f args post := by
  intro clk w E vals hclk hsim hrel
  refine (h clk w E vals hclk hsim hrel).mono fun e w' => ?_
  rintro ⟨v, r, H', E', rfl, hle, hsim', hr, hfrm, hlive, hI0, hren, hblk, hnd, hrf, hHf, hpost⟩
  have hE0 : E.β = [] := List.eq_nil_of_length_eq_zero (by simpa using hsim.len)
  have hall : ∀ i ∈ σ, ∃ b, E'.β[i]? = some b := fun i hi => by
    obtain ⟨B, hB, _⟩ := hblk i hi
    obtain ⟨b, hb, _⟩ := hsim'.blk i B hB
    exact ⟨b, hb⟩
  let bi : Nat → BI := fun i => E'.β.getD i ⟨0, none, 0, 0, 0⟩
  have hbi : ∀ i ∈ σ, E'.β[i]? = some (bi i) := fun i hi => by
    obtain ⟨b, hb⟩ := hall i hi
    simp [bi, List.getD_eq_getElem?_getD, hb]
  let E2 : Env := ⟨E'.I, σ.map bi, E'.clk⟩
  have hβ : ∀ (j : Nat) (i : BI), E2.β[j]? = some i → E'.β[sig σ j]? = some i := fun j i hj => by
    simp only [E2, List.getElem?_map] at hj
    cases hs : σ[j]? with
    | none => simp [hs] at hj
    | some q =>
      simp [hs] at hj
      have : sig σ j = q := by simp [sig, List.getD_eq_getElem?_getD, hs]
      rw [this, hbi q (List.mem_of_getElem? hs), hj]
  have hgen : ∀ (j : Nat) (i : BI), E'.β[j]? = some i → E.clk ≤ i.gen := fun j i hi => by
    rcases hle.β j i hi with h | h
    · rw [hE0] at h; simp at h
    · exact h
  have hle2 : Env.Le w E w' E2 := ⟨hle.I, hle.clk, fun j i hi => .inr (hgen _ i (hβ j i hi))⟩
  have hle3 : Env.Le w' E' w' ⟨E'.I, E'.β, E'.clk⟩ := Env.Le.refl _ _
  have atG : ∀ (j : Nat) (B : ABlk), (gat σ τ H')[j]? = some (some B) → ∃ q B0, σ[j]? = some q ∧ H'[q]? = some (some B0) ∧ B = B0.ren τ ∧ (B0.ren τ).ren (sig σ) = B0 := fun j B hB => by
    simp only [gat, List.getElem?_map] at hB
    cases hs : σ[j]? with
    | none => simp [hs] at hB
    | some q =>
      obtain ⟨B0, hB0, hr0⟩ := hblk q (List.mem_of_getElem? hs)
      simp [hs, hB0] at hB
      exact ⟨q, B0, rfl, hB0, hB.symm, hr0⟩
  have hβq : ∀ (j q : Nat) (i : BI), σ[j]? = some q → E2.β[j]? = some i → E'.β[q]? = some i := fun j q i hs hi => by
    have := hβ j i hi
    simpa [sig, List.getD_eq_getElem?_getD, hs] using this
  refine ⟨v, r.ren τ, gat σ τ H', E2, rfl, hle2, ⟨by simp [E2, gat], ?_, hsim'.I, ?_, ?_, hsim'.glob⟩, ?_, hfrm, ?_, hI0, hrf, hHf, hpost⟩
  · intro j i hi
    exact hsim'.gens _ i (hβ j i hi)
  · intro j B hB
    obtain ⟨q, B0, hs, hB0, rfl, hr0⟩ := atG j B hB
    obtain ⟨i, hi, hok⟩ := hsim'.blk q B0 hB0
    have hij : E2.β[j]? = some i := by
      simp only [E2, List.getElem?_map, hs]
      have := hbi q (List.mem_of_getElem? hs)
      rw [hi] at this
      simpa using this.symm
    refine ⟨i, hij, hok.1, hok.2.1, hok.2.2.1, hok.2.2.2.1, ?_⟩
    obtain ⟨_, _, _, _, h5⟩ := hok
    cases hb : i.blk with
    | none => rw [hb] at h5; exact ⟨by simp [ABlk.ren, h5.1], h5.2⟩
    | some b =>
      rw [hb] at h5
      obtain ⟨hn, ⟨C, hC, hl, hlc, hrl⟩ | hm⟩ := h5
      · refine ⟨hn, .inl ⟨C, hC, hl, by simpa [ABlk.ren] using hlc, ?_⟩⟩
        have hcs : (B0.ren τ).cells.map (AC.ren (sig σ)) = B0.cells := congrArg ABlk.cells hr0
        have hlen : (B0.ren τ).cells.length = B0.cells.length := by simp [ABlk.ren]
        rw [hlen]
        rw [← hcs] at hrl
        have := unren_rels (E := E') (E' := E2) rfl rfl hβ hrl
        simpa [hlen] using this
      · exact ⟨hn, .inr hm.ren⟩
  · intro j j' B B' i i' b hB hB' hi hi' hb hb'
    obtain ⟨q, B0, hs, hB0, _, _⟩ := atG j B hB
    obtain ⟨q', B0', hs', hB0', _, _⟩ := atG j' B' hB'
    have hq := hsim'.apart q q' B0 B0' i i' b hB0 hB0' (hβq j q i hs hi) (hβq j' q' i' hs' hi') hb hb'
    subst hq
    have hjl : j < σ.length := (List.getElem?_eq_some_iff.1 hs).1
    exact (List.getElem?_inj hjl hnd).1 (hs.trans hs'.symm)
  · have h1 : RelV w' E' ((r.ren τ).ren (sig σ)) v := by rw [hren]; exact hr
    exact unren_relV (E := E') (E' := E2) rfl rfl hβ h1
  · rintro b ⟨j, B, i, hB, hi, hb⟩
    obtain ⟨q, B0, hs, hB0, _, _⟩ := atG j B hB
    exact hlive b ⟨q, B0, i, hB0, hβq j q i hs hi, hb⟩

/-- A call that writes one array: what else it made is forgotten. -/
def TPost (p : AV → ABlk → AHeap → Prop) (r : AV) (H : AHeap) (_ : Nat) : Prop := ∃ B' Hn, H = some B' :: Hn ∧ p r B' []
theorem rcall_take {f : FuncId} {args : List AV} {B : ABlk} {p : AV → ABlk → AHeap → Prop} (h : ∀ clk, ACall P f args [some B] clk (TPost p)) : RCall P f args B p := by
  intro clk w E vals hclk hsim hrel
  refine (h clk w E vals hclk hsim hrel).mono fun e w' => ?_
  rintro ⟨v, r, H', E', rfl, hle, hsim', hr, hfrm, hlive, hI0, B', Hn, rfl, hp⟩
  have htake : ∀ {α : Type} {l : List α} {k : Nat} {x : α}, (l.take 1)[k]? = some x → l[k]? = some x := by
    intro α l k x hx
    rw [List.getElem?_take] at hx
    split at hx
    · exact hx
    · cases hx
  have hle1 : Env.Le w' E' w' ⟨E'.I, E'.β.take 1, E'.clk⟩ := ⟨fun b hb => ⟨hb, rfl⟩, Nat.le_refl _, fun k i' hi => .inl (htake hi)⟩
  refine ⟨v, r, [some B'], ⟨E'.I, E'.β.take 1, E'.clk⟩, rfl, hle.trans hle1, ⟨?_, fun k i hi => hsim'.gens k i (htake hi), hsim'.I, ?_, ?_, hsim'.glob⟩, hr.mono hle1, hfrm, ?_, hI0, B', [], rfl, hp⟩
  · have := hsim'.len; simp at this; simp; omega
  · intro k B1 hB1
    match k with
    | 0 =>
      simp at hB1; subst hB1
      obtain ⟨i, hi, hok⟩ := hsim'.blk 0 B' rfl
      exact ⟨i, by rw [List.getElem?_take, if_pos (by omega)]; exact hi, hok.mono_same hle1 (fun _ _ hI => hI) (fun _ _ => rfl)⟩
    | k + 1 => simp at hB1
  · intro k k' B1 B2 i i' b h1 h2
    match k, k' with
    | 0, 0 => intros; rfl
    | 0, k' + 1 => simp at h2
    | k + 1, _ => simp at h1
  · rintro b ⟨k, B1, i, h1, h2, h3⟩
    match k with
    | 0 => simp at h1; subst h1; exact hlive b ⟨0, B', i, rfl, htake h2, h3⟩
    | k + 1 => simp at h1
end
end Go.Abs
