/-
  Further rules. No program's text.
-/
import Derived.Test.YtplnbdjonnfcbaaDoorK5
namespace Go.Abs
set_option linter.unusedSimpArgs false
set_option linter.unusedVariables false
set_option linter.unnecessarySimpa false
open Go
/-- A call that answers the nil slice answers an own array of nothing. -/
theorem fcall_own_nil {P : Program} {f : FuncId} {args : List AV} {Q : AV → AHeap → Prop} (e : TypeId) (sz : Nat)
    (h : FCall P f args fun r H => (r = .one (.d .nil) ∧ H = []) ∨ Q r H) : FCall P f args fun r H => (∃ g, r = .one (.own 0 g 0 0) ∧ H = [some ⟨g, e, sz, []⟩]) ∨ Q r H := by
  intro clk w E vals hclk hsim hrel
  refine (h clk w E vals hclk hsim hrel).mono fun ex w' => ?_
  rintro ⟨v, r, H', E', rfl, hle, hsim', hr, hfrm, hlive, hI0, hrf, hHf, hp⟩
  rcases hp with ⟨rfl, rfl⟩ | hq
  · have hv : v = .slice none 0 0 := by
      have h1 : RelD w' E'.I .nil v := hr
      cases h1; rfl
    subst hv
    refine ⟨_, .one (.own 0 E'.clk 0 0), [some ⟨E'.clk, e, sz, []⟩], ⟨E'.I, [⟨E'.clk, none, e, sz, 0⟩], E'.clk + 1⟩, rfl, ?_, ?_, ?_, hfrm, ?_, hI0, rfl, ?_, .inl ⟨_, rfl, rfl⟩⟩
    · refine hle.trans ⟨fun b hb => ⟨hb, rfl⟩, Nat.le_succ _, fun k i' hi => .inr ?_⟩
      match k with
      | 0 => simp at hi; subst hi; exact Nat.le_refl _
      | k + 1 => simp at hi
    · refine ⟨rfl, fun k i hi => ?_, hsim'.I, fun k B hB => ?_, fun k k' B B' i i' b hB hB' hi hi' hb hb' => ?_, hsim'.glob⟩
      · match k with
        | 0 => simp at hi; subst hi; exact Nat.lt_succ_self _
        | k + 1 => simp at hi
      · match k with
        | 0 =>
          simp at hB; subst hB
          exact ⟨_, rfl, rfl, rfl, rfl, Nat.lt_succ_self _, rfl, rfl⟩
        | k + 1 => simp at hB
      · match k with
        | 0 => simp at hi; subst hi; cases hb
        | k + 1 => simp at hi
    · refine ⟨rfl, Nat.lt_succ_self _, fun i hi hg => ?_⟩
      simp at hi; subst hi
      exact ⟨none, 0, rfl, Nat.le_refl _, Nat.zero_le _, by simp, rfl, rfl⟩
    · rintro b ⟨k, B, i, hB, hi, hb⟩
      match k with
      | 0 => simp at hi; subst hi; cases hb
      | k + 1 => simp at hi
    · intro b hb
      simp at hb; subst hb
      intro c hc; simp at hc
  · exact ⟨v, r, H', E', rfl, hle, hsim', hr, hfrm, hlive, hI0, hrf, hHf, .inr hq⟩
/-- What a call leaves that nobody asks for is forgotten: which arrays are kept is said at the end. -/
def EPost (post : AV → AHeap → Prop) (r : AV) (H : AHeap) (c : Nat) : Prop := ∃ σ τ, GPost σ τ post r H c
theorem fcall_gatherE {P : Program} {f : FuncId} {args : List AV} {post : AV → AHeap → Prop} (h : ∀ clk, ACall P f args [] clk (EPost post)) : FCall P f args post := by
  intro clk w E vals hclk hsim hrel
  refine (h clk w E vals hclk hsim hrel).mono fun e w' => ?_
  rintro ⟨v, r, H', E', rfl, hle, hsim', hr, hfrm, hlive, hI0, σ, τ, hren, hblk, hnd, hrf, hHf, hpost⟩
  have hE0 : E.β = [] := List.eq_nil_of_length_eq_zero (by simpa using hsim.len)
  have hall : ∀ i ∈ σ, ∃ b, E'.β[i]? = some b := fun i hi => by
    obtain ⟨B, hB, _⟩ := hblk i hi
    obtain ⟨b, hb, _⟩ := hsim'.blk i B hB
    exact ⟨b, hb⟩
  let bi : Nat → BI := fun i => E'.β.getD i ⟨0, none, 0, 0, 0⟩
  have hbi : ∀ i ∈ σ, E'.β[i]? = some (bi i) := fun i hi => by
    obtain ⟨b, hb⟩ := hall i hi
    simp [bi, List.getD_eq_getElem?_getD, hb]
  let E2 : Env := ⟨E'.I, σ.map bi, E'.clk⟩
  have hβ : ∀ (j : Nat) (i : BI), E2.β[j]? = some i → E'.β[sig σ j]? = some i := fun j i hj => by
    simp only [E2, List.getElem?_map] at hj
    cases hs : σ[j]? with
    | none => simp [hs] at hj
    | some q =>
      simp [hs] at hj
      have : sig σ j = q := by simp [sig, List.getD_eq_getElem?_getD, hs]
      rw [this, hbi q (List.mem_of_getElem? hs), hj]
  have hgen : ∀ (j : Nat) (i : BI), E'.β[j]? = some i → E.clk ≤ i.gen := fun j i hi => by
    rcases hle.β j i hi with h | h
    · rw [hE0] at h; simp at h
    · exact h
  have hle2 : Env.Le w E w' E2 := ⟨hle.I, hle.clk, fun j i hi => .inr (hgen _ i (hβ j i hi))⟩
  have hle3 : Env.Le w' E' w' ⟨E'.I, E'.β, E'.clk⟩ := Env.Le.refl _ _
  have atG : ∀ (j : Nat) (B : ABlk), (gat σ τ H')[j]? = some (some B) → ∃ q B0, σ[j]? = some q ∧ H'[q]? = some (some B0) ∧ B = B0.ren τ ∧ (B0.ren τ).ren (sig σ) = B0 := fun j B hB => by
    simp only [gat, List.getElem?_map] at hB
    cases hs : σ[j]? with
    | none => simp [hs] at hB
    | some q =>
      obtain ⟨B0, hB0, hr0⟩ := hblk q (List.mem_of_getElem? hs)
      simp [hs, hB0] at hB
      exact ⟨q, B0, rfl, hB0, hB.symm, hr0⟩
  have hβq : ∀ (j q : Nat) (i : BI), σ[j]? = some q → E2.β[j]? = some i → E'.β[q]? = some i := fun j q i hs hi => by
    have := hβ j i hi
    simpa [sig, List.getD_eq_getElem?_getD, hs] using this
  refine ⟨v, r.ren τ, gat σ τ H', E2, rfl, hle2, ⟨by simp [E2, gat], ?_, hsim'.I, ?_, ?_, hsim'.glob⟩, ?_, hfrm, ?_, hI0, hrf, hHf, hpost⟩
  · intro j i hi
    exact hsim'.gens _ i (hβ j i hi)
  · intro j B hB
    obtain ⟨q, B0, hs, hB0, rfl, hr0⟩ := atG j B hB
    obtain ⟨i, hi, hok⟩ := hsim'.blk q B0 hB0
    have hij : E2.β[j]? = some i := by
      simp only [E2, List.getElem?_map, hs]
      have := hbi q (List.mem_of_getElem? hs)
      rw [hi] at this
      simpa using this.symm
    refine ⟨i, hij, hok.1, hok.2.1, hok.2.2.1, hok.2.2.2.1, ?_⟩
    obtain ⟨_, _, _, _, h5⟩ := hok
    cases hb : i.blk with
    | none => rw [hb] at h5; exact ⟨by simp [ABlk.ren, h5.1], h5.2⟩
    | some b =>
      rw [hb] at h5
      obtain ⟨hn, ⟨C, hC, hl, hlc, hrl⟩ | hm⟩ := h5
      · refine ⟨hn, .inl ⟨C, hC, hl, by simpa [ABlk.ren] using hlc, ?_⟩⟩
        have hcs : (B0.ren τ).cells.map (AC.ren (sig σ)) = B0.cells := congrArg ABlk.cells hr0
        have hlen : (B0.ren τ).cells.length = B0.cells.length := by simp [ABlk.ren]
        rw [hlen]
        rw [← hcs] at hrl
        have := unren_rels (E := E') (E' := E2) rfl rfl hβ hrl
        simpa [hlen] using this
      · exact ⟨hn, .inr hm.ren⟩
  · intro j j' B B' i i' b hB hB' hi hi' hb hb'
    obtain ⟨q, B0, hs, hB0, _, _⟩ := atG j B hB
    obtain ⟨q', B0', hs', hB0', _, _⟩ := atG j' B' hB'
    have hq := hsim'.apart q q' B0 B0' i i' b hB0 hB0' (hβq j q i hs hi) (hβq j' q' i' hs' hi') hb hb'
    subst hq
    have hjl : j < σ.length := (List.getElem?_eq_some_iff.1 hs).1
    exact (List.getElem?_inj hjl hnd).1 (hs.trans hs'.symm)
  · have h1 : RelV w' E' ((r.ren τ).ren (sig σ)) v := by rw [hren]; exact hr
    exact unren_relV (E := E') (E' := E2) rfl rfl hβ h1
  · rintro b ⟨j, B, i, hB, hi, hb⟩
    obtain ⟨q, B0, hs, hB0, _, _⟩ := atG j B hB
    exact hlive b ⟨q, B0, i, hB0, hβq j q i hs hi, hb⟩
end Go.Abs
namespace Go.Abs
set_option linter.unusedSimpArgs false
set_option linter.unusedVariables false
set_option linter.unnecessarySimpa false
open Go
section
variable {P : Program} {w : World} {E : Env}
/-- What speaks of the array j. -/
def ofJ (j : Nat) : AC → Bool
  | .own k _ _ _ => k == j
  | .ptr k _ _ => k == j
  | _ => false
theorem snap1_one {H : AHeap} {j : Nat} (hsim : SimH w E H) {c : AC} {d : DC} {v : Value} (hc : ofJ j c = true) (hd : snap1 H c = some d) (hr : RelC w E c v) :
    RelC w ⟨fun b => E.I b ∨ ∃ (B : ABlk) (i : BI), H[j]? = some (some B) ∧ E.β[j]? = some i ∧ i.blk = some b, E.β, E.clk⟩ (.d d) v := by
  have htk : ∀ {m q : Nat} {i : BI}, (E.β.take m)[q]? = some i → E.β[q]? = some i := fun {m q i} h => by
    rw [List.getElem?_take] at h
    split at h
    · exact h
    · cases h
  have hH : ∃ g B, blkAt H j g = some B ∧ H[j]? = some (some B) := by
    cases c with
    | own k g off n =>
      have hk : k = j := by simpa [ofJ] using hc
      subst hk
      simp only [snap1] at hd
      split at hd
      · rename_i B hB; exact ⟨g, B, hB, (blkAt_some hB).1⟩
      · cases hd
    | ptr k g off =>
      have hk : k = j := by simpa [ofJ] using hc
      subst hk
      simp only [snap1] at hd
      split at hd
      · rename_i B hB; exact ⟨g, B, hB, (blkAt_some hB).1⟩
      · cases hd
    | d c => simp [ofJ] at hc
    | mp k g => simp [ofJ] at hc
    | obj es c => simp [ofJ] at hc
    | any => simp [ofJ] at hc
  obtain ⟨g0, B, _, hB⟩ := hH
  let H1 : AHeap := (List.replicate j none) ++ [some B]
  have hsn : snap1 H1 c = some d := by
    have hb1 : ∀ g, blkAt H1 j g = blkAt H j g := fun g => by
      have : H1[j]? = some (some B) := by simp [H1]
      simp [blkAt, this, hB]
    cases c with
    | own k g off n =>
      have hk : k = j := by simpa [ofJ] using hc
      subst hk
      simp only [snap1] at hd ⊢
      rw [hb1]; exact hd
    | ptr k g off =>
      have hk : k = j := by simpa [ofJ] using hc
      subst hk
      simp only [snap1] at hd ⊢
      rw [hb1]; exact hd
    | d c => simp [ofJ] at hc
    | mp k g => simp [ofJ] at hc
    | obj es c => simp [ofJ] at hc
    | any => simp [ofJ] at hc
  have one : ∀ (q : Nat) (B' : ABlk), H1[q]? = some (some B') → q = j ∧ B' = B := fun q B' hB' => by
    simp only [H1, List.getElem?_append, List.length_replicate] at hB'
    split at hB'
    · rename_i hlt; simp [List.getElem?_replicate, hlt] at hB'
    · rename_i hge
      have : q - j = 0 := by
        rcases Nat.eq_zero_or_pos (q - j) with h | h
        · exact h
        · rw [List.getElem?_eq_none (by simp; omega)] at hB'; cases hB'
      rw [this] at hB'
      simp at hB'
      exact ⟨by omega, hB'.symm⟩
  refine snap1_rel' (st := ⟨[], H1, 0⟩) (E := ⟨E.I, E.β.take (j + 1), E.clk⟩) (c := c) ⟨?_, fun q i hi => hsim.gens q i (htk hi), hsim.I, fun q B' hB' => ?_, fun q q' B' B'' i i' b h1 h2 h3 h4 h5 h6 => ?_, hsim.glob⟩ (fun b hb => .inl hb) (fun b hb => ?_) hsn ?_
  · have hkl : j < H.length := (List.getElem?_eq_some_iff.1 hB).1
    have := hsim.len
    simp [H1]; omega
  · obtain ⟨rfl, rfl⟩ := one q B' hB'
    obtain ⟨i, hi, hok⟩ := hsim.blk q B' hB
    exact ⟨i, by rw [List.getElem?_take, if_pos (by omega)]; exact hi, hok.mono_same (E := E) (E' := ⟨E.I, E.β.take (q + 1), E.clk⟩) ⟨fun b hb => ⟨hb, rfl⟩, Nat.le_refl _, fun a i' hi' => .inl (htk hi')⟩ (fun _ _ hI => hI) (fun _ _ => rfl)⟩
  · rw [(one q B' h1).1, (one q' B'' h2).1]
  · obtain ⟨q, B', i, h1, h2, h3⟩ := hb
    obtain ⟨rfl, rfl⟩ := one q B' h1
    exact .inr ⟨B', i, hB, htk h2, h3⟩
  · cases c with
    | own k g off n => exact ⟨hr.1, hr.2.1, fun i hi hg => hr.2.2 i (htk hi) hg⟩
    | ptr k g off => exact ⟨hr.1, hr.2.1, fun i hi hg => hr.2.2 i (htk hi) hg⟩
    | d c => simp [ofJ] at hc
    | mp k g => simp [ofJ] at hc
    | obj es c => simp [ofJ] at hc
    | any => simp [ofJ] at hc
def frzC (H : AHeap) (j : Nat) (c : AC) : AC := if ofJ j c = true then (match snap1 H c with | some d => .d d | none => c) else c
def frzV (H : AHeap) (j : Nat) : AV → AV
  | .one c => .one (frzC H j c)
  | x => x
theorem codeOk_freeze {c : Code} {Q : Exit → ASt → Prop} {T : List AV} {H : AHeap} {clk : Nat} (j : Nat) (h : CodeOk P c Q ⟨T.map (frzV H j), H.set j none, clk⟩) : CodeOk P c Q ⟨T, H, clk⟩ := by
  intro w0 E0 H0 a w ⟨E, hE⟩
  let B1 : Nat → Prop := fun b => ∃ (B : ABlk) (i : BI), H[j]? = some (some B) ∧ E.β[j]? = some i ∧ i.blk = some b
  let E1 : Env := ⟨fun b => E.I b ∨ B1 b, E.β, E.clk⟩
  have hsim : SimH w E H := hE.sim
  have hle1 : Env.Le w E w E1 := ⟨fun b hb => ⟨.inl hb, rfl⟩, Nat.le_refl _, fun k i' hi => .inl hi⟩
  have hset : ∀ (k : Nat) (B : ABlk), (H.set j none)[k]? = some (some B) → k ≠ j ∧ H[k]? = some (some B) := fun k B hB => by
    rw [List.getElem?_set] at hB
    split at hB
    · split at hB <;> simp at hB
    · rename_i hne; exact ⟨fun e => hne e.symm, hB⟩
  have hlive1 : ∀ b, B1 b → LiveB E H b := fun b ⟨B, i, h1, h2, h3⟩ => ⟨j, B, i, h1, h2, h3⟩
  have hlt1 : ∀ b, B1 b → b < w.heap.size := fun b hb => live_lt (st := ⟨[], H, 0⟩) hsim (hlive1 b hb)
  have hsim1 : SimH w E1 (H.set j none) := by
    refine ⟨by simp [E1, hsim.len], hsim.gens, ?_, ?_, ?_, fun g cs hg => (hsim.glob g cs hg).mono hle1.I⟩
    · rintro b (hb | hb)
      · exact hsim.I b hb
      · exact hlt1 b hb
    · intro k B hB
      obtain ⟨hkj, hB'⟩ := hset k B hB
      obtain ⟨i, hi, hok⟩ := hsim.blk k B hB'
      refine ⟨i, hi, hok.mono_same hle1 (fun b hb hI => ?_) (fun _ _ => rfl)⟩
      rcases hI with hI | ⟨B', i', h1, h2, h3⟩
      · exact hI
      · exact absurd (hsim.apart k j B B' i i' b hB' h1 hi h2 hb h3) hkj
    · intro k k' B B' i i' b hB hB' hi hi' hb hb'
      exact hsim.apart k k' B B' i i' b (hset k B hB).2 (hset k' B' hB').2 hi hi' hb hb'
  refine h w0 E0 H0 a w ⟨E1, hE.dfr, hE.le.trans hle1, hE.clk, hsim1, ⟨by simpa using hE.rel.1, fun q x v hx hv => ?_⟩, hE.frm, ?_, ?_⟩
  · rw [List.getElem?_map] at hx
    cases ht : T[q]? with
    | none => simp [ht] at hx
    | some y =>
      simp [ht] at hx; subst hx
      have hr := hE.rel.2 q y v ht hv
      cases y with
      | one c =>
        have hr : RelC w E c v := hr
        show RelC w E1 (frzC H j c) v
        unfold frzC
        split
        · rename_i hj
          split
          · rename_i d hd; exact snap1_one hsim hj hd hr
          · exact hr.mono hle1
        · exact hr.mono hle1
      | agg cs => exact hr.mono hle1
      | tup vs => exact hr.mono hle1
  · rintro b ⟨k, B, i, h1, h2, h3⟩
    exact hE.live b ⟨k, B, i, (hset k B h1).2, h2, h3⟩
  · rintro b hb (hI | hb1)
    · exact hE.I0 b hb hI
    · rcases hE.live b (hlive1 b hb1) with h1 | h1
      · exact .inr h1
      · omega
end
/-- What is told of a variable that holds an error. -/
theorem glob_err {P : Program} {w : World} {name : String} {g tid te : Nat} {txt : List UInt8} {ad : Addr} {s : ByteArray} {c : Array Value} (hg : P.globalNamed name = some g)
    (hv : w.var? P name = some #[.iface tid (.pointer (some ad))]) (hs : w.cell? ad = some (.string s)) (hx : s.data.toList = txt) (hh : w.heap[ad.block]? = some (.cells c te (0, 0)))
    (ht : errT g = some (tid, txt)) (hG : globT g = some [.err g]) : RelD w (baseE w).I (.rptr [.err g]) (.pointer (some ⟨g, 0, none⟩)) := by
  have hc0 : w.cell? ⟨g, 0, none⟩ = some (.iface tid (.pointer (some ad))) := by simpa using World.var?_cell hg hv 0
  refine .rptr (fun _ => .iface tid (.pointer (some ad))) (cell_lt hc0) (fun j hj => ?_) (fun j hj => ?_)
  · have : j = 0 := by simpa using hj
    subst this
    exact hc0
  · have : j = 0 := by simpa using hj
    subst this
    exact .err ht hG (cell_lt hc0) hc0 (cell_lt hs) hs hx hh
end Go.Abs
