/-
  Further rules. No program's text.
-/
import Derived.Test.YtiogdfliailenaaK5
namespace Go.Abs
set_option linter.unusedSimpArgs false
set_option linter.unusedVariables false
set_option linter.unnecessarySimpa false
open Go
/-- A call that answers the nil slice answers an own array of nothing. -/
theorem fcall_own_nil {P : Program} {f : FuncId} {args : List AV} {Q : AV → AHeap → Prop} (e : TypeId) (sz : Nat)
    (h : FCall P f args fun r H => (r = .one (.d .nil) ∧ H = []) ∨ Q r H) : FCall P f args fun r H => (∃ g, r = .one (.own 0 g 0 0) ∧ H = [some ⟨g, e, sz, []⟩]) ∨ Q r H := by
  intro clk w E vals hclk hsim hrel
  refine (h clk w E vals hclk hsim hrel).mono fun ex w' => ?_
  rintro ⟨v, r, H', E', rfl, hle, hsim', hr, hfrm, hlive, hI0, hrf, hHf, hp⟩
  rcases hp with ⟨rfl, rfl⟩ | hq
  · have hv : v = .slice none 0 0 := by
      have h1 : RelD w' E'.I .nil v := hr
      cases h1; rfl
    subst hv
    refine ⟨_, .one (.own 0 E'.clk 0 0), [some ⟨E'.clk, e, sz, []⟩], ⟨E'.I, [⟨E'.clk, none, e, sz, 0⟩], E'.clk + 1⟩, rfl, ?_, ?_, ?_, hfrm, ?_, hI0, rfl, ?_, .inl ⟨_, rfl, rfl⟩⟩
    · refine hle.trans ⟨fun b hb => ⟨hb, rfl⟩, Nat.le_succ _, fun k i' hi => .inr ?_⟩
      match k with
      | 0 => simp at hi; subst hi; exact Nat.le_refl _
      | k + 1 => simp at hi
    · refine ⟨rfl, fun k i hi => ?_, hsim'.I, fun k B hB => ?_, fun k k' B B' i i' b hB hB' hi hi' hb hb' => ?_, hsim'.glob⟩
      · match k with
        | 0 => simp at hi; subst hi; exact Nat.lt_succ_self _
        | k + 1 => simp at hi
      · match k with
        | 0 =>
          simp at hB; subst hB
          exact ⟨_, rfl, rfl, rfl, rfl, Nat.lt_succ_self _, rfl, rfl⟩
        | k + 1 => simp at hB
      · match k with
        | 0 => simp at hi; subst hi; cases hb
        | k + 1 => simp at hi
    · refine ⟨rfl, Nat.lt_succ_self _, fun i hi hg => ?_⟩
      simp at hi; subst hi
      exact ⟨none, 0, rfl, Nat.le_refl _, Nat.zero_le _, by simp, rfl, rfl⟩
    · rintro b ⟨k, B, i, hB, hi, hb⟩
      match k with
      | 0 => simp at hi; subst hi; cases hb
      | k + 1 => simp at hi
    · intro b hb
      simp at hb; subst hb
      intro c hc; simp at hc
  · exact ⟨v, r, H', E', rfl, hle, hsim', hr, hfrm, hlive, hI0, hrf, hHf, .inr hq⟩
/-- What a call leaves that nobody asks for is forgotten: which arrays are kept is said at the end. -/
def EPost (post : AV → AHeap → Prop) (r : AV) (H : AHeap) (c : Nat) : Prop := ∃ σ τ, GPost σ τ post r H c
theorem fcall_gatherE {P : Program} {f : FuncId} {args : List AV} {post : AV → AHeap → Prop} (h : ∀ clk, ACall P f args [] clk (EPost post)) : FCall P f args post := by
  intro clk w E vals hclk hsim hrel
  refine (h clk w E vals hclk hsim hrel).mono fun e w' => ?_
  rintro ⟨v, r, H', E', rfl, hle, hsim', hr, hfrm, hlive, hI0, σ, τ, hren, hblk, hnd, hrf, hHf, hpost⟩
  have hE0 : E.β = [] := List.eq_nil_of_length_eq_zero (by simpa using hsim.len)
  have hall : ∀ i ∈ σ, ∃ b, E'.β[i]? = some b := fun i hi => by
    obtain ⟨B, hB, _⟩ := hblk i hi
    obtain ⟨b, hb, _⟩ := hsim'.blk i B hB
    exact ⟨b, hb⟩
  let bi : Nat → BI := fun i => E'.β.getD i ⟨0, none, 0, 0, 0⟩
  have hbi : ∀ i ∈ σ, E'.β[i]? = some (bi i) := fun i hi => by
    obtain ⟨b, hb⟩ := hall i hi
    simp [bi, List.getD_eq_getElem?_getD, hb]
  let E2 : Env := ⟨E'.I, σ.map bi, E'.clk⟩
  have hβ : ∀ (j : Nat) (i : BI), E2.β[j]? = some i → E'.β[sig σ j]? = some i := fun j i hj => by
    simp only [E2, List.getElem?_map] at hj
    cases hs : σ[j]? with
    | none => simp [hs] at hj
    | some q =>
      simp [hs] at hj
      have : sig σ j = q := by simp [sig, List.getD_eq_getElem?_getD, hs]
      rw [this, hbi q (List.mem_of_getElem? hs), hj]
  have hgen : ∀ (j : Nat) (i : BI), E'.β[j]? = some i → E.clk ≤ i.gen := fun j i hi => by
    rcases hle.β j i hi with h | h
    · rw [hE0] at h; simp at h
    · exact h
  have hle2 : Env.Le w E w' E2 := ⟨hle.I, hle.clk, fun j i hi => .inr (hgen _ i (hβ j i hi))⟩
  have hle3 : Env.Le w' E' w' ⟨E'.I, E'.β, E'.clk⟩ := Env.Le.refl _ _
  have atG : ∀ (j : Nat) (B : ABlk), (gat σ τ H')[j]? = some (some B) → ∃ q B0, σ[j]? = some q ∧ H'[q]? = some (some B0) ∧ B = B0.ren τ ∧ (B0.ren τ).ren (sig σ) = B0 := fun j B hB => by
    simp only [gat, List.getElem?_map] at hB
    cases hs : σ[j]? with
    | none => simp [hs] at hB
    | some q =>
      obtain ⟨B0, hB0, hr0⟩ := hblk q (List.mem_of_getElem? hs)
      simp [hs, hB0] at hB
      exact ⟨q, B0, rfl, hB0, hB.symm, hr0⟩
  have hβq : ∀ (j q : Nat) (i : BI), σ[j]? = some q → E2.β[j]? = some i → E'.β[q]? = some i := fun j q i hs hi => by
    have := hβ j i hi
    simpa [sig, List.getD_eq_getElem?_getD, hs] using this
  refine ⟨v, r.ren τ, gat σ τ H', E2, rfl, hle2, ⟨by simp [E2, gat], ?_, hsim'.I, ?_, ?_, hsim'.glob⟩, ?_, hfrm, ?_, hI0, hrf, hHf, hpost⟩
  · intro j i hi
    exact hsim'.gens _ i (hβ j i hi)
  · intro j B hB
    obtain ⟨q, B0, hs, hB0, rfl, hr0⟩ := atG j B hB
    obtain ⟨i, hi, hok⟩ := hsim'.blk q B0 hB0
    have hij : E2.β[j]? = some i := by
      simp only [E2, List.getElem?_map, hs]
      have := hbi q (List.mem_of_getElem? hs)
      rw [hi] at this
      simpa using this.symm
    refine ⟨i, hij, hok.1, hok.2.1, hok.2.2.1, hok.2.2.2.1, ?_⟩
    obtain ⟨_, _, _, _, h5⟩ := hok
    cases hb : i.blk with
    | none => rw [hb] at h5; exact ⟨by simp [ABlk.ren, h5.1], h5.2⟩
    | some b =>
      rw [hb] at h5
      obtain ⟨hn, ⟨C, hC, hl, hlc, hrl⟩ | hm⟩ := h5
      · refine ⟨hn, .inl ⟨C, hC, hl, by simpa [ABlk.ren] using hlc, ?_⟩⟩
        have hcs : (B0.ren τ).cells.map (AC.ren (sig σ)) = B0.cells := congrArg ABlk.cells hr0
        have hlen : (B0.ren τ).cells.length = B0.cells.length := by simp [ABlk.ren]
        rw [hlen]
        rw [← hcs] at hrl
        have := unren_rels (E := E') (E' := E2) rfl rfl hβ hrl
        simpa [hlen] using this
      · exact ⟨hn, .inr hm.ren⟩
  · intro j j' B B' i i' b hB hB' hi hi' hb hb'
    obtain ⟨q, B0, hs, hB0, _, _⟩ := atG j B hB
    obtain ⟨q', B0', hs', hB0', _, _⟩ := atG j' B' hB'
    have hq := hsim'.apart q q' B0 B0' i i' b hB0 hB0' (hβq j q i hs hi) (hβq j' q' i' hs' hi') hb hb'
    subst hq
    have hjl : j < σ.length := (List.getElem?_eq_some_iff.1 hs).1
    exact (List.getElem?_inj hjl hnd).1 (hs.trans hs'.symm)
  · have h1 : RelV w' E' ((r.ren τ).ren (sig σ)) v := by rw [hren]; exact hr
    exact unren_relV (E := E') (E' := E2) rfl rfl hβ h1
  · rintro b ⟨j, B, i, hB, hi, hb⟩
    obtain ⟨q, B0, hs, hB0, _, _⟩ := atG j B hB
    exact hlive b ⟨q, B0, i, hB0, hβq j q i hs hi, hb⟩
end Go.Abs
namespace Go.Abs
set_option linter.unusedSimpArgs false
set_option linter.unusedVariables false
set_option linter.unnecessarySimpa false
open Go
section
variable {P : Program} {w : World} {E : Env}
/-- What speaks of the array j. -/
def ofJ (j : Nat) : AC → Bool
  | .own k _ _ _ => k == j
  | .ptr k _ _ => k == j
  | _ => false
theorem snap1_one {H : AHeap} {j : Nat} (hsim : SimH w E H) {c : AC} {d : DC} {v : Value} (hc : ofJ j c = true) (hd : snap1 H c = some d) (hr : RelC w E c v) :
    RelC w ⟨fun b => E.I b ∨ ∃ (B : ABlk) (i : BI), H[j]? = some (some B) ∧ E.β[j]? = some i ∧ i.blk = some b, E.β, E.clk⟩ (.d d) v := by
  have htk : ∀ {m q : Nat} {i : BI}, (E.β.take m)[q]? = some i → E.β[q]? = some i := fun {m q i} h => by
    rw [List.getElem?_take] at h
    split at h
    · exact h
    · cases h
  have hH : ∃ g B, blkAt H j g = some B ∧ H[j]? = some (some B) := by
    cases c with
    | own k g off n =>
      have hk : k = j := by simpa [ofJ] using hc
      subst hk
      simp only [snap1] at hd
      split at hd
      · rename_i B hB; exact ⟨g, B, hB, (blkAt_some hB).1⟩
      · cases hd
    | ptr k g off =>
      have hk : k = j := by simpa [ofJ] using hc
      subst hk
      simp only [snap1] at hd
      split at hd
      · rename_i B hB; exact ⟨g, B, hB, (blkAt_some hB).1⟩
      · cases hd
    | d c => simp [ofJ] at hc
    | mp k g => simp [ofJ] at hc
    | obj es c => simp [ofJ] at hc
    | any => simp [ofJ] at hc
  obtain ⟨g0, B, _, hB⟩ := hH
  let H1 : AHeap := (List.replicate j none) ++ [some B]
  have hsn : snap1 H1 c = some d := by
    have hb1 : ∀ g, blkAt H1 j g = blkAt H j g := fun g => by
      have : H1[j]? = some (some B) := by simp [H1]
      simp [blkAt, this, hB]
    cases c with
    | own k g off n =>
      have hk : k = j := by simpa [ofJ] using hc
      subst hk
      simp only [snap1] at hd ⊢
      rw [hb1]; exact hd
    | ptr k g off =>
      have hk : k = j := by simpa [ofJ] using hc
      subst hk
      simp only [snap1] at hd ⊢
      rw [hb1]; exact hd
    | d c => simp [ofJ] at hc
    | mp k g => simp [ofJ] at hc
    | obj es c => simp [ofJ] at hc
    | any => simp [ofJ] at hc
  have one : ∀ (q : Nat) (B' : ABlk), H1[q]? = some (some B') → q = j ∧ B' = B := fun q B' hB' => by
    simp only [H1, List.getElem?_append, List.length_replicate] at hB'
    split at hB'
    · rename_i hlt; simp [List.getElem?_replicate, hlt] at hB'
    · rename_i hge
      have : q - j = 0 := by
        rcases Nat.eq_zero_or_pos (q - j) with h | h
        · exact h
        · rw [List.getElem?_eq_none (by simp; omega)] at hB'; cases hB'
      rw [this] at hB'
      simp at hB'
      exact ⟨by omega, hB'.symm⟩
  refine snap1_rel' (st := ⟨[], H1, 0⟩) (E := ⟨E.I, E.β.take (j + 1), E.clk⟩) (c := c) ⟨?_, fun q i hi => hsim.gens q i (htk hi), hsim.I, fun q B' hB' => ?_, fun q q' B' B'' i i' b h1 h2 h3 h4 h5 h6 => ?_, hsim.glob⟩ (fun b hb => .inl hb) (fun b hb => ?_) hsn ?_
  · have hkl : j < H.length := (List.getElem?_eq_some_iff.1 hB).1
    have := hsim.len
    simp [H1]; omega
  · obtain ⟨rfl, rfl⟩ := one q B' hB'
    obtain ⟨i, hi, hok⟩ := hsim.blk q B' hB
    exact ⟨i, by rw [List.getElem?_take, if_pos (by omega)]; exact hi, hok.mono_same (E := E) (E' := ⟨E.I, E.β.take (q + 1), E.clk⟩) ⟨fun b hb => ⟨hb, rfl⟩, Nat.le_refl _, fun a i' hi' => .inl (htk hi')⟩ (fun _ _ hI => hI) (fun _ _ => rfl)⟩
  · rw [(one q B' h1).1, (one q' B'' h2).1]
  · obtain ⟨q, B', i, h1, h2, h3⟩ := hb
    obtain ⟨rfl, rfl⟩ := one q B' h1
    exact .inr ⟨B', i, hB, htk h2, h3⟩
  · cases c with
    | own k g off n => exact ⟨hr.1, hr.2.1, fun i hi hg => hr.2.2 i (htk hi) hg⟩
    | ptr k g off => exact ⟨hr.1, hr.2.1, fun i hi hg => hr.2.2 i (htk hi) hg⟩
    | d c => simp [ofJ] at hc
    | mp k g => simp [ofJ] at hc
    | obj es c => simp [ofJ] at hc
    | any => simp [ofJ] at hc
def frzC (H : AHeap) (j : Nat) (c : AC) : AC := if ofJ j c = true then (match snap1 H c with | some d => .d d | none => c) else c
def frzV (H : AHeap) (j : Nat) : AV → AV
  | .one c => .one (frzC H j c)
  | x => x
theorem codeOk_freeze {c : Code} {Q : Exit → ASt → Prop} {T : List AV} {H : AHeap} {clk : Nat} (j : Nat) (h : CodeOk P c Q ⟨T.map (frzV H j), H.set j none, clk⟩) : CodeOk P c Q ⟨T, H, clk⟩ := by
  intro ro n hr w0 E0 H0 a w ⟨E, hE⟩
  let B1 : Nat → Prop := fun b => ∃ (B : ABlk) (i : BI), H[j]? = some (some B) ∧ E.β[j]? = some i ∧ i.blk = some b
  let E1 : Env := ⟨fun b => E.I b ∨ B1 b, E.β, E.clk⟩
  have hsim : SimH w E H := hE.sim
  have hle1 : Env.Le w E w E1 := ⟨fun b hb => ⟨.inl hb, rfl⟩, Nat.le_refl _, fun k i' hi => .inl hi⟩
  have hset : ∀ (k : Nat) (B : ABlk), (H.set j none)[k]? = some (some B) → k ≠ j ∧ H[k]? = some (some B) := fun k B hB => by
    rw [List.getElem?_set] at hB
    split at hB
    · split at hB <;> simp at hB
    · rename_i hne; exact ⟨fun e => hne e.symm, hB⟩
  have hlive1 : ∀ b, B1 b → LiveB E H b := fun b ⟨B, i, h1, h2, h3⟩ => ⟨j, B, i, h1, h2, h3⟩
  have hlt1 : ∀ b, B1 b → b < w.heap.size := fun b hb => live_lt (st := ⟨[], H, 0⟩) hsim (hlive1 b hb)
  have hsim1 : SimH w E1 (H.set j none) := by
    refine ⟨by simp [E1, hsim.len], hsim.gens, ?_, ?_, ?_, fun g cs hg => (hsim.glob g cs hg).mono hle1.I⟩
    · rintro b (hb | hb)
      · exact hsim.I b hb
      · exact hlt1 b hb
    · intro k B hB
      obtain ⟨hkj, hB'⟩ := hset k B hB
      obtain ⟨i, hi, hok⟩ := hsim.blk k B hB'
      refine ⟨i, hi, hok.mono_same hle1 (fun b hb hI => ?_) (fun _ _ => rfl)⟩
      rcases hI with hI | ⟨B', i', h1, h2, h3⟩
      · exact hI
      · exact absurd (hsim.apart k j B B' i i' b hB' h1 hi h2 hb h3) hkj
    · intro k k' B B' i i' b hB hB' hi hi' hb hb'
      exact hsim.apart k k' B B' i i' b (hset k B hB).2 (hset k' B' hB').2 hi hi' hb hb'
  refine h ro n hr w0 E0 H0 a w ⟨E1, hE.dfr.mono hle1, hE.le.trans hle1, hE.clk, hsim1, ⟨by simpa using hE.rel.1, fun q x v hx hv => ?_⟩, hE.frm, ?_, ?_⟩
  · rw [List.getElem?_map] at hx
    cases ht : T[q]? with
    | none => simp [ht] at hx
    | some y =>
      simp [ht] at hx; subst hx
      have hr := hE.rel.2 q y v ht hv
      cases y with
      | one c =>
        have hr : RelC w E c v := hr
        show RelC w E1 (frzC H j c) v
        unfold frzC
        split
        · rename_i hj
          split
          · rename_i d hd; exact snap1_one hsim hj hd hr
          · exact hr.mono hle1
        · exact hr.mono hle1
      | agg cs => exact hr.mono hle1
      | tup vs => exact hr.mono hle1
  · rintro b ⟨k, B, i, h1, h2, h3⟩
    exact hE.live b ⟨k, B, i, (hset k B h1).2, h2, h3⟩
  · rintro b hb (hI | hb1)
    · exact hE.I0 b hb hI
    · rcases hE.live b (hlive1 b hb1) with h1 | h1
      · exact .inr h1
      · omega
end
/-- What is told of a variable that holds an error. -/
theorem glob_err {P : Program} {w : World} {name : String} {g tid te : Nat} {txt : List UInt8} {ad : Addr} {s : ByteArray} {c : Array Value} (hg : P.globalNamed name = some g)
    (hv : w.var? P name = some #[.iface tid (.pointer (some ad))]) (hs : w.cell? ad = some (.string s)) (hx : s.data.toList = txt) (hh : w.heap[ad.block]? = some (.cells c te (0, 0)))
    (ht : errT g = some (tid, txt)) (hG : globT g = some [.err g]) : RelD w (baseE w).I (.rptr [.err g]) (.pointer (some ⟨g, 0, none⟩)) := by
  have hc0 : w.cell? ⟨g, 0, none⟩ = some (.iface tid (.pointer (some ad))) := by simpa using World.var?_cell hg hv 0
  refine .rptr (fun _ => .iface tid (.pointer (some ad))) (cell_lt hc0) (fun j hj => ?_) (fun j hj => ?_)
  · have : j = 0 := by simpa using hj
    subst this
    exact hc0
  · have : j = 0 := by simpa using hj
    subst this
    exact .err ht hG (cell_lt hc0) hc0 (cell_lt hs) hs hx hh
end Go.Abs
namespace Go.Abs
set_option linter.unusedSimpArgs false
set_option linter.unusedVariables false
set_option linter.unnecessarySimpa false
open Go

section
variable {P : Program} {ev : Operand → AV} {H : AHeap} {c : Nat} {K : AV → AHeap → Nat → Prop}

@[simp] theorem capsA_nil : capsA [] = some [] := by rw [capsA]
@[simp] theorem capsA_cons (d : DC) (xs : List AV) : capsA (.one (.d d) :: xs) = (capsA xs).map (d :: ·) := by rw [capsA]
@[simp] theorem evA_func (tmps : List AV) (f : FuncId) : evA tmps (.func f) = .one (.d (.fn f [])) := by simp only [evA, ASt.eval]

/-- A function is made: what it has captured is told. -/
def mkFA (f : FuncId) (o : Option (List DC)) (K : AV → AHeap → Nat → Prop) (H : AHeap) (c : Nat) : Prop :=
  match o with
  | some cs => K (.one (.d (.fn f cs))) H c
  | none => False
@[simp] theorem mkFA_some (f : FuncId) (cs : List DC) : mkFA f (some cs) K H c = K (.one (.d (.fn f cs))) H c := propext Iff.rfl
@[congr] theorem mkFA_congr (f : FuncId) {o o' : Option (List DC)} (K : AV → AHeap → Nat → Prop) {H H' : AHeap} (c : Nat) (h : o = o') (h2 : H = H') : mkFA f o K H c = mkFA f o' K H' c := by rw [h, h2]
theorem makeFunc_eq (f : FuncId) (captured : Array Operand) : acore P (.makeFunc (.func f) #[] captured) ev H c K = mkFA f (capsA (captured.toList.map ev)) K H c := by
  simp only [acore, xcore]
  cases h : capsA (captured.toList.map ev) <;> simp [mkFA, h]
@[simp] theorem acore_makeFunc (f : FuncId) (captured : Array Operand) : acore P (.makeFunc (.func f) #[] captured) ev H c K = mkFA f (capsA (captured.toList.map ev)) K H c := makeFunc_eq (P := P) f captured
@[simp] theorem xmakeFunc (f : FuncId) (captured : Array Operand) : acoreX P (.makeFunc (.func f) #[] captured) ev H c K = mkFA f (capsA (captured.toList.map ev)) K H c := by
  have h : acoreX P (.makeFunc (.func f) #[] captured) ev H c K = acore P (.makeFunc (.func f) #[] captured) ev H c K := propext Iff.rfl
  rw [h]; exact makeFunc_eq f captured

/-- A value is called. -/
def callVA (P : Program) (f : AV) (xs : List AV) (H : AHeap) (c : Nat) (K : AV → AHeap → Nat → Prop) : Prop :=
  match f with
  | .one (.d (.fn f cs)) => callable P f = true ∧ ACall P f (xs ++ cs.map fun c => .one (.d c)) H c K
  | _ => False
@[congr] theorem callVA_congr (P : Program) {f f' : AV} {xs xs' : List AV} {H H' : AHeap} (c : Nat) (K : AV → AHeap → Nat → Prop) (h : f = f') (h1 : xs = xs') (h2 : H = H') : callVA P f xs H c K = callVA P f' xs' H' c K := by
  rw [h, h1, h2]
@[simp] theorem callVA_fn (f : FuncId) (cs : List DC) (xs : List AV) : callVA P (.one (.d (.fn f cs))) xs H c K = (callable P f = true ∧ ACall P f (xs ++ cs.map fun c => .one (.d c)) H c K) := propext Iff.rfl
@[simp] theorem acore_callv (t : Tmp) (args : Array Operand) (ts : Array TypeId) : acore P (.call { callee := .value (.tmp t), args := args, argTypes := ts }) ev H c K = callVA P (ev (.tmp t)) (args.toList.map ev) H c K := propext Iff.rfl
@[simp] theorem acoreX_callv (t : Tmp) (args : Array Operand) (ts : Array TypeId) : acoreX P (.call { callee := .value (.tmp t), args := args, argTypes := ts }) ev H c K = callVA P (ev (.tmp t)) (args.toList.map ev) H c K := propext Iff.rfl
end
end Go.Abs
namespace Go.Abs
set_option linter.unusedSimpArgs false
set_option linter.unusedVariables false
set_option linter.unnecessarySimpa false
open Go

/-- What lies in X lies as it lay. -/
structure Fix (X : Nat → Prop) (A B : World) : Prop where
  os : B.os = A.os
  tape : B.tape = A.tape
  output : Outs A B
  size : A.heap.size ≤ B.heap.size
  same : ∀ b, b < A.heap.size → X b → B.heap[b]? = A.heap[b]?
theorem Fix.refl (X : Nat → Prop) (A : World) : Fix X A A := ⟨rfl, rfl, .refl _, Nat.le_refl _, fun _ _ _ => rfl⟩
theorem Fix.trans {X : Nat → Prop} {A B C : World} (h : Fix X A B) (k : Fix X B C) : Fix X A C :=
  ⟨k.os.trans h.os, k.tape.trans h.tape, h.output.trans k.output, Nat.le_trans h.size k.size, fun b hb hx => (k.same b (Nat.lt_of_lt_of_le hb h.size) hx).trans (h.same b hb hx)⟩

section
variable {A B w0 : World} {E E0 : Env} {H0 : AHeap} {n0 : Nat}
theorem InvE.fix {X : Nat → Prop} (h : Fix X A B) {st : ASt} {a : Act} (hi : InvE w0 E0 H0 st a A E) (h0 : ∀ b, b < w0.heap.size → X b) (hI : ∀ b, E.I b → X b) (hL : ∀ b, LiveB E st.heap b → X b) : InvE w0 E0 H0 st a B E := by
  have hle : Env.Le A E B E := ⟨fun b hb => ⟨hb, h.same b (hi.sim.I b hb) (hI b hb)⟩, Nat.le_refl _, fun _ _ h => .inl h⟩
  refine ⟨hi.dfr.mono hle, hi.le.trans hle, hi.clk, ⟨hi.sim.len, hi.sim.gens, fun b hb => Nat.lt_of_lt_of_le (hi.sim.I b hb) h.size, fun k Bk hB => ?_, hi.sim.apart, fun g cs hg => (hi.sim.glob g cs hg).mono hle.I⟩, hi.rel.mono hle, ?_, hi.live, hi.I0⟩
  · obtain ⟨i, hik, hok⟩ := hi.sim.blk k Bk hB
    exact ⟨i, hik, hok.mono_same hle (fun _ _ hI => hI) (fun b hb => h.same b (hok.lt hb) (hL b ⟨k, Bk, i, hB, hik, hb⟩))⟩
  · exact ⟨h.os.trans hi.frm.os, h.tape.trans hi.frm.tape, hi.frm.output.trans h.output, Nat.le_trans hi.frm.size h.size, fun b hb hl => (h.same b (Nat.lt_of_lt_of_le hb hi.frm.size) (h0 b hb)).trans (hi.frm.block b hb hl)⟩
/-- What may be written is cells or a map. -/
theorem live_obj {H : AHeap} (hs : SimH A E H) {b : Nat} (h : LiveB E H b) : ∃ o, A.heap[b]? = some o ∧ ((∃ c t m, o = .cells c t m) ∨ ∃ es c, o = .map es c) := by
  obtain ⟨k, Bk, i, hB, hi, hbk⟩ := h
  obtain ⟨i', hi', h1, h2, h3, h4, h5⟩ := hs.blk k Bk hB
  rw [hi] at hi'; cases hi'
  rw [hbk] at h5
  rcases h5.2 with ⟨C, hC, _⟩ | ⟨_, es, c, _, hm⟩
  · exact ⟨_, hC, .inl ⟨_, _, _, rfl⟩⟩
  · exact ⟨_, hm, .inr ⟨_, _, rfl⟩⟩
/-- One stretch behind another: the slots are the elder's. -/
theorem InvE.andThen {st st' : ASt} {a a' : Act} {W W' : World} {E' : Env} (h : InvE w0 E0 H0 st a W E) (k : InvE W E st.heap st' a' W' E') : InvE w0 E0 H0 ⟨st.tmps, st'.heap, st'.clk⟩ a W' E' := by
  refine ⟨h.dfr.mono k.le, h.le.trans k.le, k.clk, k.sim, h.rel.mono k.le, ?_, ?_, fun b hb hI => (k.I0 b (Nat.lt_of_lt_of_le hb h.frm.size) hI).elim (fun g => h.I0 b hb g) fun g => (h.live b g).elim .inr fun g => absurd hb (Nat.not_lt.2 g)⟩
  · exact h.frm.trans k.frm (fun b hb hL => by
      rcases h.live b hL with g | g
      · exact g
      · omega)
  · intro b hb
    rcases k.live b hb with g | g
    · exact h.live b g
    · have := h.frm.size; exact .inr (by omega)
/-- A stretch begun anew. -/
theorem InvE.anew {st : ASt} {a : Act} {W : World} (h : InvE w0 E0 H0 st a W E) {T : List AV} {a1 : Act} (hd : a1.defers = []) (hr : RelVs W E T a1.tmps.toList) : InvE W E st.heap ⟨T, st.heap, st.clk⟩ a1 W E :=
  ⟨by rw [hd]; exact Marks.nil _ _ _, Env.Le.refl _ _, h.clk, h.sim, hr, Frm.refl _ _, fun b hb => .inl hb, fun b _ hb => .inl hb⟩
/-- What is neither cells nor a map lies as it lay. -/
theorem InvE.others {st : ASt} {a : Act} {H : AHeap} {W : World} (hs : SimH A E H) (h : InvE A E H st a W E0) {b : Nat} {o : Obj} (hb : A.heap[b]? = some o) (ho : (∀ c t m, o ≠ .cells c t m) ∧ ∀ es c, o ≠ .map es c) : W.heap[b]? = some o := by
  have hlt : b < A.heap.size := (Array.getElem?_eq_some_iff.1 hb).1
  rw [h.frm.block b hlt ?_]; exact hb
  rintro ⟨k, B, i, hB, hi, hbk⟩
  obtain ⟨i', hi', h1, h2, h3, h4, h5⟩ := hs.blk k B hB
  rw [hi] at hi'; cases hi'
  rw [hbk] at h5
  rcases h5.2 with ⟨C, hC, _⟩ | ⟨_, es, c, _, hm⟩
  · rw [hb] at hC; cases hC; exact ho.1 _ _ _ rfl
  · rw [hb] at hm; cases hm; exact ho.2 _ _ rfl
end
end Go.Abs
namespace Go.Abs
set_option linter.unusedSimpArgs false
set_option linter.unusedVariables false
set_option linter.unnecessarySimpa false
open Go

/-- What a round of the caller's does: it writes what it may write (L), and new blocks; X: all that it speaks of. -/
structure Shift (X L X' L' : Nat → Prop) (A B : World) : Prop where
  size : A.heap.size ≤ B.heap.size
  sX : ∀ b, X' b → X b ∨ A.heap.size ≤ b
  Xlt : ∀ b, X' b → b < B.heap.size
  sL : ∀ b, L' b → L b ∨ A.heap.size ≤ b
  LX : ∀ b, L' b → X' b
  same : ∀ b, b < A.heap.size → ¬ L b → B.heap[b]? = A.heap[b]?

/-- What an iterator owes, called with yield and what it has captured. -/
def ASeq {α : Type} (P : Program) (f : FuncId) (cs : List DC) (encs : α → List Value) (S Sp : List α → Prop) (N : Nat) : Prop :=
  ∀ (l : Nat) (I : Nat → Prop) (lb : List Value) (J Jx : (Nat → Prop) → (Nat → Prop) → List α → World → Prop) (W : World) (X0 L0 : Nat → Prop),
    cs.length = lb.length → (∀ (j : Nat) c v, cs[j]? = some c → lb[j]? = some v → RelD W I c v) → (∀ b, I b → b < W.heap.size) → GlobOk W I →
    (∀ X L pre A B, J X L pre A → Fix X A B → J X L pre B) → (∀ X L pre A B, Jx X L pre A → Fix X A B → Jx X L pre B) →
    (∀ pre x W1 X L, J X L pre W1 → pre.length < N → YieldAt (Wd none) 0 P l (encs x).toArray W1 fun e W' => ∃ X' L', Shift X L X' L' W1 W' ∧
      ((e = .returned (.bool true) ∧ J X' L' (pre ++ [x]) W') ∨ (e = .returned (.bool false) ∧ Jx X' L' (pre ++ [x]) W'))) →
    J X0 L0 [] W → (∀ b, X0 b → b < W.heap.size) → (∀ b, L0 b → X0 b) → (∀ b, L0 b → ¬ I b) →
    Calls P f (#[.func (.yield l) #[] #[]] ++ lb.toArray) W fun e W' => (∃ v, e = .returned v) ∧ ((∃ xs X L, S xs ∧ J X L xs W') ∨ (∃ pre X L, Sp pre ∧ Jx X L pre W'))

/-- How a round may end. -/
def roundK {α : Type} (Iv : List α → AHeap → Nat → Prop) (Ix : Code → List α → AHeap → Nat → Prop) (xs : List α) : Exit → ASt → Prop
  | .normal, s => ∃ H', WkH s.heap H' ∧ Iv xs H' s.clk
  | .ret, s => Ix .ret xs s.heap s.clk
  | .exit id, s => Ix (.exit id) xs s.heap s.clk
  | .goto t, s => Ix (.goto t) xs s.heap s.clk
  | _, _ => False

def putsA (T : List AV) (ps : List Tmp) (xs : List AV) : List AV := (ps.zip xs).foldl (fun t p => t.set p.1 p.2) T

section
variable {P : Program}
theorem puts_rel {W : World} {E : Env} : ∀ (ps : List Tmp) (xs : List AV) (vs : List Value) (T : List AV) (tm : Array Value), RelVs W E T tm.toList → RelVs W E xs vs →
    RelVs W E (putsA T ps xs) ((ps.zip vs).foldl (fun t p => t.setIfInBounds p.1 p.2) tm).toList
  | [], _, _, T, tm, h, _ => h
  | p :: ps, [], [], T, tm, h, _ => by simpa [putsA] using h
  | p :: ps, [], v :: vs, T, tm, h, hx => by have := hx.1; simp at this
  | p :: ps, x :: xs, [], T, tm, h, hx => by have := hx.1; simp at this
  | p :: ps, x :: xs, v :: vs, T, tm, h, hx => by
    have h1 : RelVs W E (T.set p x) (tm.setIfInBounds p v).toList := by
      have := h.set p (hx.2 0 x v rfl rfl)
      simpa using this
    have h2 : RelVs W E xs vs := ⟨by have := hx.1; simpa using this, fun j y u hy hu => hx.2 (j + 1) y u (by simpa using hy) (by simpa using hu)⟩
    have := puts_rel ps xs vs _ _ h1 h2
    simpa [putsA] using this
theorem keepA_all : ∀ (xs : List AV), keepA (List.replicate xs.length true) xs = xs
  | [] => rfl
  | x :: xs => by simp [List.replicate_succ, keepA, keepA_all xs]
theorem WkH.refl (H : AHeap) : WkH H H := ⟨Nat.le_refl _, fun k b b' h h' => by rw [h] at h'; cases h'; exact WkB_refl b⟩
theorem InvE.weakH {w0 w : World} {E0 E : Env} {H0 : AHeap} {st : ASt} {a : Act} (h : InvE w0 E0 H0 st a w E) {H' : AHeap} (hw : WkH st.heap H') : InvE w0 E0 H0 ⟨st.tmps, H', st.clk⟩ a w ⟨E.I, E.β.take H'.length, E.clk⟩ := by
  have := h.weak (List.replicate st.tmps.length true) hw
  rwa [keepA_all] at this
theorem wk_live {E : Env} {H H' : AHeap} (hw : WkH H H') {b : Nat} (h : LiveB ⟨E.I, E.β.take H'.length, E.clk⟩ H' b) : LiveB E H b := by
  obtain ⟨k, B', i, hB', hi, hb⟩ := h
  have hk : k < H.length := Nat.lt_of_lt_of_le (List.getElem?_eq_some_iff.1 hB').1 hw.1
  obtain ⟨B, hB, _⟩ := hw.2 k _ _ (List.getElem?_eq_getElem hk) hB'
  have hi' : (E.β.take H'.length)[k]? = some i := hi
  rw [List.getElem?_take] at hi'
  split at hi'
  · exact ⟨k, B, i, by rw [List.getElem?_eq_getElem hk, hB], hi', hb⟩
  · cases hi'
@[simp] theorem AW_range {P : Program} {Q : Exit → ASt → Prop} {st : ASt} (g : Operand) (ps : Array Tmp) (x y : Code) : AW P (.rangeFunc g ps x y) Q st = CodeOk P (.rangeFunc g ps x y) Q st := propext Iff.rfl
theorem fix_alloc (w : World) (o : Obj) (X : Nat → Prop) : Fix X w (w.alloc o) := ⟨rfl, rfl, ⟨rfl, Nat.le_refl _⟩, by simp, fun b hb _ => alloc_old w o b hb⟩
theorem fix_put (w : World) (l : Nat) (o : Obj) : Fix (fun b => b ≠ l) w (w.putObj l o) := ⟨rfl, rfl, ⟨rfl, Nat.le_refl _⟩, by simp, fun b _ hx => World.putObj_heap_other hx⟩
/-- A mark is laid by. -/
theorem InvE.mark {w0 W : World} {E0 E : Env} {H0 : AHeap} {st : ASt} {a : Act} (h : InvE w0 E0 H0 st a W E) {D : Nat} (hD : W.heap[D]? = some (.deferred (some []))) (hs : w0.heap.size ≤ D)
    (hnot : ∀ q, ({ target := .collected q, args := #[] } : Deferred) ∈ a.defers → q ≠ D) :
    InvE w0 E0 H0 st { a with defers := { target := .collected D, args := #[] } :: a.defers } W ⟨fun b => E.I b ∨ b = D, E.β, E.clk⟩ := by
  have hle : Env.Le W E W ⟨fun b => E.I b ∨ b = D, E.β, E.clk⟩ := ⟨fun b hb => ⟨.inl hb, rfl⟩, Nat.le_refl _, fun k i' hi => .inl hi⟩
  refine ⟨?_, h.le.trans hle, h.clk, ?_, h.rel.mono hle, h.frm, h.live, fun b hb hI => hI.elim (h.I0 b hb) fun e => by omega⟩
  · obtain ⟨Ds, h1, h2, h3⟩ := h.dfr
    refine ⟨D :: Ds, by simp [h1], List.nodup_cons.2 ⟨fun hm => hnot D (by rw [h1]; exact List.mem_map.2 ⟨D, hm, rfl⟩) rfl, h2⟩, fun q hq => ?_⟩
    rcases List.mem_cons.1 hq with rfl | hq
    · exact ⟨hs, .inr rfl, hD⟩
    · exact ⟨(h3 q hq).1, .inl (h3 q hq).2.1, (h3 q hq).2.2⟩
  · refine ⟨h.sim.len, h.sim.gens, fun b hb => hb.elim (h.sim.I b) fun e => by subst e; exact (Array.getElem?_eq_some_iff.1 hD).1, fun k B hB => ?_, h.sim.apart, fun g cs hg => (h.sim.glob g cs hg).mono hle.I⟩
    obtain ⟨i, hi, hok⟩ := h.sim.blk k B hB
    refine ⟨i, hi, hok.mono_same hle (fun b hb hI => ?_) (fun _ _ => rfl)⟩
    rcases hI with hI | rfl
    · exact hI
    · exfalso
      obtain ⟨g1, g2, g3, g4, g5⟩ := hok
      rw [hb] at g5
      rcases g5.2 with ⟨C, hC, _⟩ | ⟨_, es, c, _, hm⟩
      · rw [hD] at hC; cases hC
      · rw [hD] at hm; cases hm
theorem codeOk_range {α : Type} {g : Operand} {ps : Array Tmp} {assign body : Code} {Q : Exit → ASt → Prop} {T : List AV} {H : AHeap} {clk : Nat} {f : FuncId} {cs : List DC}
    {encs : α → List Value} {S Sp : List α → Prop} {N : Nat} (xv : α → List AV) (Iv : List α → AHeap → Nat → Prop) (Ix : Code → List α → AHeap → Nat → Prop)
    (hg : ASt.eval ⟨T, H, clk⟩ g = .one (.d (.fn f cs))) (hf : callable P f = true) (hseq : ASeq P f cs encs S Sp N)
    (hx : ∀ x (W : World) (E : Env), RelVs W E (xv x) (encs x)) (hps : ∀ x, (encs x).length = ps.size) (hn1 : noRange assign = true) (hn2 : noRange body = true)
    (h0 : Iv [] H clk)
    (hround : ∀ pre x H' c', Iv pre H' c' → pre.length < N → AW P assign (AExit.then (AW P body (roundK Iv Ix (pre ++ [x]))) (fun _ _ => False)) ⟨putsA T ps.toList (xv x), H', c'⟩)
    (hdone : ∀ xs H' c', S xs → Iv xs H' c' → Q .normal ⟨T, H', c'⟩)
    (hstop : ∀ c pre H' c', Sp pre → Ix c pre H' c' → AW P c Q ⟨T, H', c'⟩) :
    CodeOk P (.rangeFunc g ps assign body) Q ⟨T, H, clk⟩ := by
  intro ro n hr w0 E0 H0 a w ⟨E, hE⟩
  have hro : ro = none := hr.resolve_right (by simp [noRange])
  subst hro
  have hgv := hE.eval g
  rw [hg] at hgv
  generalize hq : a.eval g = q at hgv
  cases hgv with
  | fn lbf hlb =>
  refine wpIn_rangeFunc ?_
  intro fn _
  obtain ⟨rec, hrec⟩ : ∃ rec : LoopState → Option Code → Loop, rec = fun st pe => { state := st, pending := pe, fn, tmps := a.tmps, params := ps, assign, body, defers := w.heap.size } := ⟨_, rfl⟩
  obtain ⟨W1, hW1⟩ : ∃ W1, (w.alloc (.deferred (some []))).alloc (.loop (rec .ready none)) = W1 := ⟨_, rfl⟩
  have hL1 : W1.heap[w.heap.size + 1]? = some (.loop (rec .ready none)) := by
    rw [← hW1]; have := World.alloc_heap_new (w.alloc (.deferred (some []))) (.loop (rec .ready none)); rwa [World.size_alloc] at this
  have hK1 : W1.heap[w.heap.size]? = some (.deferred (some [])) := by
    rw [← hW1, alloc_old _ _ _ (by simp)]; exact World.alloc_heap_new w _
  have hT1 : Fix (fun _ => True) w W1 := by rw [← hW1]; exact (fix_alloc w _ _).trans (fix_alloc _ _ _)
  have hs0 : w0.heap.size ≤ w.heap.size := hE.frm.size
  have hsz : W1.heap.size = w.heap.size + 2 := by rw [← hW1]; simp
  have hE1 : InvE w0 E0 H0 ⟨T, H, clk⟩ a W1 E := hE.fix hT1 (fun _ _ => trivial) (fun _ _ => trivial) (fun _ _ => trivial)
  obtain ⟨lb, hlbe⟩ : ∃ lb : List Value, lb = (List.range cs.length).map lbf := ⟨_, rfl⟩
  rw [← hlbe] at hq
  refine ⟨w.heap.size + 1, [{ target := .collected w.heap.size, args := #[] }], W1, { target := .fn (.func f) lb.toArray, args := #[.func (.yield (w.heap.size + 1)) #[] #[]] }, W1, f,
    #[.func (.yield (w.heap.size + 1)) #[] #[]] ++ lb.toArray, W1, ?_, ?_, fun _ _ => trivial, ?_, fun h => by simp at h, ?_⟩
  · rw [← hW1, hrec]; exact run_enterLoop_outer _ _ _ _ _
  · simp only [resolve, hq]
    simp [Deferred.ofValue, Act.eval]
  · simp [invoke, run_callFunc hf]
  · have hnl : ∀ {W : World} {E' : Env} {H' : AHeap} {r : Loop} {l : Nat}, SimH W E' H' → W.heap[l]? = some (.loop r) → ¬ LiveB E' H' l := fun hs hl hlive => by
      obtain ⟨o, ho, h⟩ := live_obj hs hlive
      rw [hl] at ho; cases ho
      rcases h with ⟨c, t, m, e⟩ | ⟨es, c, e⟩ <;> cases e
    have hnE : ¬ E.I (w.heap.size + 1) := fun h => by have := hE.sim.I _ h; omega
    have hnE2 : ¬ E.I w.heap.size := fun h => by have := hE.sim.I _ h; omega
    let J : (Nat → Prop) → (Nat → Prop) → List α → World → Prop := fun X L pre W => ∃ E' H' c', InvE w0 E0 H0 ⟨T, H', c'⟩ a W E' ∧ Iv pre H' c' ∧ W.heap[w.heap.size + 1]? = some (.loop (rec .ready none)) ∧ W.heap[w.heap.size]? = some (.deferred (some [])) ∧
      (∀ b, b < W1.heap.size → X b) ∧ (∀ b, E'.I b → X b) ∧ (∀ b, LiveB E' H' b → X b) ∧ (∀ b, L b ↔ LiveB E' H' b ∨ b = w.heap.size + 1) ∧ ¬ E'.I (w.heap.size + 1) ∧ ¬ E'.I w.heap.size
    let Jx : (Nat → Prop) → (Nat → Prop) → List α → World → Prop := fun X L pre W => ∃ c E' H' c', InvE w0 E0 H0 ⟨T, H', c'⟩ a W E' ∧ Ix c pre H' c' ∧ W.heap[w.heap.size + 1]? = some (.loop (rec .done (some c))) ∧ W.heap[w.heap.size]? = some (.deferred (some [])) ∧
      (∀ b, b < W1.heap.size → X b) ∧ (∀ b, E'.I b → X b) ∧ (∀ b, LiveB E' H' b → X b) ∧ ¬ E'.I (w.heap.size + 1) ∧ ¬ E'.I w.heap.size
    have hliveW : ∀ b, LiveB E H b → b < w.heap.size := fun b hb => live_lt (st := ⟨[], H, 0⟩) hE.sim hb
    refine callsIn_wd.2 ((hseq (w.heap.size + 1) E.I lb J Jx W1 (fun b => b < W1.heap.size) (fun b => LiveB E H b ∨ b = w.heap.size + 1) (by simp [hlbe]) ?_ hE1.sim.I hE1.sim.glob ?_ ?_ ?_
      ⟨E, H, clk, hE1, h0, hL1, hK1, fun _ h => h, hE1.sim.I, fun b hb => by have := hliveW b hb; omega, fun b => Iff.rfl, hnE, hnE2⟩ (fun b hb => hb) (fun b hb => (hb.elim (fun hb => by have := hliveW b hb; omega) (fun hb => by omega) : b < W1.heap.size)) (fun b hb => ?_)).mono ?_)
    · intro j c v hc hv
      obtain ⟨hj, rfl⟩ := List.getElem?_eq_some_iff.1 hc
      rw [hlbe] at hv
      simp [List.getElem?_range hj] at hv
      subst hv
      exact (hlb j hj).mono fun b hb => ⟨hb, hT1.same b (hE.sim.I b hb) trivial⟩
    · rintro X L pre A B ⟨E', H', c', hi, hv, hl, hk, x1, x2, x3, x4, x5, x6⟩ ht
      have same : ∀ b o, b < W1.heap.size → A.heap[b]? = some o → B.heap[b]? = some o := fun b o hb ho => by rw [ht.same b (Array.getElem?_eq_some_iff.1 ho).1 (x1 b hb)]; exact ho
      exact ⟨E', H', c', hi.fix ht (fun b hb => x1 b (by omega)) x2 x3, hv, same _ _ (by omega) hl, same _ _ (by omega) hk, x1, x2, x3, x4, x5, x6⟩
    · rintro X L pre A B ⟨c, E', H', c', hi, hv, hl, hk, x1, x2, x3, x5, x6⟩ ht
      have same : ∀ b o, b < W1.heap.size → A.heap[b]? = some o → B.heap[b]? = some o := fun b o hb ho => by rw [ht.same b (Array.getElem?_eq_some_iff.1 ho).1 (x1 b hb)]; exact ho
      exact ⟨c, E', H', c', hi.fix ht (fun b hb => x1 b (by omega)) x2 x3, hv, same _ _ (by omega) hl, same _ _ (by omega) hk, x1, x2, x3, x5, x6⟩
    · rintro pre x W2 X L ⟨E2, H2, c2, hi, hv, hl, hk, x1, x2, x3, x4, x5, x6⟩ hlen
      have hy := run_yield (P := P) (args := (encs x).toArray) hl (by rw [hrec]; simpa using hps x)
      rw [hrec] at hy
      refine ⟨fn, _, assign, body, hy, roundIn_of_wpIn trivial ?_⟩
      have hst := hi.anew (T := putsA T ps.toList (xv x)) (a1 := { tmps := (ps.zip (encs x).toArray).foldl (fun t (p, v) => t.setIfInBounds p v) a.tmps, defers := [] }) rfl
        (by
          have hz : (ps.zip (encs x).toArray).foldl (fun t (p, v) => t.setIfInBounds p v) a.tmps = (ps.toList.zip (encs x)).foldl (fun t p => t.setIfInBounds p.1 p.2) a.tmps := by
            rw [← Array.foldl_toList, Array.toList_zip]
          have := puts_rel ps.toList (xv x) (encs x) T a.tmps hi.rel (hx x W2 E2)
          rw [← hz] at this
          exact this)
      have hnl2 := hnl hi.sim hl
      have hnd2 : ¬ LiveB E2 H2 w.heap.size := fun hlive => by
        obtain ⟨o, ho, h⟩ := live_obj hi.sim hlive
        rw [hk] at ho; cases ho
        rcases h with ⟨c, t, m, e⟩ | ⟨es, c, e⟩ <;> cases e
      have hl2lt : w.heap.size + 1 < W2.heap.size := (Array.getElem?_eq_some_iff.1 hl).1
      refine wpIn_mono (aw_sound assign _ _ (hround pre x H2 c2 hv hlen) (some (w.heap.size + 1)) 0 (.inr hn1) W2 E2 H2 _ _ ⟨E2, hst⟩) ?_
      rintro e a3 W3 ⟨hd3, s3, hq3, E3, hE3⟩
      cases e with
      | normal =>
        have hi3 := hi.andThen hE3
        have hl3 := hE3.others hi.sim hl (by simp)
        have hk3 := hE3.others hi.sim hk (by simp)
        refine ⟨_, run_beginRound hl3 (by rw [hrec]), ?_⟩
        have ht4 := fix_put W3 (w.heap.size + 1) (.loop { rec .ready none with state := .busy })
        have n3l : ¬ E3.I (w.heap.size + 1) := fun h => (hE3.I0 _ hl2lt h).elim x5 hnl2
        have n3d : ¬ E3.I w.heap.size := fun h => (hE3.I0 _ (by omega) h).elim x6 hnd2
        have nl3 := hnl hE3.sim hl3
        have hi4 := hi3.fix ht4 (fun b hb => by omega) (fun b hb => fun e => n3l (e ▸ hb)) (fun b hb => fun e => nl3 (e ▸ hb))
        have hl4 : (W3.putObj (w.heap.size + 1) (.loop { rec .ready none with state := .busy })).heap[w.heap.size + 1]? = some (.loop { rec .ready none with state := .busy }) := World.putObj_heap_same (Array.getElem?_eq_some_iff.1 hl3).1
        have hk4 : (W3.putObj (w.heap.size + 1) (.loop { rec .ready none with state := .busy })).heap[w.heap.size]? = some (.deferred (some [])) := by rw [World.putObj_heap_other (by omega)]; exact hk3
        have hle4 : Env.Le W3 E3 (W3.putObj (w.heap.size + 1) (.loop { rec .ready none with state := .busy })) E3 := ⟨fun b hb => ⟨hb, World.putObj_heap_other (fun e => n3l (e ▸ hb))⟩, Nat.le_refl _, fun _ _ h => .inl h⟩
        have hst4 := hi4.anew (T := s3.tmps) (a1 := a3) (hd3.resolve_left (by simp [hn1])) (hE3.rel.mono hle4)
        refine wpIn_mono (aw_sound body _ _ hq3 (some (w.heap.size + 1)) 0 (.inr hn2) _ _ _ _ _ ⟨E3, hst4⟩) ?_
        rintro e a5 W5 ⟨_, s5, hq5, E5, hE5⟩
        have hi5 := hi4.andThen hE5
        have hl5 := hE5.others hi4.sim hl4 (by simp)
        have hk5 := hE5.others hi4.sim hk4 (by simp)
        have hl4lt : w.heap.size + 1 < (W3.putObj (w.heap.size + 1) (.loop { rec .ready none with state := .busy })).heap.size := (Array.getElem?_eq_some_iff.1 hl4).1
        have n5l : ¬ E5.I (w.heap.size + 1) := fun h => (hE5.I0 _ hl4lt h).elim n3l (hnl hi4.sim hl4)
        have n5d : ¬ E5.I w.heap.size := fun h => (hE5.I0 _ (by omega) h).elim n3d (fun hlive => by
          obtain ⟨o, ho, h⟩ := live_obj hi4.sim hlive
          rw [hk4] at ho; cases ho
          rcases h with ⟨c, t, m, e⟩ | ⟨es, c, e⟩ <;> cases e)
        have nl5 := hnl hE5.sim hl5
        have s23 : W2.heap.size ≤ W3.heap.size := hE3.frm.size
        have s35 : W3.heap.size ≤ W5.heap.size := by have := hE5.frm.size; simpa using this
        have fin : ∀ (jump : Option Code) (H' : AHeap) (hwk : WkH s5.heap H'), (Instr.endRound (w.heap.size + 1) jump).run P W5 = .ok (.bool jump.isNone) (W5.putObj (w.heap.size + 1) (.loop (rec (if jump.isNone then .ready else .done) jump))) ∧
            InvE w0 E0 H0 ⟨T, H', s5.clk⟩ a (W5.putObj (w.heap.size + 1) (.loop (rec (if jump.isNone then .ready else .done) jump))) ⟨E5.I, E5.β.take H'.length, E5.clk⟩ ∧
            (W5.putObj (w.heap.size + 1) (.loop (rec (if jump.isNone then .ready else .done) jump))).heap[w.heap.size + 1]? = some (.loop (rec (if jump.isNone then .ready else .done) jump)) ∧
            (W5.putObj (w.heap.size + 1) (.loop (rec (if jump.isNone then .ready else .done) jump))).heap[w.heap.size]? = some (.deferred (some [])) ∧
            (∀ b, b < W1.heap.size → (fun b => b < (W5.putObj (w.heap.size + 1) (.loop (rec (if jump.isNone then .ready else .done) jump))).heap.size ∧ (X b ∨ W2.heap.size ≤ b)) b) ∧
            (∀ b, E5.I b → (fun b => b < (W5.putObj (w.heap.size + 1) (.loop (rec (if jump.isNone then .ready else .done) jump))).heap.size ∧ (X b ∨ W2.heap.size ≤ b)) b) ∧
            (∀ b, LiveB ⟨E5.I, E5.β.take H'.length, E5.clk⟩ H' b → (fun b => b < (W5.putObj (w.heap.size + 1) (.loop (rec (if jump.isNone then .ready else .done) jump))).heap.size ∧ (X b ∨ W2.heap.size ≤ b)) b) ∧
            Shift X L (fun b => b < (W5.putObj (w.heap.size + 1) (.loop (rec (if jump.isNone then .ready else .done) jump))).heap.size ∧ (X b ∨ W2.heap.size ≤ b)) (fun b => LiveB ⟨E5.I, E5.β.take H'.length, E5.clk⟩ H' b ∨ b = w.heap.size + 1) W2 (W5.putObj (w.heap.size + 1) (.loop (rec (if jump.isNone then .ready else .done) jump))) := fun jump H' hwk => by
          have ht := fix_put W5 (w.heap.size + 1) (.loop (rec (if jump.isNone then .ready else .done) jump))
          have he := run_endRound (P := P) jump hl5
          have hi5w := InvE.weakH (st := ⟨T, s5.heap, s5.clk⟩) hi5 hwk
          have live5 : ∀ b, LiveB ⟨E5.I, E5.β.take H'.length, E5.clk⟩ H' b → LiveB E2 H2 b ∨ W2.heap.size ≤ b := fun b hb => (hE5.live b (wk_live hwk hb)).elim (fun h => hE3.live b h) fun h => .inr (by simp at h; omega)
          have hI5 : ∀ b, E5.I b → X b ∨ W2.heap.size ≤ b := fun b hb => by
            rcases Nat.lt_or_ge b W2.heap.size with hlt | hge
            · left
              rcases hE5.I0 b (by simp; omega) hb with h | h
              · rcases hE3.I0 b hlt h with h | h
                · exact x2 b h
                · exact x3 b h
              · rcases hE3.live b h with h | h
                · exact x3 b h
                · omega
            · exact .inr hge
          refine ⟨by rw [hrec] at he ⊢; exact he, hi5w.fix ht (fun b hb => by omega) (fun b hb => fun e => n5l (e ▸ hb)) (fun b hb => fun e => nl5 (e ▸ wk_live hwk hb)), World.putObj_heap_same (Array.getElem?_eq_some_iff.1 hl5).1, by rw [World.putObj_heap_other (by omega)]; exact hk5, fun b hb => ⟨by simp; omega, .inl (x1 b hb)⟩,
            fun b hb => ⟨by simpa using hE5.sim.I b hb, hI5 b hb⟩, fun b hb => ⟨by simpa using live_lt (st := s5) hE5.sim (wk_live hwk hb), (live5 b hb).imp (fun h => x3 b h) id⟩, ?_⟩
          refine ⟨by simp; omega, fun b hb => hb.2, fun b hb => hb.1, fun b hb => ?_, fun b hb => ?_, fun b hb hL => ?_⟩
          · rcases hb with hb | rfl
            · exact (live5 b hb).imp (fun h => (x4 b).2 (.inl h)) id
            · exact .inl ((x4 _).2 (.inr rfl))
          · rcases hb with hb | rfl
            · exact ⟨by simpa using live_lt (st := s5) hE5.sim (wk_live hwk hb), (live5 b hb).imp (fun h => x3 b h) id⟩
            · exact ⟨by simp; omega, .inl (x1 _ (by omega))⟩
          · have hne : b ≠ w.heap.size + 1 := fun e => hL ((x4 b).2 (.inr e))
            have hnlv : ¬ LiveB E2 H2 b := fun h => hL ((x4 b).2 (.inl h))
            have g3 := hE3.frm.block b hb hnlv
            have g5 := hE5.frm.block b (by simp; omega) (fun h => (hE3.live b h).elim hnlv (fun h => by omega))
            rw [World.putObj_heap_other hne, g5, World.putObj_heap_other hne, g3]
        cases e with
        | normal =>
          obtain ⟨H', hwk, hq5⟩ := hq5
          obtain ⟨f1, f2, f3, f4, f5, f6, f7, f8⟩ := fin none H' hwk
          exact ⟨_, _, f1, _, _, f8, .inl ⟨rfl, ⟨_, _, _, f2, hq5, f3, f4, f5, f6, f7, fun b => Iff.rfl, n5l, n5d⟩⟩⟩
        | ret =>
          obtain ⟨f1, f2, f3, f4, f5, f6, f7, f8⟩ := fin (some .ret) _ (WkH.refl _)
          exact ⟨_, _, f1, _, _, f8, .inr ⟨rfl, .ret, _, _, _, f2, hq5, f3, f4, f5, f6, f7, n5l, n5d⟩⟩
        | exit id =>
          obtain ⟨f1, f2, f3, f4, f5, f6, f7, f8⟩ := fin (some (.exit id)) _ (WkH.refl _)
          exact ⟨_, _, f1, _, _, f8, .inr ⟨rfl, .exit id, _, _, _, f2, hq5, f3, f4, f5, f6, f7, n5l, n5d⟩⟩
        | goto t =>
          obtain ⟨f1, f2, f3, f4, f5, f6, f7, f8⟩ := fin (some (.goto t)) _ (WkH.refl _)
          exact ⟨_, _, f1, _, _, f8, .inr ⟨rfl, .goto t, _, _, _, f2, hq5, f3, f4, f5, f6, f7, n5l, n5d⟩⟩
        | panic c => exact hq5.elim
        | outgrown => exact hq5.elim
      | _ => exact hq3.elim
    · rcases hb with hb | rfl
      · obtain ⟨k, Bk, i, hB, hik, hbk⟩ := hb
        obtain ⟨i', hi', _, _, _, _, h5⟩ := hE.sim.blk k Bk hB
        rw [hik] at hi'; cases hi'
        rw [hbk] at h5
        exact h5.1
      · exact hnE
    · have hmk : ∀ q, ({ target := .collected q, args := #[] } : Deferred) ∈ a.defers → q ≠ w.heap.size := fun q hq' => by
        obtain ⟨Ds, hd1, hd2, hd3⟩ := hE.dfr
        rw [hd1] at hq'
        obtain ⟨D, hD, he⟩ := List.mem_map.1 hq'
        simp at he
        subst he
        have := hE.sim.I D (hd3 D hD).2.1
        omega
      rintro e W6 ⟨⟨v, rfl⟩, (⟨xs, X, L, hS, E6, H6, c6, hi, hv, hl, hk, x1, x2, x3, x4, x5, x6⟩ | ⟨pre, X, L, hSp, c, E6, H6, c6, hi, hv, hl, hk, x1, x2, x3, x5, x6⟩)⟩
      · have he := run_endLoop (P := P) hl (by rw [hrec]; simp)
        have ht := fix_put W6 (w.heap.size + 1) (.loop { rec .ready none with state := .exhausted })
        refine ⟨_, _, he, ?_⟩
        have nl6 := hnl hi.sim hl
        have hm := (hi.fix ht (fun b hb => by omega) (fun b hb => fun e => x5 (e ▸ hb)) (fun b hb => fun e => nl6 (e ▸ hb))).mark (D := w.heap.size) (by rw [World.putObj_heap_other (by omega)]; exact hk) hs0 hmk
        rw [hrec] at hm ⊢
        exact ⟨.inl rfl, ⟨T, H6, c6⟩, hdone xs H6 c6 hS hv, _, hm⟩
      · have he := run_endLoop (P := P) hl (by rw [hrec]; simp)
        have ht := fix_put W6 (w.heap.size + 1) (.loop { rec .done (some c) with state := .exhausted })
        refine ⟨_, _, he, ?_⟩
        have nl6 := hnl hi.sim hl
        have hm := (hi.fix ht (fun b hb => by omega) (fun b hb => fun e => x5 (e ▸ hb)) (fun b hb => fun e => nl6 (e ▸ hb))).mark (D := w.heap.size) (by rw [World.putObj_heap_other (by omega)]; exact hk) hs0 hmk
        rw [hrec] at hm ⊢
        have hfin := aw_sound c _ _ (hstop c pre H6 c6 hSp hv) none n (.inl rfl) w0 E0 H0 _ _ ⟨_, hm⟩
        exact wpIn_mono hfin fun e a' w' h => ⟨.inl rfl, h.2⟩
end
end Go.Abs
namespace Go.Abs
set_option linter.unusedSimpArgs false
set_option linter.unusedVariables false
set_option linter.unnecessarySimpa false
open Go
def dataC : AC → Bool
  | .d _ => true
  | _ => false
def dataV : AV → Bool
  | .one c => dataC c
  | .agg cs => cs.all dataC
  | .tup _ => false
theorem RelC.data {w w' : World} {E E' : Env} {c : AC} {v : Value} (hc : dataC c = true) (h : ∀ b, E.I b → E'.I b ∧ w'.heap[b]? = w.heap[b]?) (hr : RelC w E c v) : RelC w' E' c v := by
  cases c with
  | d c => exact RelD.mono h hr
  | own k g off n => cases hc
  | ptr k g off => cases hc
  | mp k g => cases hc
  | obj es c => cases hc
  | any => cases hc
theorem RelV.data {w w' : World} {E E' : Env} {x : AV} {v : Value} (hx : dataV x = true) (h : ∀ b, E.I b → E'.I b ∧ w'.heap[b]? = w.heap[b]?) (hr : RelV w E x v) : RelV w' E' x v := by
  cases x with
  | one c => exact RelC.data (c := c) hx h hr
  | agg cs =>
    obtain ⟨l, rfl, hrl⟩ := hr
    refine ⟨l, rfl, hrl.1, fun j c u hj hu => ⟨(hrl.2 j c u hj hu).1, RelC.data ?_ h (hrl.2 j c u hj hu).2⟩⟩
    exact List.all_eq_true.1 hx c (List.mem_of_getElem? hj)
  | tup vs => cases hx
/-- A call with data that answers just this data. -/
def DCall (P : Program) (f : FuncId) (args : List AV) (x : AV) : Prop := ∀ clk, ACall P f args [] clk fun r _ _ => r = x
theorem acall_data {P : Program} {f : FuncId} {args : List AV} {x : AV} {H : AHeap} {clk : Nat} {K : AV → AHeap → Nat → Prop} (hc : DCall P f args x) (ha : args.all dataV = true) (hx : dataV x = true) (hK : K x H clk) : ACall P f args H clk K := by
  intro w E vals hclk hsim hargs
  have hrel : RelVs w ⟨E.I, [], E.clk⟩ args vals := ⟨hargs.1, fun j y v hy hv => RelV.data (E := E) (List.all_eq_true.1 ha y (List.mem_of_getElem? hy)) (fun b hb => ⟨hb, rfl⟩) (hargs.2 j y v hy hv)⟩
  refine (hc E.clk w ⟨E.I, [], E.clk⟩ vals rfl ⟨rfl, fun k i hi => by simp at hi, hsim.I, fun k B hB => by simp at hB, fun k k' B B' i i' b hB => by simp at hB, hsim.glob⟩ hrel).mono fun e w' => ?_
  rintro ⟨v, r, Hn, E', rfl, hle, hsim', hr, hfrm, hlive, hI0, rfl⟩
  have hnot : ∀ b, ¬ LiveB (⟨E.I, [], E.clk⟩ : Env) [] b := fun b ⟨k, B, i, h, _⟩ => by simp at h
  have hold : ∀ b, b < w.heap.size → w'.heap[b]? = w.heap[b]? := fun b hb => hfrm.block b hb (hnot b)
  let E2 : Env := ⟨E'.I, E.β, E.clk⟩
  have hle2 : Env.Le w E w' E2 := ⟨fun b hb => ⟨(hle.I b hb).1, hold b (hsim.I b hb)⟩, Nat.le_refl _, fun k i' hi => .inl hi⟩
  refine ⟨v, r, H, E2, rfl, hle2, ⟨hsim.len, hsim.gens, hsim'.I, ?_, hsim.apart, hsim'.glob⟩, RelV.data (E := E') hx (fun b hb => ⟨hb, rfl⟩) hr, ⟨hfrm.os, hfrm.tape, hfrm.output, hfrm.size, fun b hb _ => hold b hb⟩, fun b hb => .inl hb, ?_, by rw [show E2.clk = clk from hclk]; exact hK⟩
  · intro k B hB
    obtain ⟨i, hi, hok⟩ := hsim.blk k B hB
    exact ⟨i, hi, hok.mono_same hle2 (fun b hb hI => (hI0 b (hok.lt hb) hI).resolve_right (hnot b)) (fun b hb => hold b (hok.lt hb))⟩
  · exact fun b hb hI => .inl ((hI0 b hb hI).resolve_right (hnot b))
theorem qcall_data {P : Program} {f : FuncId} {args : List AV} {x : AV} {H : AHeap} {K : AV → Prop} (hc : DCall P f args x) (ha : args.all dataV = true) (hx : dataV x = true) (hK : K x) : QCall P f args H K :=
  ⟨x, hK, fun _ _ _ _ hk => acall_data hc ha hx hk⟩
end Go.Abs
