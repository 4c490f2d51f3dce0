/-
  A call whose answer nobody writes: it is taken as data, and neither heap nor clock of the caller is touched. No program's text.
-/
import Derived.Test.YtjalcajhmiamgaaAbs16
namespace Go.Abs
set_option linter.unusedSimpArgs false
set_option linter.unusedVariables false
set_option linter.unnecessarySimpa false
open Go

section
variable {P : Program} {w : World} {E : Env}

theorem flat_same {c : AC} {v : Value} {E' : Env} (hf : c.flat = true) (hclk : E'.clk = E.clk) (hβ : E'.β = E.β) (h : RelC w E c v) : RelC w E' c v := by
  cases c with
  | d c =>
    cases c with
    | s u => cases h with | s hs => exact RelD.s hs
    | nil => cases h with | nil => exact RelD.nil
    | list n cs => simp [AC.flat, DC.flat] at hf
    | rptr cs => simp [AC.flat, DC.flat] at hf
    | map es c => simp [AC.flat, DC.flat] at hf
  | own k g off n => exact ⟨h.1, by rw [hclk]; exact h.2.1, fun i hi => h.2.2 i (by rw [← hβ]; exact hi)⟩
  | ptr k g off => exact ⟨h.1, by rw [hclk]; exact h.2.1, fun i hi => h.2.2 i (by rw [← hβ]; exact hi)⟩
  | mp k g => exact ⟨h.1, by rw [hclk]; exact h.2.1, fun i hi => h.2.2 i (by rw [← hβ]; exact hi)⟩
  | obj => exact h
  | any => exact h

theorem args_snap {args dargs : List AV} {H : AHeap} {vals : List Value} (hsim : SimH w E H) (hargs : RelVs w E args vals) (hs : args.mapM (snapV H) = some dargs) :
    RelVs w ⟨fun b => b < w.heap.size, [], E.clk⟩ dargs vals := by
  refine ⟨?_, ?_⟩
  · rw [← hargs.1]
    clear hargs
    induction args generalizing dargs with
    | nil => simp at hs; subst hs; rfl
    | cons x xs ih =>
      rw [List.mapM_cons] at hs
      cases h1 : snapV H x with
      | none => simp [h1] at hs
      | some y =>
        cases h2 : xs.mapM (snapV H) with
        | none => simp [h1, h2] at hs
        | some ys => simp [h1, h2] at hs; subst hs; simp [ih h2]
  · intro j y v hy hv
    have : ∃ x, args[j]? = some x ∧ snapV H x = some y := by
      clear hargs hsim hv
      induction args generalizing dargs j with
      | nil => simp at hs; subst hs; simp at hy
      | cons x xs ih =>
        rw [List.mapM_cons] at hs
        cases h1 : snapV H x with
        | none => simp [h1] at hs
        | some y' =>
          cases h2 : xs.mapM (snapV H) with
          | none => simp [h1, h2] at hs
          | some ys =>
            simp [h1, h2] at hs; subst hs
            match j with
            | 0 => simp at hy; subst hy; exact ⟨x, rfl, h1⟩
            | j + 1 => simpa using ih h2 j (by simpa using hy)
    obtain ⟨x, hx, hxy⟩ := this
    exact snapV_rel (st := ⟨[], H, 0⟩) hsim (fun b hb => hb) hxy (hargs.2 j x v hx hv)

theorem acall_froze {f : FuncId} {args dargs : List AV} {H : AHeap} {clk : Nat} {post : AV → AHeap → Prop} {K : AV → AHeap → Nat → Prop} (hc : FCall P f dargs post)
    (hs : args.mapM (snapV H) = some dargs) (hK : ∀ r Hn, post r Hn → ∃ x, snapV Hn r = some x ∧ K x H clk) : ACall P f args H clk K := by
  intro w E vals hclk hsim hargs
  have hrel := args_snap hsim hargs hs
  refine (hc E.clk w ⟨fun b => b < w.heap.size, [], E.clk⟩ vals rfl ⟨rfl, fun k i hi => by simp at hi, fun b hb => hb, fun k B hB => by simp at hB, fun k k' B B' i i' b hB => by simp at hB, fun g cs hg => (hsim.glob g cs hg).mono fun b hb => ⟨hsim.I b hb, rfl⟩⟩ hrel).mono fun e w' => ?_
  rintro ⟨v, r, Hn, E', rfl, hle, hsim', hr, hfrm, hlive, hI0, hrf, hHf, hpost⟩
  obtain ⟨x, hx, hKx⟩ := hK r Hn hpost
  have hnot : ∀ b, ¬ LiveB (⟨fun b => b < w.heap.size, [], E.clk⟩ : Env) [] b := fun b ⟨k, B, i, h, _⟩ => by simp at h
  have hold : ∀ b, b < w.heap.size → w'.heap[b]? = w.heap[b]? := fun b hb => hfrm.block b hb (hnot b)
  have hnew : ∀ b, LiveB E' Hn b → w.heap.size ≤ b := fun b hb => (hlive b hb).resolve_left (hnot b)
  let E2 : Env := ⟨fun b => E.I b ∨ (w.heap.size ≤ b ∧ b < w'.heap.size), E.β, E.clk⟩
  have hle2 : Env.Le w E w' E2 := ⟨fun b hb => ⟨.inl hb, hold b (hsim.I b hb)⟩, Nat.le_refl _, fun k i' hi => .inl hi⟩
  -- the callee's own memory, read without regard to what it had borrowed
  let E3 : Env := ⟨E.I, E'.β, E'.clk⟩
  have hsim3 : SimH w' E3 Hn := ⟨hsim'.len, hsim'.gens, fun b h => Nat.lt_of_lt_of_le (hsim.I b h) hfrm.size, fun k B hB => by
    obtain ⟨i, hi, hok⟩ := hsim'.blk k B hB
    refine ⟨i, hi, hok.1, hok.2.1, hok.2.2.1, hok.2.2.2.1, ?_⟩
    obtain ⟨_, _, _, _, h5⟩ := hok
    cases hb : i.blk with
    | none => rw [hb] at h5; exact h5
    | some b =>
      rw [hb] at h5
      refine ⟨fun h => by have h1 := hnew b ⟨k, B, i, hB, hi, hb⟩; have h2 := hsim.I b h; omega, ?_⟩
      rcases h5.2 with ⟨C, hC, hl, hlc, hrl⟩ | hm
      · refine .inl ⟨C, hC, hl, hlc, hrl.1, fun j c u hj hu => ?_⟩
        obtain ⟨g1, g2⟩ := hrl.2 j c u hj hu
        exact ⟨g1, flat_same (E := E') (E' := E3) (hHf _ (List.mem_of_getElem? hB) c (List.mem_of_getElem? hj)) rfl rfl g2⟩
      · exact .inr hm, hsim'.apart, fun g cs hg => (hsim.glob g cs hg).mono fun b hb => ⟨hb, hold b (hsim.I b hb)⟩⟩
  have hr3 : RelV w' E3 r v := by
    cases r with
    | one c => exact flat_same (E := E') (E' := E3) hrf rfl rfl hr
    | agg cs =>
      obtain ⟨l, rfl, hrl⟩ := hr
      exact ⟨l, rfl, hrl.1, fun j c u hj hu => ⟨(hrl.2 j c u hj hu).1, flat_same (E := E') (E' := E3) (hrf c (List.mem_of_getElem? hj)) rfl rfl (hrl.2 j c u hj hu).2⟩⟩
    | tup vs => simp [snapV] at hx
  have hxv : RelV w' E2 x v := snapV_rel' (st := ⟨[], Hn, 0⟩) hsim3 (fun b h => .inl h) (fun b hb => .inr ⟨hnew b hb, live_lt (st := ⟨[], Hn, 0⟩) hsim3 hb⟩) hx hr3
  refine ⟨v, x, H, E2, rfl, hle2, ⟨hsim.len, hsim.gens, ?_, ?_, hsim.apart, fun g cs hg => (hsim.glob g cs hg).mono hle2.I⟩, hxv, ⟨hfrm.os, hfrm.tape, hfrm.output, hfrm.size, fun b hb _ => hold b hb⟩, fun b hb => .inl hb, ?_, by rw [show E2.clk = clk from hclk]; exact hKx⟩
  · rintro b (hb | hb)
    · exact Nat.lt_of_lt_of_le (hsim.I b hb) hfrm.size
    · exact hb.2
  · intro k B hB
    obtain ⟨i, hi, hok⟩ := hsim.blk k B hB
    refine ⟨i, hi, hok.mono_same hle2 (fun b hb hI => ?_) (fun b hb => hold b (hok.lt hb))⟩
    rcases hI with h | h
    · exact h
    · have := hok.lt hb; omega
  · rintro b hb (h | h)
    · exact .inl h
    · omega

/-- An own array that from now on nobody writes is data. -/
def giveC (H : AHeap) (j : Nat) : AC → Option AC
  | .own k g off n => if k = j then (snap1 H (.own k g off n)).map .d else some (.own k g off n)
  | c => some c
def giveV (H : AHeap) (j : Nat) : AV → Option AV
  | .one c => (giveC H j c).map .one
  | x => some x

theorem mapM_at {α β : Type} {f : α → Option β} : ∀ {l : List α} {m : List β}, l.mapM f = some m → l.length = m.length ∧ ∀ (j : Nat) y, m[j]? = some y → ∃ x, l[j]? = some x ∧ f x = some y
  | [], m, h => by simp at h; subst h; exact ⟨rfl, fun j y hy => by simp at hy⟩
  | x :: xs, m, h => by
    rw [List.mapM_cons] at h
    cases h1 : f x with
    | none => simp [h1] at h
    | some y =>
      cases h2 : xs.mapM f with
      | none => simp [h1, h2] at h
      | some ys =>
        simp [h1, h2] at h; subst h
        obtain ⟨e, he⟩ := mapM_at h2
        refine ⟨by simp [e], fun j z hz => ?_⟩
        match j with
        | 0 => simp at hz; subst hz; exact ⟨x, rfl, h1⟩
        | j + 1 => simpa using he j z (by simpa using hz)

theorem acall_give {f : FuncId} {args dargs : List AV} {H : AHeap} {clk : Nat} {K : AV → AHeap → Nat → Prop} (j : Nat) (hs : args.mapM (giveV H j) = some dargs)
    (h : ACall P f dargs (H.set j none) clk K) : ACall P f args H clk K := by
  intro w E vals hclk hsim hargs
  have htk : ∀ {m q : Nat} {i : BI}, (E.β.take m)[q]? = some i → E.β[q]? = some i := fun {m q i} h => by
    rw [List.getElem?_take] at h
    split at h
    · exact h
    · cases h
  let B1 : Nat → Prop := fun b => ∃ (B : ABlk) (i : BI), H[j]? = some (some B) ∧ E.β[j]? = some i ∧ i.blk = some b
  let E1 : Env := ⟨fun b => E.I b ∨ B1 b, E.β, E.clk⟩
  have hle1 : Env.Le w E w E1 := ⟨fun b hb => ⟨.inl hb, rfl⟩, Nat.le_refl _, fun k i' hi => .inl hi⟩
  have hset : ∀ (k : Nat) (B : ABlk), (H.set j none)[k]? = some (some B) → k ≠ j ∧ H[k]? = some (some B) := fun k B hB => by
    rw [List.getElem?_set] at hB
    split at hB
    · split at hB <;> simp at hB
    · rename_i hne; exact ⟨fun e => hne e.symm, hB⟩
  have hlt1 : ∀ b, B1 b → b < w.heap.size := fun b ⟨B, i, h1, h2, h3⟩ => live_lt (st := ⟨[], H, 0⟩) hsim ⟨j, B, i, h1, h2, h3⟩
  have hsim1 : SimH w E1 (H.set j none) := by
    refine ⟨by simp [E1, hsim.len], hsim.gens, ?_, ?_, ?_, fun g cs hg => (hsim.glob g cs hg).mono hle1.I⟩
    · rintro b (hb | hb)
      · exact hsim.I b hb
      · exact hlt1 b hb
    · intro k B hB
      obtain ⟨hkj, hB'⟩ := hset k B hB
      obtain ⟨i, hi, hok⟩ := hsim.blk k B hB'
      refine ⟨i, hi, hok.mono_same hle1 (fun b hb hI => ?_) (fun _ _ => rfl)⟩
      rcases hI with hI | ⟨B', i', h1, h2, h3⟩
      · exact hI
      · exact absurd (hsim.apart k j B B' i i' b hB' h1 hi h2 hb h3) hkj
    · intro k k' B B' i i' b hB hB' hi hi' hb hb'
      exact hsim.apart k k' B B' i i' b (hset k B hB).2 (hset k' B' hB').2 hi hi' hb hb'
  obtain ⟨hlen, hat⟩ := mapM_at hs
  have hargs1 : RelVs w E1 dargs vals := by
    refine ⟨hlen.symm.trans hargs.1, fun q y v hy hv => ?_⟩
    obtain ⟨x, hx, hxy⟩ := hat q y hy
    have hr := hargs.2 q x v hx hv
    cases x with
    | one c =>
      simp only [giveV] at hxy
      have hr : RelC w E c v := hr
      cases hg : giveC H j c with
      | none => simp [hg] at hxy
      | some c' =>
        simp [hg] at hxy; subst hxy
        cases c with
        | own k g off n =>
          simp only [giveC] at hg
          split at hg
          · rename_i hkj
            subst hkj
            cases hd : snap1 H (.own k g off n) with
            | none => simp [hd] at hg
            | some d =>
              simp [hd] at hg; subst hg
              have hH : ∃ B, H[k]? = some (some B) := by
                simp only [snap1] at hd
                split at hd
                · rename_i B hB; exact ⟨B, (blkAt_some hB).1⟩
                · cases hd
              obtain ⟨B, hB⟩ := hH
              -- read in an environment in which only this array lives
              let H1 : AHeap := (List.replicate k none) ++ [some B]
              have : RelC w ⟨fun b => E.I b ∨ B1 b, E.β, E.clk⟩ (.d d) v := by
                refine snap1_rel' (st := ⟨[], H1, 0⟩) (E := ⟨E.I, E.β.take (k + 1), E.clk⟩) (c := .own k g off n) ⟨?_, fun q i hi => ?_, hsim.I, fun q B' hB' => ?_, fun q q' B' B'' i i' b h1 h2 h3 h4 h5 h6 => ?_, hsim.glob⟩ (fun b hb => .inl hb) (fun b hb => ?_) ?_ ⟨hr.1, hr.2.1, fun i hi hg => ?_⟩
                · have hkl : k < H.length := (List.getElem?_eq_some_iff.1 hB).1
                  have := hsim.len
                  simp [H1]; omega
                · have : E.β[q]? = some i := by rw [List.getElem?_take] at hi; split at hi; exact hi; cases hi
                  exact hsim.gens q i this
                · have hq : q = k ∧ B' = B := by
                    simp only [H1, List.getElem?_append, List.length_replicate] at hB'
                    split at hB'
                    · rename_i hlt; simp [List.getElem?_replicate, hlt] at hB'
                    · rename_i hge
                      have : q - k = 0 := by
                        rcases Nat.eq_zero_or_pos (q - k) with h | h
                        · exact h
                        · rw [List.getElem?_eq_none (by simp; omega)] at hB'; cases hB'
                      rw [this] at hB'
                      simp at hB'
                      exact ⟨by omega, hB'.symm⟩
                  obtain ⟨rfl, rfl⟩ := hq
                  obtain ⟨i, hi, hok⟩ := hsim.blk q B' hB
                  exact ⟨i, by rw [List.getElem?_take, if_pos (by omega)]; exact hi, hok.mono_same (E := E) (E' := ⟨E.I, E.β.take (q + 1), E.clk⟩) ⟨fun b hb => ⟨hb, rfl⟩, Nat.le_refl _, fun a i' hi' => .inl (htk hi')⟩ (fun _ _ hI => hI) (fun _ _ => rfl)⟩
                · have one : ∀ (q : Nat) (B' : ABlk), H1[q]? = some (some B') → q = k := fun q B' hB' => by
                    simp only [H1, List.getElem?_append, List.length_replicate] at hB'
                    split at hB'
                    · rename_i hlt; simp [List.getElem?_replicate, hlt] at hB'
                    · rcases Nat.eq_zero_or_pos (q - k) with h | h
                      · omega
                      · rw [List.getElem?_eq_none (by simp; omega)] at hB'; cases hB'
                  rw [one q B' h1, one q' B'' h2]
                · obtain ⟨q, B', i, h1, h2, h3⟩ := hb
                  have hqk : q = k := by
                    simp only [H1, List.getElem?_append, List.length_replicate] at h1
                    split at h1
                    · rename_i hlt; simp [List.getElem?_replicate, hlt] at h1
                    · rcases Nat.eq_zero_or_pos (q - k) with h | h
                      · omega
                      · rw [List.getElem?_eq_none (by simp; omega)] at h1; cases h1
                  subst hqk
                  exact .inr ⟨B, i, hB, htk h2, h3⟩
                · have hb1 : blkAt H1 k g = blkAt H k g := by
                    have : H1[k]? = some (some B) := by simp [H1]
                    simp [blkAt, this, hB]
                  simp only [snap1] at hd ⊢
                  rw [hb1]; exact hd
                · have : E.β[k]? = some i := by rw [List.getElem?_take] at hi; split at hi; exact hi; cases hi
                  exact hr.2.2 i this hg
              exact this
          · simp at hg; subst hg; exact RelC.mono hle1 hr
        | d c => simp [giveC] at hg; subst hg; exact RelC.mono hle1 hr
        | ptr k g off => simp [giveC] at hg; subst hg; exact RelC.mono hle1 hr
        | mp k g => simp [giveC] at hg; subst hg; exact RelC.mono hle1 hr
        | obj es c => exact hr.elim
        | any => simp [giveC] at hg; subst hg; exact RelC.mono hle1 hr
    | agg cs => simp [giveV] at hxy; subst hxy; exact hr.mono hle1
    | tup vs => simp [giveV] at hxy; subst hxy; exact hr.mono hle1
  have hliv : ∀ b, LiveB E1 (H.set j none) b → LiveB E H b := fun b ⟨k, B, i, h1, h2, h3⟩ => ⟨k, B, i, (hset k B h1).2, h2, h3⟩
  refine (h w E1 vals hclk hsim1 hargs1).mono fun e w' => ?_
  rintro ⟨v, r, H', E', rfl, hle, hsim', hr, hfrm, hlive, hI0, hK⟩
  refine ⟨v, r, H', E', rfl, hle1.trans hle, hsim', hr, ⟨hfrm.os, hfrm.tape, hfrm.output, hfrm.size, fun b hb hn => hfrm.block b hb (fun hl => hn (hliv b hl))⟩, fun b hb => (hlive b hb).imp (hliv b) id, fun b hb hI => ?_, hK⟩
  rcases hI0 b hb hI with (h | ⟨B, i, h1, h2, h3⟩) | h
  · exact .inl h
  · exact .inr ⟨j, B, i, h1, h2, h3⟩
  · exact .inr (hliv b h)
end
end Go.Abs
