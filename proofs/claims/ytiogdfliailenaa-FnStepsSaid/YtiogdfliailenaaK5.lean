/-
  Rules for maps, rows and slices of slices. No program's text.
-/
import Derived.Test.YtiogdfliailenaaK4
import Derived.WideKeyRuns
namespace Go.Abs
set_option linter.unusedSimpArgs false
set_option linter.unusedVariables false
set_option linter.unnecessarySimpa false
open Go
/-- The elements at the places ks are put anew. -/
def setL {α : Type} : List α → List Nat → List α → List α
  | l, k :: ks, x :: xs => setL (l.set k x) ks xs
  | l, _, _ => l
theorem setL_length {α : Type} : ∀ (ks : List Nat) (l xs : List α), (setL l ks xs).length = l.length
  | [], l, xs => by simp [setL]
  | k :: ks, l, [] => by simp [setL]
  | k :: ks, l, x :: xs => by simp [setL, setL_length ks]
theorem setL_not {α : Type} : ∀ (ks : List Nat) (l xs : List α) (q : Nat), q ∉ ks → (setL l ks xs)[q]? = l[q]?
  | [], l, xs, q, _ => by simp [setL]
  | k :: ks, l, [], q, _ => by simp [setL]
  | k :: ks, l, x :: xs, q, h => by
    simp only [List.mem_cons, not_or] at h
    rw [setL, setL_not ks _ xs q h.2, List.getElem?_set_ne (fun e => h.1 e.symm)]
theorem setL_at {α : Type} : ∀ (ks : List Nat) (l xs : List α) (j q : Nat), ks.Nodup → ks.length = xs.length → (∀ k ∈ ks, k < l.length) → ks[j]? = some q → (setL l ks xs)[q]? = xs[j]?
  | [], l, xs, j, q, _, _, _, h => by simp at h
  | k :: ks, l, [], j, q, _, hl, _, _ => by simp at hl
  | k :: ks, l, x :: xs, j, q, hn, hl, hlt, h => by
    simp only [List.nodup_cons] at hn
    rw [setL]
    match j with
    | 0 =>
      simp at h; subst h
      rw [setL_not ks _ xs k hn.1]
      simp [hlt k (by simp)]
    | j + 1 =>
      have := setL_at ks (l.set k x) xs j q hn.2 (by simpa using hl) (fun k' hk' => by simpa using hlt k' (by simp [hk'])) (by simpa using h)
      simpa using this
def rhoS (ks : List Nat) (n j : Nat) : Nat := match ks[j]? with | some k => k | none => n + (j - ks.length)
theorem rhoS_lt {ks : List Nat} {n j k : Nat} (h : ks[j]? = some k) : rhoS ks n j = k := by simp [rhoS, h]
theorem rhoS_ge {ks : List Nat} {n j : Nat} (h : ks.length ≤ j) : rhoS ks n j = n + (j - ks.length) := by simp [rhoS, List.getElem?_eq_none h]
def RPostS (m : Nat) (p : AV → List ABlk → AHeap → Prop) (r : AV) (H : AHeap) (_ : Nat) : Prop := ∃ Bs' Hn, H = Bs'.map some ++ Hn ∧ Bs'.length = m ∧ p r Bs' Hn
def RCallS (P : Program) (f : FuncId) (args : List AV) (Bs : List ABlk) (p : AV → List ABlk → AHeap → Prop) : Prop :=
  ∀ clk, ACall P f args (Bs.map some) clk (RPostS Bs.length p)
section
variable {P : Program}
theorem acall_refs {f : FuncId} {args cargs : List AV} {H : AHeap} {clk : Nat} (ks : List Nat) {Bs : List ABlk} {p : AV → List ABlk → AHeap → Prop} {K : AV → AHeap → Nat → Prop} (hc : RCallS P f cargs Bs p)
    (hnd : ks.Nodup) (hlen : ks.length = Bs.length)
    (hargs : args = cargs.map (AV.ren (rhoS ks H.length))) (hk : ∀ (j k : Nat) (B : ABlk), ks[j]? = some k → Bs[j]? = some B → H[k]? = some (some (B.ren (rhoS ks H.length))))
    (hK : ∀ r Bs' Hn c, p r Bs' Hn → Bs'.length = Bs.length → clk ≤ c → K (r.ren (rhoS ks H.length)) (setL H ks (Bs'.map fun B => some (B.ren (rhoS ks H.length))) ++ Hn.map fun b => b.map (ABlk.ren (rhoS ks H.length))) c) : ACall P f args H clk K := by
  intro w E vals hclk hsim hrel
  generalize hρ : rhoS ks H.length = ρ at *
  have hat : ∀ j, j < ks.length → ∃ i : BI, ∀ k, ks[j]? = some k → E.β[k]? = some i := fun j hj => by
    have hB := hk j ks[j] Bs[j] (List.getElem?_eq_getElem hj) (List.getElem?_eq_getElem (by omega))
    obtain ⟨i, hi, _⟩ := hsim.blk _ _ hB
    exact ⟨i, fun k hkj => by rw [List.getElem?_eq_getElem hj] at hkj; cases hkj; exact hi⟩
  obtain ⟨is, hisl, his⟩ := choose_rows hat
  have hkβ : ∀ k ∈ ks, k < E.β.length := fun k hk' => by
    obtain ⟨j, hj⟩ := List.getElem?_of_mem hk'
    have hjl : j < is.length := by rw [hisl]; exact (List.getElem?_eq_some_iff.1 hj).1
    exact (List.getElem?_eq_some_iff.1 (his j is[j] (List.getElem?_eq_getElem hjl) k hj)).1
  have hkH : ∀ k ∈ ks, k < H.length := fun k hk' => by rw [← hsim.len]; exact hkβ k hk'
  have hρlt : ∀ {j k : Nat}, ks[j]? = some k → ρ j = k := fun h => by rw [← hρ]; exact rhoS_lt h
  have hρge : ∀ {j : Nat}, ks.length ≤ j → ρ j = H.length + (j - ks.length) := fun h => by rw [← hρ]; exact rhoS_ge h
  have atk : ∀ {j : Nat}, j < ks.length → ∃ k, ks[j]? = some k := fun h => ⟨_, List.getElem?_eq_getElem h⟩
  have inj : ∀ {j j' k : Nat}, ks[j]? = some k → ks[j']? = some k → j = j' := fun {j j' k} h h' => by
    obtain ⟨h1, e1⟩ := List.getElem?_eq_some_iff.1 h
    obtain ⟨h2, e2⟩ := List.getElem?_eq_some_iff.1 h'
    have hp := List.pairwise_iff_getElem.1 hnd
    rcases Nat.lt_trichotomy j j' with h | h | h
    · exact absurd (e1.trans e2.symm) (hp j j' h1 h2 h)
    · exact h
    · exact absurd (e2.trans e1.symm) (hp j' j h2 h1 h)
  have hβ0 : ∀ (j : Nat) (i : BI), is[j]? = some i → E.β[ρ j]? = some i := fun j i hj => by
    have hjl : j < ks.length := by rw [← hisl]; exact (List.getElem?_eq_some_iff.1 hj).1
    obtain ⟨k, hkj⟩ := atk hjl
    rw [hρlt hkj]; exact his j i hj k hkj
  let Ec : Env := ⟨E.I, is, E.clk⟩
  have hmap : ∀ {l : List ABlk} {j : Nat} {B1 : ABlk}, (l.map some)[j]? = some (some B1) → l[j]? = some B1 := fun {l j B1} h => by
    rw [List.getElem?_map, Option.map_eq_some_iff] at h
    obtain ⟨a, ha, e⟩ := h
    cases e; exact ha
  have hsimc : SimH w Ec (Bs.map some) := by
    refine ⟨by simp [Ec, hisl, hlen], fun j i hj => hsim.gens _ i (hβ0 j i hj), hsim.I, fun j B1 hB1 => ?_, fun j j' B1 B2 i i' b h1 h2 h3 h4 h5 h6 => ?_, hsim.glob⟩
    · have hB := hmap hB1
      have hjl : j < ks.length := by rw [hlen]; exact (List.getElem?_eq_some_iff.1 hB).1
      obtain ⟨k, hkj⟩ := atk hjl
      obtain ⟨i, hi, hok⟩ := hsim.blk k _ (hk j k B1 hkj hB)
      have hij : is[j]? = some i := by
        have hjl' : j < is.length := by rw [hisl]; exact hjl
        have := his j is[j] (List.getElem?_eq_getElem hjl') k hkj
        rw [hi] at this; cases this
        exact List.getElem?_eq_getElem hjl'
      refine ⟨i, hij, hok.1, hok.2.1, hok.2.2.1, hok.2.2.2.1, ?_⟩
      obtain ⟨_, _, _, _, h5⟩ := hok
      cases hb : i.blk with
      | none => rw [hb] at h5; exact ⟨by simpa [ABlk.ren] using h5.1, h5.2⟩
      | some b =>
        rw [hb] at h5
        obtain ⟨hn, ⟨C, hC, hl, hlc, hrl⟩ | hm⟩ := h5
        · refine ⟨hn, .inl ⟨C, hC, hl, by simpa [ABlk.ren] using hlc, ?_⟩⟩
          have : RelCs w E (B1.cells.map (AC.ren ρ)) (C.take B1.cells.length) := by simpa [ABlk.ren] using hrl
          exact unren_rels (E := E) (E' := Ec) rfl rfl hβ0 this
        · exact ⟨hn, .inr hm.unren⟩
    · have g1 := hmap h1
      have g2 := hmap h2
      obtain ⟨k, hkj⟩ := atk (show j < ks.length by rw [hlen]; exact (List.getElem?_eq_some_iff.1 g1).1)
      obtain ⟨k', hkj'⟩ := atk (show j' < ks.length by rw [hlen]; exact (List.getElem?_eq_some_iff.1 g2).1)
      have := hsim.apart k k' _ _ i i' b (hk j k B1 hkj g1) (hk j' k' B2 hkj' g2) (by have := hβ0 j i h3; rwa [hρlt hkj] at this) (by have := hβ0 j' i' h4; rwa [hρlt hkj'] at this) h5 h6
      subst this
      exact inj hkj hkj'
  have hrelc : RelVs w Ec cargs vals := by
    refine ⟨by rw [← hrel.1, hargs]; simp, fun j x v hx hv => ?_⟩
    have := hrel.2 j (x.ren ρ) v (by rw [hargs, List.getElem?_map, hx]; rfl) hv
    exact unren_relV (E := E) (E' := Ec) rfl rfl hβ0 this
  refine (hc E.clk w Ec vals rfl hsimc hrelc).mono fun e w' => ?_
  rintro ⟨v, r, Hc', E', rfl, hle, hsim', hr, hfrm, hlive, hI0, Bs', Hn, rfl, hBl, hp⟩
  have hliv0 : ∀ b, LiveB Ec (Bs.map some) b → ∃ (j k : Nat) (i : BI) (B : ABlk), ks[j]? = some k ∧ E.β[k]? = some i ∧ H[k]? = some (some B) ∧ i.blk = some b := fun b ⟨j, B1, i, h1, h2, h3⟩ => by
    have hB := hmap h1
    obtain ⟨k, hkj⟩ := atk (show j < ks.length by rw [hlen]; exact (List.getElem?_eq_some_iff.1 hB).1)
    exact ⟨j, k, i, _, hkj, by have := hβ0 j i h2; rwa [hρlt hkj] at this, hk j k B1 hkj hB, h3⟩
  have hlen' : E'.β.length = ks.length + Hn.length := by have := hsim'.len; simp [hBl] at this; omega
  obtain ⟨β1, β2, hβ', hβ1, hβ2l⟩ : ∃ β1 β2 : List BI, E'.β = β1 ++ β2 ∧ β1.length = ks.length ∧ β2.length = Hn.length :=
    ⟨E'.β.take ks.length, E'.β.drop ks.length, (List.take_append_drop _ _).symm, by simp; omega, by simp; omega⟩
  have hclk' : E.clk ≤ E'.clk := hle.clk
  -- a block of one that is written
  have own : ∀ b, (∃ (j k : Nat) (i : BI) (B : ABlk), ks[j]? = some k ∧ E.β[k]? = some i ∧ H[k]? = some (some B) ∧ i.blk = some b) → ¬ E.I b ∧ b < w.heap.size := fun b ⟨j, k, i, B, h1, h2, h3, h4⟩ => by
    obtain ⟨i2, hi2, hok⟩ := hsim.blk k B h3
    rw [h2] at hi2; cases hi2
    refine ⟨?_, hok.lt h4⟩
    obtain ⟨_, _, _, _, h5⟩ := hok
    rw [h4] at h5
    exact h5.1
  have hold : ∀ b, b < w.heap.size → ¬ (∃ (j k : Nat) (i : BI) (B : ABlk), ks[j]? = some k ∧ E.β[k]? = some i ∧ H[k]? = some (some B) ∧ i.blk = some b) → w'.heap[b]? = w.heap[b]? :=
    fun b hb hn => hfrm.block b hb (fun hl => hn (hliv0 b hl))
  let E2 : Env := ⟨E'.I, setL E.β ks β1 ++ β2, E'.clk⟩
  have hgenN : ∀ (j : Nat) (i : BI), β2[j]? = some i → E.clk ≤ i.gen := fun j i hi => by
    rcases hle.β (ks.length + j) i (by rw [hβ', List.getElem?_append_right (by omega)]; rw [show ks.length + j - β1.length = j by omega]; exact hi) with h | h
    · have := (List.getElem?_eq_some_iff.1 h).1
      simp only [Ec, hisl] at this; omega
    · exact h
  have hgen0 : ∀ (j : Nat) (i : BI), β1[j]? = some i → is[j]? = some i ∨ E.clk ≤ i.gen := fun j i hi => by
    have hjl := (List.getElem?_eq_some_iff.1 hi).1
    rcases hle.β j i (by rw [hβ', List.getElem?_append_left hjl]; exact hi) with h | h
    · exact .inl h
    · exact .inr h
  have hlenH : (setL E.β ks β1).length = H.length := by rw [setL_length, hsim.len]
  have at2 : ∀ (q : Nat) (i : BI), E2.β[q]? = some i → (q < H.length ∧ q ∉ ks ∧ E.β[q]? = some i) ∨ (∃ j, ks[j]? = some q ∧ β1[j]? = some i) ∨ ∃ j, q = H.length + j ∧ β2[j]? = some i := fun q i hi => by
    simp only [E2] at hi
    rw [List.getElem?_append, hlenH] at hi
    split at hi
    · rename_i hq
      by_cases hm : q ∈ ks
      · obtain ⟨j, hj⟩ := List.getElem?_of_mem hm
        rw [setL_at ks E.β β1 j q hnd hβ1.symm hkβ hj] at hi
        exact .inr (.inl ⟨j, hj, hi⟩)
      · rw [setL_not ks _ _ q hm] at hi
        exact .inl ⟨hq, hm, hi⟩
    · rename_i hq
      exact .inr (.inr ⟨q - H.length, by omega, hi⟩)
  have hle2 : Env.Le w E w' E2 := ⟨fun b hb => hle.I b hb, hclk', fun q i hi => by
    rcases at2 q i hi with ⟨_, _, h⟩ | ⟨j, hj, h⟩ | ⟨j, _, h⟩
    · exact .inl h
    · rcases hgen0 j i h with e | e
      · have := hβ0 j i e
        rw [hρlt hj] at this
        exact .inl this
      · exact .inr e
    · exact .inr (hgenN j i h)⟩
  have hβ : ∀ j i, E2.β[ρ j]? = some i → E'.β[j]? = some i := fun j i hi => by
    rcases Nat.lt_or_ge j ks.length with hj | hj
    · obtain ⟨k, hkj⟩ := atk hj
      rw [hρlt hkj] at hi
      rcases at2 k i hi with ⟨_, h, _⟩ | ⟨j', hj', h⟩ | ⟨j', h, _⟩
      · exact absurd (List.mem_of_getElem? hkj) h
      · have := inj hkj hj'
        subst this
        rw [hβ', List.getElem?_append_left (by omega)]; exact h
      · have := hkH k (List.mem_of_getElem? hkj); omega
    · rw [hρge hj] at hi
      rcases at2 _ i hi with ⟨h, _, _⟩ | ⟨j', hj', _⟩ | ⟨j', h, h'⟩
      · omega
      · have := hkH _ (List.mem_of_getElem? hj'); omega
      · rw [hβ', List.getElem?_append_right (by omega)]
        rw [show j - β1.length = j' by omega]; exact h'
  have hβ2 : ∀ j i, E'.β[j]? = some i → E2.β[ρ j]? = some i := fun j i hi => by
    rw [hβ'] at hi
    rcases Nat.lt_or_ge j ks.length with hj | hj
    · obtain ⟨k, hkj⟩ := atk hj
      rw [List.getElem?_append_left (by omega)] at hi
      rw [hρlt hkj]
      simp only [E2]
      rw [List.getElem?_append_left (by rw [hlenH]; exact hkH k (List.mem_of_getElem? hkj)), setL_at ks E.β β1 j k hnd hβ1.symm hkβ hkj]
      exact hi
    · rw [List.getElem?_append_right (by omega)] at hi
      rw [hρge hj]
      simp only [E2]
      rw [List.getElem?_append_right (by omega), hlenH]
      rw [show H.length + (j - ks.length) - H.length = j - β1.length by omega]; exact hi
  have hBl' : ks.length = (Bs'.map fun B => some (B.ren ρ)).length := by simp [hBl, hlen]
  have atH : ∀ (q : Nat) (B1 : ABlk), (setL H ks (Bs'.map fun B => some (B.ren ρ)) ++ Hn.map fun b => b.map (ABlk.ren ρ))[q]? = some (some B1) →
      (q < H.length ∧ q ∉ ks ∧ H[q]? = some (some B1)) ∨ ∃ j B0, q = ρ j ∧ (Bs'.map some ++ Hn)[j]? = some (some B0) ∧ B1 = B0.ren ρ := fun q B1 hq => by
    rw [List.getElem?_append, setL_length] at hq
    split at hq
    · rename_i hql
      by_cases hm : q ∈ ks
      · obtain ⟨j, hj⟩ := List.getElem?_of_mem hm
        rw [setL_at ks H _ j q hnd hBl' hkH hj, List.getElem?_map, Option.map_eq_some_iff] at hq
        obtain ⟨B0, hB0, e⟩ := hq
        cases e
        refine .inr ⟨j, B0, (hρlt hj).symm, ?_, rfl⟩
        rw [List.getElem?_append_left (by simp; exact (List.getElem?_eq_some_iff.1 hB0).1), List.getElem?_map, hB0]; rfl
      · rw [setL_not ks _ _ q hm] at hq
        exact .inl ⟨hql, hm, hq⟩
    · rename_i hql
      rw [List.getElem?_map, Option.map_eq_some_iff] at hq
      obtain ⟨b, hb, e⟩ := hq
      cases b with
      | none => simp at e
      | some B0 =>
        simp at e; subst e
        refine .inr ⟨ks.length + (q - H.length), B0, ?_, ?_, rfl⟩
        · rw [hρge (by omega)]; omega
        · rw [List.getElem?_append_right (by simp [hBl, hlen])]
          simp only [List.length_map, hBl, ← hlen]
          rw [show ks.length + (q - H.length) - ks.length = q - H.length by omega]; exact hb
  have hnew : ∀ (j : Nat) (B0 : ABlk) (i : BI) (b : Nat), (Bs'.map some ++ Hn)[j]? = some (some B0) → E'.β[j]? = some i → i.blk = some b →
      (∃ (j k : Nat) (i : BI) (B : ABlk), ks[j]? = some k ∧ E.β[k]? = some i ∧ H[k]? = some (some B) ∧ i.blk = some b) ∨ w.heap.size ≤ b := fun j B0 i b h1 h2 h3 => by
    rcases hlive b ⟨j, B0, i, h1, h2, h3⟩ with h | h
    · exact .inl (hliv0 b h)
    · exact .inr h
  have hother : ∀ (q : Nat) (B1 : ABlk) (i : BI) (b : Nat), q ∉ ks → H[q]? = some (some B1) → E.β[q]? = some i → i.blk = some b →
      b < w.heap.size ∧ ¬ (∃ (j k : Nat) (i : BI) (B : ABlk), ks[j]? = some k ∧ E.β[k]? = some i ∧ H[k]? = some (some B) ∧ i.blk = some b) := fun q B1 i b hq h1 h2 h3 => by
    obtain ⟨i2, hi2, hok⟩ := hsim.blk q B1 h1
    rw [h2] at hi2; cases hi2
    refine ⟨hok.lt h3, fun ⟨j, k, i', B, e1, e2, e3, e4⟩ => hq ?_⟩
    have := hsim.apart q k B1 B i i' b h1 e3 h2 e2 h3 e4
    subst this
    exact List.mem_of_getElem? e1
  have back : ∀ (q : Nat) (i : BI), q < H.length → q ∉ ks → E2.β[q]? = some i → E.β[q]? = some i := fun q i h1 h2 h3 => by
    rcases at2 q i h3 with ⟨_, _, h⟩ | ⟨j, h, _⟩ | ⟨j, h, _⟩
    · exact h
    · exact absurd (List.mem_of_getElem? h) h2
    · omega
  refine ⟨v, r.ren ρ, _, E2, rfl, hle2, ⟨?_, ?_, ?_, ?_, ?_, fun g cs hg => (hsim.glob g cs hg).mono hle2.I⟩, ren_relV (E := E') (E' := E2) rfl (Nat.le_refl _) hβ hr, ?_, ?_,
    fun b hb hI => (hI0 b hb hI).elim .inl fun hl => by
      obtain ⟨j, k, i, B, h1, h2, h3, h4⟩ := hliv0 b hl
      exact .inr ⟨k, B, i, h3, h2, h4⟩, hK r Bs' Hn _ hp hBl (by rw [← hclk]; exact hclk')⟩
  · simp [E2, setL_length, hsim.len, hβ2l]
  · intro q i hi
    rcases at2 q i hi with ⟨_, _, h⟩ | ⟨j, _, h⟩ | ⟨j, _, h⟩
    · exact Nat.lt_of_lt_of_le (hsim.gens q i h) hclk'
    · exact hsim'.gens j i (by rw [hβ', List.getElem?_append_left (List.getElem?_eq_some_iff.1 h).1]; exact h)
    · exact hsim'.gens (ks.length + j) i (by rw [hβ', List.getElem?_append_right (by omega)]; rw [show ks.length + j - β1.length = j by omega]; exact h)
  · exact hsim'.I
  · intro q B1 hB1
    rcases atH q B1 hB1 with ⟨h1, h2, h3⟩ | ⟨j, B0, rfl, hB0, rfl⟩
    · obtain ⟨i, hi, hok⟩ := hsim.blk q B1 h3
      refine ⟨i, ?_, hok.mono_same hle2 (fun b hb hI => (hI0 b (hother q B1 i b h2 h3 hi hb).1 hI).resolve_right fun hl => (hother q B1 i b h2 h3 hi hb).2 (hliv0 b hl)) (fun b hb => ?_)⟩
      · simp only [E2]
        rw [List.getElem?_append_left (by rw [hlenH]; exact h1), setL_not ks _ _ q h2]
        exact hi
      · obtain ⟨o1, o2⟩ := hother q B1 i b h2 h3 hi hb
        exact hold b o1 o2
    · obtain ⟨i, hi, hok⟩ := hsim'.blk j B0 hB0
      refine ⟨i, hβ2 j i hi, hok.1, hok.2.1, hok.2.2.1, hok.2.2.2.1, ?_⟩
      obtain ⟨_, _, _, _, h5⟩ := hok
      cases hb : i.blk with
      | none => rw [hb] at h5; exact ⟨by simp [ABlk.ren, h5.1], h5.2⟩
      | some b =>
        rw [hb] at h5
        obtain ⟨hn, ⟨C, hC, hl, hlc, hrl⟩ | hm⟩ := h5
        · refine ⟨hn, .inl ⟨C, hC, hl, by simpa [ABlk.ren] using hlc, ?_⟩⟩
          have := ren_rels (E := E') (E' := E2) (ρ := ρ) rfl (Nat.le_refl _) hβ hrl
          simpa [ABlk.ren] using this
        · exact ⟨hn, .inr hm.ren⟩
  · intro q q' B1 B2 i i' b hB1 hB2 hi hi' hb hb'
    rcases atH q B1 hB1 with ⟨h1, h2, h3⟩ | ⟨j, B0, rfl, hB0, rfl⟩ <;> rcases atH q' B2 hB2 with ⟨g1, g2, g3⟩ | ⟨j', B0', rfl, hB0', rfl⟩
    · exact hsim.apart q q' B1 B2 i i' b h3 g3 (back q i h1 h2 hi) (back q' i' g1 g2 hi') hb hb'
    · obtain ⟨o1, o2⟩ := hother q B1 i b h2 h3 (back q i h1 h2 hi) hb
      rcases hnew j' B0' i' b hB0' (hβ j' i' hi') hb' with h | h
      · exact absurd h o2
      · omega
    · obtain ⟨o1, o2⟩ := hother q' B2 i' b g2 g3 (back q' i' g1 g2 hi') hb'
      rcases hnew j B0 i b hB0 (hβ j i hi) hb with h | h
      · exact absurd h o2
      · omega
    · rw [hsim'.apart j j' B0 B0' i i' b hB0 hB0' (hβ j i hi) (hβ j' i' hi') hb hb']
  · refine ⟨hfrm.os, hfrm.tape, hfrm.output, hfrm.size, fun b hb hn => hold b hb (fun ⟨j, k, i, B, h1, h2, h3, h4⟩ => hn ⟨k, B, i, h3, h2, h4⟩)⟩
  · rintro b ⟨q, B1, i, hB1, hi, hb⟩
    rcases atH q B1 hB1 with ⟨h1, h2, h3⟩ | ⟨j, B0, rfl, hB0, rfl⟩
    · exact .inl ⟨q, B1, i, h3, back q i h1 h2 hi, hb⟩
    · rcases hnew j B0 i b hB0 (hβ j i hi) hb with ⟨j', k, i', B, e1, e2, e3, e4⟩ | h
      · exact .inl ⟨k, B, i', e3, e2, e4⟩
      · exact .inr h
end
end Go.Abs
namespace Go.Abs
set_option linter.unusedSimpArgs false
set_option linter.unusedVariables false
set_option linter.unnecessarySimpa false
open Go
/-- Of an array less is known, or nothing. -/
def WkB (b b' : Option ABlk) : Prop := match b' with
  | none => True
  | some B' => ∃ B, b = some B ∧ B'.gen = B.gen ∧ B'.elem = B.elem ∧ B'.size = B.size ∧ B'.cells.length ≤ B.cells.length ∧ (B.size = 0 → B'.cells = B.cells) ∧ ∀ (j : Nat) (c : AC), B'.cells[j]? = some c → c = .any ∨ B.cells[j]? = some c
def WkH (H H' : AHeap) : Prop := H'.length ≤ H.length ∧ ∀ (k : Nat) (b b' : Option ABlk), H[k]? = some b → H'[k]? = some b' → WkB b b'
@[simp] theorem WkH_nil (H : AHeap) : WkH H [] := ⟨by simp, by simp⟩
@[simp] theorem WkH_cons (b b' : Option ABlk) (H H' : AHeap) : WkH (b :: H) (b' :: H') ↔ WkB b b' ∧ WkH H H' := by
  constructor
  · rintro ⟨h1, h2⟩
    exact ⟨h2 0 b b' rfl rfl, by simpa using h1, fun k x y hx hy => h2 (k + 1) x y (by simpa using hx) (by simpa using hy)⟩
  · rintro ⟨h1, h2, h3⟩
    refine ⟨by simpa using h2, fun k x y hx hy => ?_⟩
    cases k with
    | zero => simp at hx hy; subst hx hy; exact h1
    | succ k => exact h3 k x y (by simpa using hx) (by simpa using hy)
@[simp] theorem WkB_none (b : Option ABlk) : WkB b none := trivial
@[simp] theorem WkB_refl (b : Option ABlk) : WkB b b := by
  cases b with
  | none => trivial
  | some B => exact ⟨B, rfl, rfl, rfl, rfl, Nat.le_refl _, fun _ => rfl, fun j c h => .inr h⟩
theorem WkB_cells {g e s : Nat} {cs cs' : List AC} (hs : s ≠ 0) (hl : cs'.length ≤ cs.length) (h : ∀ (j : Nat) (c : AC), cs'[j]? = some c → c = .any ∨ cs[j]? = some c) : WkB (some ⟨g, e, s, cs⟩) (some ⟨g, e, s, cs'⟩) :=
  ⟨_, rfl, rfl, rfl, rfl, hl, fun e => absurd e hs, h⟩
theorem WkB_any {g e s n : Nat} {cs : List AC} (hs : s ≠ 0) (hl : n ≤ cs.length) : WkB (some ⟨g, e, s, cs⟩) (some ⟨g, e, s, List.replicate n .any⟩) :=
  WkB_cells hs (by simpa using hl) fun j c h => .inl (by rw [List.getElem?_replicate] at h; split at h <;> simp_all)
section
variable {P : Program} {w0 w : World} {E0 E : Env} {H0 : AHeap} {st : ASt} {a : Act} {o : Oper}
theorem InvE.weak (h : InvE w0 E0 H0 st a w E) (mask : List Bool) {H' : AHeap} (hw : WkH st.heap H') : InvE w0 E0 H0 ⟨keepA mask st.tmps, H', st.clk⟩ a w ⟨E.I, E.β.take H'.length, E.clk⟩ := by
  have htake : ∀ {α : Type} {l : List α} {k m : Nat} {x : α}, (l.take m)[k]? = some x → l[k]? = some x := by
    intro α l k m x hx
    rw [List.getElem?_take] at hx
    split at hx
    · exact hx
    · cases hx
  have hle : Env.Le w E w ⟨E.I, E.β.take H'.length, E.clk⟩ := ⟨fun b hb => ⟨hb, rfl⟩, Nat.le_refl _, fun k i' hi => .inl (htake hi)⟩
  have old : ∀ {k : Nat} {B' : ABlk}, H'[k]? = some (some B') → ∃ B, st.heap[k]? = some (some B) ∧ B'.gen = B.gen ∧ B'.elem = B.elem ∧ B'.size = B.size ∧ B'.cells.length ≤ B.cells.length ∧ (B.size = 0 → B'.cells = B.cells) ∧ ∀ (j : Nat) (c : AC), B'.cells[j]? = some c → c = .any ∨ B.cells[j]? = some c := by
    intro k B' hB
    have hk : k < st.heap.length := Nat.lt_of_lt_of_le (List.getElem?_eq_some_iff.1 hB).1 hw.1
    obtain ⟨B, hb, hr⟩ := hw.2 k _ _ (List.getElem?_eq_getElem hk) hB
    exact ⟨B, by rw [List.getElem?_eq_getElem hk, hb], hr⟩
  refine ⟨h.dfr.mono hle, h.le.trans hle, h.clk, ⟨by simp [h.sim.len]; exact Nat.min_eq_left hw.1, fun k i hi => h.sim.gens k i (htake hi), h.sim.I, ?_, ?_, fun g cs hg => (h.sim.glob g cs hg).mono hle.I⟩, ⟨by simp [length_keepA, h.rel.1], ?_⟩, h.frm, ?_, h.I0⟩
  · intro k B' hB'
    obtain ⟨B, hB, e1, e2, e3, hl, hz, hc⟩ := old hB'
    obtain ⟨i, hi, hok⟩ := h.sim.blk k B hB
    have hk : k < H'.length := (List.getElem?_eq_some_iff.1 hB').1
    refine ⟨i, by simp only; rw [List.getElem?_take, if_pos hk]; exact hi, ?_⟩
    obtain ⟨h1, h2, h3, h4, h5⟩ := hok.mono_same hle (fun _ _ hI => hI) (fun _ _ => rfl)
    refine ⟨h1.trans e1.symm, h2.trans e2.symm, h3.trans e3.symm, h4, ?_⟩
    cases hb : i.blk with
    | none =>
      rw [hb] at h5
      refine ⟨?_, h5.2⟩
      have : B'.cells.length = 0 := by have := h5.1; rw [this] at hl; simpa using hl
      exact List.eq_nil_of_length_eq_zero this
    | some b =>
      rw [hb] at h5
      obtain ⟨hn, ⟨C, hC, hCl, hBl, hrel⟩ | ⟨hz0, es, cc, hcs, hm⟩⟩ := h5
      rotate_left
      · exact ⟨hn, .inr ⟨e3.trans hz0, es, cc, (hz hz0).trans hcs, hm⟩⟩
      refine ⟨hn, .inl ⟨C, hC, hCl, by omega, by simp; omega, fun j c v hj hv => ?_⟩⟩
      have hjl : j < B'.cells.length := (List.getElem?_eq_some_iff.1 hj).1
      have hv' : (C.take B.cells.length)[j]? = some v := by
        rw [List.getElem?_take, if_pos (by omega)]
        rw [List.getElem?_take, if_pos hjl] at hv
        exact hv
      obtain ⟨c0, hc0⟩ : ∃ c0, B.cells[j]? = some c0 := ⟨_, List.getElem?_eq_getElem (by omega)⟩
      obtain ⟨g1, g2⟩ := hrel.2 j c0 v hc0 hv'
      refine ⟨g1, ?_⟩
      rcases hc j c hj with rfl | h'
      · trivial
      · rw [hc0] at h'; cases h'; exact g2
  · intro k k' B B' i i' b hB hB' hi hi' hb hb'
    obtain ⟨B1, hB1, _⟩ := old hB
    obtain ⟨B2, hB2, _⟩ := old hB'
    exact h.sim.apart k k' B1 B2 i i' b hB1 hB2 (htake hi) (htake hi') hb hb'
  · intro j x v hx hv
    rcases keepA_at _ _ _ _ hx with rfl | hx
    · exact rel_unknown _
    · exact (h.rel.2 j x v hx hv).mono hle
  · rintro b ⟨k, B, i, hB, hi, hb⟩
    obtain ⟨B1, hB1, _⟩ := old hB
    exact h.live b ⟨k, B1, i, hB1, htake hi, hb⟩

/-- A loop: at its head less may be known than a round leaves. -/
theorem codeOk_loopW {c : Code} {Q : Exit → ASt → Prop} (mask : List Bool) (I : ASt → Prop) (μ : ASt → Nat) (h0 : ∃ H', WkH st.heap H' ∧ I ⟨keepA mask st.tmps, H', st.clk⟩)
    (round : ∀ s, I s → AW P c (AExit.then (fun s' => ∃ H', WkH s'.heap H' ∧ I ⟨keepA mask s'.tmps, H', s'.clk⟩ ∧ μ ⟨keepA mask s'.tmps, H', s'.clk⟩ < μ s) Q) s) : CodeOk P (.loop c) Q st := by
  intro ro n hr w0 E0 H0 a w ⟨E, hE⟩
  have hr1 : ro = none ∨ noRange c = true := hr.imp (fun h => h) fun h => by simpa [noRange] using h
  classical
  obtain ⟨a0, ha0⟩ : ∃ a0, a0 = a := ⟨_, rfl⟩
  rw [← ha0]
  let S : Act → World → Nat → Prop := fun a w n => (noRange (.loop c) = false ∨ a.defers = a0.defers) ∧ ∃ s, I s ∧ Inv w0 E0 H0 s a w ∧ μ s = n
  obtain ⟨H0', hw0, hI0⟩ := h0
  refine wpIn_loop (fun a w => ∃ n, S a w n) (fun a w => if h : ∃ n, S a w n then Classical.choose (least _ h) else 0) ⟨_, .inr (by rw [ha0]), _, hI0, ⟨_, ha0 ▸ hE.weak mask hw0⟩, rfl⟩ ?_
  intro a w hS
  obtain ⟨hdd, s, hs, hI, hμ⟩ := (Classical.choose_spec (least _ hS)).1
  refine wpIn_mono (aw_sound c _ _ (round s hs) ro n hr1 w0 E0 H0 a w hI) ?_
  rintro e a' w' ⟨hd', s', hq, E', hE'⟩
  have hd := defers_trans hdd (hd'.imp (fun h => by simpa [noRange] using h) id)
  cases e with
  | normal =>
    obtain ⟨H', hw, hI', hlt⟩ := hq
    have hS' : S a' w' (μ ⟨keepA mask s'.tmps, H', s'.clk⟩) := ⟨hd, _, hI', ⟨_, hE'.weak mask hw⟩, rfl⟩
    refine ⟨⟨_, hS'⟩, ?_⟩
    have hx : ∃ n, S a' w' n := ⟨_, hS'⟩
    rw [dif_pos hx, dif_pos hS]
    exact Nat.lt_of_le_of_lt ((Classical.choose_spec (least _ hx)).2 _ hS') (by rw [← hμ]; exact hlt)
  | exit id => exact ⟨hd, s', hq, E', hE'⟩
  | goto l => exact ⟨hd, s', hq, E', hE'⟩
  | ret => exact ⟨hd, s', hq, E', hE'⟩
  | panic ch => exact ⟨hd, s', hq, E', hE'⟩
  | outgrown => exact ⟨hd, s', hq, E', hE'⟩
end
end Go.Abs
namespace Go.Abs
set_option linter.unusedSimpArgs false
set_option linter.unusedVariables false
set_option linter.unnecessarySimpa false
open Go

/-- What is laid as a row of w cells of plain data. -/
class Row (α : Type) where
  w : Nat
  dcs : α → List DC
  len : ∀ a, (dcs a).length = w
  pos : 0 < w
  flat : ∀ a, ∀ d ∈ dcs a, d.flat = true
  inj : ∀ a b, dcs a = dcs b → a = b

def rds {α : Type} [Row α] (l : List α) : List DC := l.flatMap Row.dcs
def rcs {α : Type} [Row α] (l : List α) : List AC := (rds l).map .d
abbrev rlist {α : Type} [Row α] (l : List α) : AV := .one (.d (.list l.length (rds l)))

section
variable {α : Type} [Row α]
@[simp] theorem rds_nil : rds ([] : List α) = [] := rfl
@[simp] theorem rcs_nil : rcs ([] : List α) = [] := rfl
@[simp] theorem rds_cons (a : α) (l : List α) : rds (a :: l) = Row.dcs a ++ rds l := by simp [rds]
@[simp] theorem rcs_cons (a : α) (l : List α) : rcs (a :: l) = (Row.dcs a).map .d ++ rcs l := by simp [rcs]
@[simp] theorem rds_append (a b : List α) : rds a ++ rds b = rds (a ++ b) := by simp [rds]
@[simp] theorem rcs_append (a b : List α) : rcs a ++ rcs b = rcs (a ++ b) := by simp [rcs, ← rds_append]
@[simp] theorem rds_map (l : List α) : (rds l).map AC.d = rcs l := rfl
theorem rds_length (l : List α) : (rds l).length = l.length * Row.w α := by
  induction l with
  | nil => simp
  | cons a l ih => rw [rds_cons, List.length_append, Row.len, ih, List.length_cons, Nat.succ_mul]; omega
theorem rcs_length (l : List α) : (rcs l).length = l.length * Row.w α := by rw [rcs, List.length_map, rds_length]
theorem rds_drop (l : List α) (i : Nat) : (rds l).drop (i * Row.w α) = rds (l.drop i) := by
  induction l generalizing i with
  | nil => simp
  | cons a l ih =>
    match i with
    | 0 => simp
    | i + 1 =>
      rw [rds_cons, List.drop_succ_cons, ← ih i, Nat.succ_mul, List.drop_append, Row.len, List.drop_eq_nil_of_le (by rw [Row.len]; omega), List.nil_append]
      congr 1; omega
theorem rds_take (l : List α) (i : Nat) : (rds l).take (i * Row.w α) = rds (l.take i) := by
  induction l generalizing i with
  | nil => simp
  | cons a l ih =>
    match i with
    | 0 => simp
    | i + 1 =>
      rw [rds_cons, List.take_succ_cons, rds_cons, ← ih i, Nat.succ_mul, List.take_append, Row.len, List.take_of_length_le (by rw [Row.len]; omega)]
      congr 2; omega
theorem rcs_drop (l : List α) (i : Nat) : (rcs l).drop (i * Row.w α) = rcs (l.drop i) := by
  rw [rcs, ← List.map_drop, rds_drop]; rfl
theorem rcs_take (l : List α) (i : Nat) : (rcs l).take (i * Row.w α) = rcs (l.take i) := by
  rw [rcs, ← List.map_take, rds_take]; rfl
theorem rcs_drop1 (l : List α) (i : Nat) : (rcs l).drop (i * Row.w α + Row.w α) = rcs (l.drop (i + 1)) := by
  rw [← rcs_drop, Nat.succ_mul]
theorem rcs_zeros (n : Nat) (z : α) : (List.replicate n ((Row.dcs z).map AC.d)).flatten = rcs (List.replicate n z) := by
  induction n with
  | zero => rfl
  | succ n ih => rw [List.replicate_succ, List.flatten_cons, ih, List.replicate_succ, rcs_cons]
@[simp] theorem mapM_dcs (l : List DC) : (l.map AC.d).mapM AC.dc? = some l := by
  induction l with
  | nil => rfl
  | cons b bs ih => rw [List.map_cons, List.mapM_cons, ih]; rfl
@[simp] theorem mapM_rcs (l : List α) : (rcs l).mapM AC.dc? = some (rds l) := mapM_dcs _
@[simp] theorem flatL_rcs (l : List α) : flatL (rcs l) := by
  intro c hc
  simp only [rcs, rds, List.mem_map, List.mem_flatMap] at hc
  obtain ⟨d, ⟨a, _, hd⟩, rfl⟩ := hc
  exact Row.flat a d hd
@[simp] theorem ren_dcs (ρ : Nat → Nat) (l : List DC) : (l.map AC.d).map (AC.ren ρ) = l.map AC.d := by
  rw [List.map_map]; rfl
@[simp] theorem ren_rcs (ρ : Nat → Nat) (l : List α) : (rcs l).map (AC.ren ρ) = rcs l := ren_dcs ρ _
@[simp] theorem ren_rcs2 (ρ τ : Nat → Nat) (l : List α) : (rcs l).map (AC.ren ρ ∘ AC.ren τ) = rcs l := by
  rw [← List.map_map, ren_rcs, ren_rcs]
theorem rds_inj {a b : List α} (h : rds a = rds b) : a = b := by
  induction a generalizing b with
  | nil =>
    cases b with
    | nil => rfl
    | cons y b =>
      have h1 := congrArg List.length h
      have := Row.pos (α := α)
      rw [rds_length, rds_length, List.length_nil, List.length_cons, Nat.succ_mul] at h1
      omega
  | cons x a ih =>
    cases b with
    | nil =>
      have h1 := congrArg List.length h
      have := Row.pos (α := α)
      rw [rds_length, rds_length, List.length_nil, List.length_cons, Nat.succ_mul] at h1
      omega
    | cons y b =>
      rw [rds_cons, rds_cons] at h
      obtain ⟨h1, h2⟩ := List.append_inj h (by rw [Row.len, Row.len])
      rw [Row.inj x y h1, ih h2]
@[simp] theorem rcs_inj (a b : List α) : rcs a = rcs b ↔ a = b :=
  ⟨fun h => rds_inj ((List.map_inj_right (fun x y e => by cases e; rfl)).1 h), fun h => by rw [h]⟩
end
/-- The element at a place, what is behind it. -/
theorem drop_at {α : Type} (l : List α) {i : Nat} (h : i < l.length) : ∃ o t, l.drop i = o :: t ∧ l[i]? = some o ∧ l.drop (i + 1) = t ∧ l.take (i + 1) = l.take i ++ [o] := by
  refine ⟨l[i], l.drop (i + 1), List.drop_eq_getElem_cons h, List.getElem?_eq_getElem h, rfl, ?_⟩
  rw [List.take_succ_eq_append_getElem h]
end Go.Abs
namespace Go.Abs
set_option linter.unusedSimpArgs false
set_option linter.unusedVariables false
set_option linter.unnecessarySimpa false
open Go
section
variable {P : Program} {ev : Operand → AV} {H : AHeap} {c : Nat} {K : AV → AHeap → Nat → Prop}
@[simp] theorem acore_makeMap (t : TypeId) : acore P (.makeMap t none) ev H c K = K (.one (.mp H.length c)) (H ++ [some ⟨c, 0, 0, [.obj [] 0]⟩]) (c + 1) := propext Iff.rfl
@[simp] theorem acore_lookup (t : TypeId) (m k : Operand) (ok : Bool) : acore P (.lookup t m k ok) ev H c K = lookupA P H t (ev m) (ev k) ok (valK K H c) := propext Iff.rfl
@[simp] theorem acore_mapUpdate (t : TypeId) (m k v : Operand) : acore P (.mapUpdate t m k v) ev H c K = mapUpdA P H t (ev m) (ev k) (ev v) (stoK K c) := propext Iff.rfl
@[simp] theorem acore_delete (m k : Operand) (t u : TypeId) : acore P (.call { callee := .builtin .delete, args := #[m, k], argTypes := #[t, u] }) ev H c K = mapDelA P H t (ev m) (ev k) (stoK K c) := propext Iff.rfl
@[simp] theorem xmakeMap (t : TypeId) (r : Option Operand) : acoreX P (.makeMap t r) ev H c K = acore P (.makeMap t r) ev H c K := propext Iff.rfl
@[simp] theorem xlookup (t : TypeId) (m k : Operand) (ok : Bool) : acoreX P (.lookup t m k ok) ev H c K = acore P (.lookup t m k ok) ev H c K := propext Iff.rfl
@[simp] theorem xmapUpdate (t : TypeId) (m k v : Operand) : acoreX P (.mapUpdate t m k v) ev H c K = acore P (.mapUpdate t m k v) ev H c K := propext Iff.rfl
end
attribute [simp] objAt mapsA AC.val? AV.val? AV.ofV
@[simp] theorem flat_mp (k g : Nat) : (AC.mp k g).flat = true := rfl
@[simp] theorem flat_obj (es : List MapEntry) (c : Nat) : (AC.obj es c).flat = true := rfl
@[congr] theorem lookupA_congr (P : Program) {H H' : AHeap} (t : TypeId) {m m' k k' : AV} (ok : Bool) (K : AV → Prop) (h : H = H') (h1 : m = m') (h2 : k = k') : lookupA P H t m k ok K = lookupA P H' t m' k' ok K := by rw [h, h1, h2]
@[congr] theorem mapUpdA_congr (P : Program) {H H' : AHeap} (t : TypeId) {m m' k k' v v' : AV} (K : AHeap → Prop) (h : H = H') (h1 : m = m') (h2 : k = k') (h3 : v = v') : mapUpdA P H t m k v K = mapUpdA P H' t m' k' v' K := by rw [h, h1, h2, h3]

/-! Keys that are structs -/
theorem check_fields {P : Program} {w : World} {K : TypeId → Option (Bool × List CK)} {em : Bool} {d : Nat} {X : List Value} (hK1 : ∀ t q, K t = some q → q.1 = false → q.2.length = 1)
    (hK : ∀ t q, K t = some q → ∀ (xs : List Value), ScalKs q.2 xs = true → (Instr.checkKey em d t (ofCells q.1 xs)).run P w = .ok () w) :
    ∀ (fs : List Field) (off : Nat) (ks : List CK), eqFields P K off fs = some ks → ScalKs ks (X.drop off) = true → off ≤ X.length →
      (forIn fs PUnit.unit fun f (_ : PUnit) => (if f.name = "_" then pure (ForInStep.yield PUnit.unit) else (do let v ← part f.type X.toArray f.offset; (fun _ => ForInStep.yield PUnit.unit) <$> Instr.checkKey em d f.type v) : Sem (ForInStep PUnit))).run P w = .ok PUnit.unit w
  | [], off, ks, h, hx, _ => by simp
  | f :: rest, off, ks, h, hx, ox => by
    unfold eqFields at h
    split at h
    · rename_i ho
      rw [Option.bind_eq_some_iff] at h
      obtain ⟨q, hq, h⟩ := h
      split at h
      · rename_i hs
        rw [Option.map_eq_some_iff] at h
        obtain ⟨k2, hk2, rfl⟩ := h
        have hx' := scalKs_split hx
        have lx := scalKs_length hx
        simp at lx
        have h1 := hK f.type q hq _ hx'.1
        have px := run_part hs.2 hs.1 (vs := X) (off := off) (by omega) (fun e => hK1 _ _ hq e) w
        have ih := check_fields (w := w) hK1 hK rest (off + q.2.length) k2 hk2 (by simpa [List.drop_drop] using hx'.2) (by omega)
        rw [← ho.1] at px h1
        simp only [List.forIn_cons]
        simp [ho.2, px, h1, ih]
      · exact absurd h (by simp)
    · exact absurd h (by simp)
theorem check_run {P : Program} (w : World) (em : Bool) : ∀ (n : Nat) (t : TypeId) (q : Bool × List CK), eqT P n t = some q → ∀ (d : Nat), n ≤ d → ∀ (xs : List Value), ScalKs q.2 xs = true →
    (Instr.checkKey em d t (ofCells q.1 xs)).run P w = .ok () w
  | 0, _, _, h, _, _, _, _ => by simp [eqT] at h
  | n + 1, t, q, h, 0, hd, _, _ => by omega
  | n + 1, t, q, h, d + 1, hd, xs, hx => by
    unfold eqT at h
    split at h
    · rename_i ht
      simp at h; subst h
      obtain ⟨a, rfl⟩ := scal1_bool hx
      simp [Instr.checkKey, run_underlying ht, ofCells]
    · rename_i k ht
      simp at h; subst h
      obtain ⟨a, rfl⟩ := scal1_int hx
      simp [Instr.checkKey, run_underlying ht, ofCells]
    · rename_i ht
      simp at h; subst h
      obtain ⟨a, rfl⟩ := scal1_str hx
      simp [Instr.checkKey, run_underlying ht, ofCells]
    · rename_i fs ht
      split at h
      · exact absurd h (by simp)
      · rename_i hst
        rw [Option.map_eq_some_iff] at h
        obtain ⟨ks, hks, rfl⟩ := h
        have hF := check_fields (w := w) (em := em) (d := d) (X := xs) (fun t q h => eqT_one h) (fun t q h xs h1 => check_run w em n t q h d (by omega) xs h1) fs.toList 0 ks hks (by simpa using hx) (Nat.zero_le _)
        rw [Array.forIn_toList] at hF
        simp [Instr.checkKey, run_underlying ht, ofCells]
        exact hF
    · exact absurd h (by simp)
/-- Where a key stands. -/
def keyIs (ks : List Value) (e : MapEntry) : Bool := match e.key with
  | .agg cs => eqVs ks cs.toList
  | _ => false
def findE (ks : List Value) : List MapEntry → Nat → Option (Nat × Value)
  | [], _ => none
  | e :: es, i => if keyIs ks e then some (i, e.val) else findE ks es (i + 1)
def KeysOk (cks : List CK) (es : List MapEntry) : Prop := ∀ e ∈ es, ∃ l : List Value, e.key = .agg l.toArray ∧ ScalKs cks l = true
theorem find_run {P : Program} {n : Nat} {kt : TypeId} {cks : List CK} (hk : eqT P n kt = some (true, cks)) (hn : n ≤ 10000) (w : World) {ks : List Value} (hx : ScalKs cks ks = true) :
    ∀ (es : List MapEntry) (i : Nat), KeysOk cks es → (Instr.findAsking kt (.agg ks.toArray) es i).run P w = .ok (findE ks es i) w
  | [], i, _ => by simp [Instr.findAsking, findE]
  | e :: es, i, h => by
    obtain ⟨l, hl, hs⟩ := h e (by simp)
    have h1 : (Op.equal kt (.agg ks.toArray) (.agg l.toArray)).run P w = .ok (eqVs ks l) w := eq_run w n kt (true, cks) hk Op.maxDepth hn ks l hx hs
    have ih := find_run hk hn w hx es (i + 1) (fun e he => h e (by simp [he]))
    simp only [Instr.findAsking, findE, keyIs, hl]
    rw [Sem.run_bind, h1]
    cases hb : eqVs ks l with
    | true => simp
    | false => simp [ih]
theorem findKey_run {P : Program} {n : Nat} {kt : TypeId} {cks : List CK} (hk : eqT P n kt = some (true, cks)) (hn : n ≤ 10000) (w : World) {ks : List Value} (hx : ScalKs cks ks = true) {es : List MapEntry} (h : KeysOk cks es) :
    (Instr.findKey kt (.agg ks.toArray) es).run P w = .ok (findE ks es 0) w := by
  rw [run_findKey_eq w ?_]
  · exact find_run hk hn w hx es 0 h
  · cases n with
    | zero => simp [eqT] at hk
    | succ n =>
      unfold eqT at hk
      split at hk <;> simp_all
theorem checkKey_run {P : Program} {n : Nat} {kt : TypeId} {cks : List CK} (hk : eqT P n kt = some (true, cks)) (hn : n ≤ 10000) (w : World) {ks : List Value} (hx : ScalKs cks ks = true) (em : Bool) : (Instr.checkKey em 10000 kt (.agg ks.toArray)).run P w = .ok () w :=
  check_run w em n kt (true, cks) hk 10000 hn ks hx
theorem mapGet_of {P : Program} {n : Nat} {t kt et : TypeId} {cks : List CK} {z : Value} (hm : mapT P t = some (kt, et)) (hk : eqT P n kt = some (true, cks)) (hn : n ≤ 10000) (hz : ∀ w, (zeroValue et).run P w = .ok z w) (hz1 : oneCells z = true)
    {ks : List Value} (hx : ScalKs cks ks = true) {es : List MapEntry} (h : KeysOk cks es) (hv : ∀ e ∈ es, oneCells e.val = true) :
    MapGet P t (.agg ks.toArray) es (findE ks es 0).isSome (match findE ks es 0 with | some p => p.2 | none => z) := by
  have hfv : ∀ (es : List MapEntry) (i : Nat) p, (∀ e ∈ es, oneCells e.val = true) → findE ks es i = some p → oneCells p.2 = true := by
    intro es
    induction es with
    | nil => intro i p _ h; simp [findE] at h
    | cons e es ih =>
      intro i p hv h
      simp only [findE] at h
      split at h
      · cases h; exact hv e (by simp)
      · exact ih (i + 1) p (fun e he => hv e (by simp [he])) h
  refine ⟨?_, fun w m hw ok => ?_⟩
  · cases hf : findE ks es 0 with
    | none => exact hz1
    | some p => exact hfv es 0 p hv hf
  · have hfind := findKey_run hk hn w hx h
    have hu := mapT_some hm
    rcases hw with ⟨rfl, rfl⟩ | ⟨r, c, rfl, hr⟩
    · simp [Instr.lookup, run_underlying hu, checkKey_run hk hn w hx, findKey_run hk hn w hx (es := []) (fun e he => by simp at he), findE, hz]
    · simp only [Instr.lookup]
      cases hf : findE ks es 0 with
      | none => rw [hf] at hfind; simp [run_underlying hu, MapKept.run_getObj_map hr, checkKey_run hk hn w hx, hfind, hz]
      | some p => rw [hf] at hfind; simp [run_underlying hu, MapKept.run_getObj_map hr, checkKey_run hk hn w hx, hfind]
theorem eqVs_same : ∀ {cks : List CK} {a b : List Value}, ScalKs cks a = true → ScalKs cks b = true → eqVs a b = true → b = a
  | [], [], [], _, _, _ => rfl
  | k :: cks, x :: a, y :: b, h1, h2, h => by
    simp [ScalKs] at h1 h2
    simp at h
    rw [eqVs_same h1.2 h2.2 h.2]
    congr 1
    have h3 := h.1
    have h4 := h1.1
    have h5 := h2.1
    cases k <;> cases x <;> simp [ScalK] at h4 <;> cases y <;> simp [ScalK] at h5 <;> simp [MapKept.bytes_beq] at h3 <;> simp_all
  | [], _ :: _, _, h, _, _ => by simp [ScalKs] at h
  | [], [], _ :: _, _, h, _ => by simp [ScalKs] at h
  | _ :: _, [], _, h, _, _ => by simp [ScalKs] at h
  | _ :: _, _ :: _, [], _, h, _ => by simp [ScalKs] at h
theorem stays_run {P : Program} (w : World) {cks : List CK} {ks : List Value} (hx : ScalKs cks ks = true) : (Instr.keyThatStays (.agg ks.toArray) (.agg ks.toArray)).run P w = .ok (.agg ks.toArray) w := by
  have h : Instr.sameBits 10000 (.agg ks.toArray) (.agg ks.toArray) = true := by
    have : ∀ (cks : List CK) (ks : List Value), ScalKs cks ks = true → ∀ x ∈ ks, Instr.sameBits 9999 x x = true := by
      intro cks
      induction cks with
      | nil => intro ks h; cases ks with | nil => simp | cons => simp [ScalKs] at h
      | cons k cks ih =>
        intro ks h
        cases ks with
        | nil => simp
        | cons x ks =>
          simp [ScalKs] at h
          intro y hy
          rcases List.mem_cons.1 hy with rfl | hy
          · have := h.1
            cases k <;> cases y <;> simp [ScalK] at this <;> simp [Instr.sameBits, MapKept.bytes_beq]
          · exact ih ks h.2 y hy
    simp only [Instr.sameBits, List.size_toArray, beq_self_eq_true, Bool.true_and, List.all_eq_true]
    intro p hp
    obtain ⟨j, hj⟩ := List.mem_iff_getElem?.1 hp
    rw [List.getElem?_zip_eq_some] at hj
    obtain ⟨h1, h2⟩ := hj
    rw [h1] at h2; injection h2 with h2
    rw [← h2]
    exact this cks ks hx p.1 (List.mem_of_getElem? h1)
  simp [Instr.keyThatStays, h]
theorem findE_at {ks : List Value} : ∀ {es : List MapEntry} {i : Nat} {p : Nat × Value}, findE ks es i = some p → ∃ j e, p.1 = i + j ∧ es[j]? = some e ∧ keyIs ks e = true ∧ p.2 = e.val
  | [], i, p, h => by simp [findE] at h
  | e :: es, i, p, h => by
    simp only [findE] at h
    split at h
    · cases h; exact ⟨0, e, rfl, rfl, by assumption, rfl⟩
    · obtain ⟨j, e', h1, h2, h3, h4⟩ := findE_at h
      exact ⟨j + 1, e', by omega, by simpa using h2, h3, h4⟩
/-- What a map holds behind a write. -/
def putE (ks : List Value) (v : Value) (es : List MapEntry) (c : Nat) : List MapEntry × Nat := match findE ks es 0 with
  | some (i, _) => (es.modify i fun e => { e with key := .agg ks.toArray, val := v }, c)
  | none => (es ++ [⟨.agg ks.toArray, v, c⟩], c + 1)
def delE (ks : List Value) (es : List MapEntry) : List MapEntry := match findE ks es 0 with
  | some (i, _) => es.eraseIdx i
  | none => es
theorem mapUpd_of {P : Program} {n : Nat} {t kt et : TypeId} {cks : List CK} (hm : mapT P t = some (kt, et)) (hk : eqT P n kt = some (true, cks)) (hn : n ≤ 10000)
    {ks : List Value} (hx : ScalKs cks ks = true) {es : List MapEntry} {c : Nat} {v : Value} (h : KeysOk cks es) : MapUpd P t (.agg ks.toArray) v es c (putE ks v es c).1 (putE ks v es c).2 := by
  intro w r hr
  have hfind := findKey_run hk hn w hx h
  have hu := mapT_some hm
  simp only [Instr.mapUpdate, putE]
  cases hf : findE ks es 0 with
  | none =>
    rw [hf] at hfind
    simp [run_underlying hu, MapKept.run_getObj_map hr, checkKey_run hk hn w hx, hfind, MapKept.run_setObj_map _ hr]
  | some p =>
    obtain ⟨i, u⟩ := p
    rw [hf] at hfind
    obtain ⟨j, e, h1, h2, h3, _⟩ := findE_at hf
    simp at h1; subst h1
    obtain ⟨l, hl, hs⟩ := h e (List.mem_of_getElem? h2)
    have hek : e.key = .agg ks.toArray := by
      simp only [keyIs, hl] at h3
      rw [hl, eqVs_same hx hs h3]
    simp [run_underlying hu, MapKept.run_getObj_map hr, checkKey_run hk hn w hx, hfind, h2, hek, stays_run w hx, MapKept.run_setObj_map _ hr, Result.andThen]
theorem mapDel_of {P : Program} {n : Nat} {t kt et : TypeId} {cks : List CK} (hm : mapT P t = some (kt, et)) (hk : eqT P n kt = some (true, cks)) (hn : n ≤ 10000)
    {ks : List Value} (hx : ScalKs cks ks = true) {es : List MapEntry} {c : Nat} (h : KeysOk cks es) : MapDel P t (.agg ks.toArray) es c (delE ks es) := by
  intro w r u ty hr
  have hfind := findKey_run hk hn w hx h
  have hu := mapT_some hm
  simp only [Builtin.delete_, delE]
  cases hf : findE ks es 0 with
  | none =>
    rw [hf] at hfind
    simp [run_underlying hu, MapKept.run_getObj_map hr, checkKey_run hk hn w hx, hfind, MapKept.run_setObj_map _ hr]
  | some p =>
    obtain ⟨i, u⟩ := p
    rw [hf] at hfind
    obtain ⟨j, e, h1, h2, h3, _⟩ := findE_at hf
    simp at h1; subst h1
    have hjl := (List.getElem?_eq_some_iff.1 h2).1
    simp [run_underlying hu, MapKept.run_getObj_map hr, checkKey_run hk hn w hx, hfind, MapKept.run_setObj_map _ hr, Array.eraseIdxIfInBounds, hjl]
end Go.Abs
namespace Go.Abs
set_option linter.unusedSimpArgs false
set_option linter.unusedVariables false
set_option linter.unnecessarySimpa false
open Go
def valE (ks : List Value) : List MapEntry → Option Value
  | [] => none
  | e :: es => if keyIs ks e then some e.val else valE ks es
theorem findE_val (ks : List Value) : ∀ (es : List MapEntry) (i : Nat), (findE ks es i).map (·.2) = valE ks es
  | [], i => rfl
  | e :: es, i => by
    simp only [findE, valE]
    split
    · rfl
    · exact findE_val ks es (i + 1)
def putR (ks : List Value) (v : Value) (c : Nat) : List MapEntry → List MapEntry
  | [] => [⟨.agg ks.toArray, v, c⟩]
  | e :: es => if keyIs ks e then { e with key := .agg ks.toArray, val := v } :: es else e :: putR ks v c es
theorem putE_putR (ks : List Value) (v : Value) (es : List MapEntry) (c : Nat) : (putE ks v es c).1 = putR ks v c es := by
  have key : ∀ (es : List MapEntry) (i : Nat), (match findE ks es i with
      | some (j, _) => es.modify (j - i) fun e => { e with key := .agg ks.toArray, val := v }
      | none => es ++ [⟨.agg ks.toArray, v, c⟩]) = putR ks v c es := by
    intro es
    induction es with
    | nil => intro i; rfl
    | cons e es ih =>
      intro i
      simp only [findE, putR]
      by_cases h : keyIs ks e = true
      · simp [h]
      · simp only [h, if_false, Bool.false_eq_true]
        rw [← ih (i + 1)]
        cases hf : findE ks es (i + 1) with
        | none => simp
        | some p =>
          obtain ⟨j, u⟩ := p
          obtain ⟨j', e', h1, _⟩ := findE_at hf
          simp only at h1 ⊢
          have : j - i = (j - (i + 1)) + 1 := by omega
          rw [this, List.modify_succ_cons]
  have := key es 0
  unfold putE
  rw [← this]
  cases findE ks es 0 with
  | none => rfl
  | some p => simp
theorem keysOk_put {cks : List CK} {ks : List Value} (hx : ScalKs cks ks = true) {v : Value} {c : Nat} : ∀ {es : List MapEntry}, KeysOk cks es → KeysOk cks (putR ks v c es)
  | [], h => fun e he => by
    simp [putR] at he; subst he; exact ⟨ks, rfl, hx⟩
  | e :: es, h => by
    simp only [putR]
    split
    · intro e' he'
      rcases List.mem_cons.1 he' with rfl | he'
      · exact ⟨ks, rfl, hx⟩
      · exact h e' (by simp [he'])
    · intro e' he'
      rcases List.mem_cons.1 he' with rfl | he'
      · exact h e' (by simp)
      · exact keysOk_put hx (es := es) (fun e he => h e (by simp [he])) e' he'
theorem mem_put {ks : List Value} {v : Value} {c : Nat} {q : Value → Prop} (hv : q v) : ∀ {es : List MapEntry}, (∀ e ∈ es, q e.val) → ∀ e ∈ putR ks v c es, q e.val
  | [], h, e, he => by simp [putR] at he; subst he; exact hv
  | e :: es, h, e', he' => by
    simp only [putR] at he'
    split at he'
    · rcases List.mem_cons.1 he' with rfl | he'
      · exact hv
      · exact h e' (by simp [he'])
    · rcases List.mem_cons.1 he' with rfl | he'
      · exact h e' (by simp)
      · exact mem_put hv (es := es) (fun e he => h e (by simp [he])) e' he'
theorem eqVs_refl : ∀ {cks : List CK} {a : List Value}, ScalKs cks a = true → eqVs a a = true
  | [], [], _ => rfl
  | k :: cks, x :: a, h => by
    simp [ScalKs] at h
    rw [eqVs, Bool.and_eq_true]
    refine ⟨?_, eqVs_refl h.2⟩
    have := h.1
    cases k <;> cases x <;> simp [ScalK] at this <;> simp [MapKept.bytes_beq]
  | [], _ :: _, h => by simp [ScalKs] at h
  | _ :: _, [], h => by simp [ScalKs] at h
theorem keyIs_key (a ks : List Value) (v : Value) (c : Nat) : keyIs a ⟨.agg ks.toArray, v, c⟩ = eqVs a ks := by simp [keyIs]
/-- What a key gives behind a write. -/
theorem valE_put {cks : List CK} {ks a : List Value} (hx : ScalKs cks ks = true) (ha : ScalKs cks a = true) {v : Value} {c : Nat} : ∀ {es : List MapEntry}, KeysOk cks es → valE a (putR ks v c es) = if eqVs a ks then some v else valE a es
  | [], h => by simp [putR, valE, keyIs_key]
  | e :: es, h => by
    have ih := valE_put hx ha (v := v) (c := c) (es := es) (fun e he => h e (by simp [he]))
    obtain ⟨l, hl, hs⟩ := h e (by simp)
    simp only [putR]
    by_cases h1 : keyIs ks e = true
    · simp only [h1, if_true, valE]
      have hkl : l = ks := by simp only [keyIs, hl] at h1; exact eqVs_same hx hs h1
      have e1 : keyIs a { e with key := .agg ks.toArray, val := v } = eqVs a ks := by simp [keyIs]
      have e2 : keyIs a e = eqVs a ks := by simp only [keyIs, hl]; rw [hkl]
      rw [e1, e2]
      split <;> rfl
    · simp only [h1, if_false, Bool.false_eq_true, valE]
      rw [ih]
      by_cases h2 : keyIs a e = true
      · simp only [h2, if_true]
        have hal : l = a := by simp only [keyIs, hl] at h2; exact eqVs_same ha hs h2
        have : eqVs a ks = false := by
          rw [Bool.eq_false_iff]; intro h3
          apply h1
          have : ks = a := eqVs_same ha hx h3
          simp only [keyIs, hl, hal, this]
          exact eqVs_refl ha
        simp [this]
      · simp [h2]
/-- A key, asked of an own map or of one that is data. -/
theorem lookup_of {P : Program} {n : Nat} {t kt et : TypeId} {cks : List CK} {z : Value} (hm : mapT P t = some (kt, et)) (hk : eqT P n kt = some (true, cks)) (hn : n ≤ 10000) (hz : ∀ w, (zeroValue et).run P w = .ok z w) (hz1 : oneCells z = true)
    {H : AHeap} {m k : AV} {ks : List Value} {es : List MapEntry} {ok : Bool} {K : AV → Prop} (hme : mapsA H m = some es) (hkv : k.val? = some (.agg ks.toArray)) (hx : ScalKs cks ks = true) (h : KeysOk cks es) (hv : ∀ e ∈ es, oneCells e.val = true)
    (hK : K (if ok then .tup [AV.ofV ((valE ks es).getD z), bv (valE ks es).isSome] else AV.ofV ((valE ks es).getD z))) : lookupA P H t m k ok K := by
  refine ⟨_, es, _, _, hkv, hme, mapGet_of hm hk hn hz hz1 hx h hv, ?_⟩
  rw [← findE_val ks es 0] at hK
  revert hK
  cases findE ks es 0 <;> exact id
theorem update_of {P : Program} {n : Nat} {t kt et : TypeId} {cks : List CK} (hm : mapT P t = some (kt, et)) (hk : eqT P n kt = some (true, cks)) (hn : n ≤ 10000)
    {H : AHeap} {j g c : Nat} {k v : AV} {ks : List Value} {vv : Value} {es : List MapEntry} {K : AHeap → Prop} (hme : objAt H j g = some (es, c)) (hkv : k.val? = some (.agg ks.toArray)) (hvv : v.val? = some vv) (hx : ScalKs cks ks = true) (h : KeysOk cks es)
    (hK : K (H.set j (some ⟨g, 0, 0, [.obj (putR ks vv c es) (putE ks vv es c).2]⟩))) : mapUpdA P H t (.one (.mp j g)) k v K := by
  refine ⟨j, g, es, c, _, vv, _, _, rfl, hme, hkv, hvv, mapUpd_of hm hk hn hx h, ?_⟩
  rw [putE_putR]; exact hK
end Go.Abs
namespace Go.Abs
set_option linter.unusedSimpArgs false
set_option linter.unusedVariables false
set_option linter.unnecessarySimpa false
open Go
/-- A call that writes one array and gives others: those that are named are kept. -/
def GPostR (σ : List Nat) (τ : Nat → Nat) (post : AV → AHeap → Prop) (r : AV) (H : AHeap) (_ : Nat) : Prop :=
  (r.ren τ).ren (sig σ) = r ∧ (∀ i ∈ σ, ∃ B, H[i]? = some (some B) ∧ (B.ren τ).ren (sig σ) = B) ∧ σ.Nodup ∧ post (r.ren τ) (gat σ τ H)
theorem rcall_gather {P : Program} {f : FuncId} {args : List AV} {B : ABlk} {p : AV → ABlk → AHeap → Prop} (σ0 : List Nat) (τ : Nat → Nat) (h : ∀ clk, ACall P f args [some B] clk (GPostR (0 :: σ0) τ fun r H => ∃ B' Hn, H = some B' :: Hn ∧ p r B' Hn)) : RCall P f args B p := by
  intro clk w E vals hclk hsim hrel
  refine (h clk w E vals hclk hsim hrel).mono fun e w' => ?_
  rintro ⟨v, r, H', E', rfl, hle, hsim', hr, hfrm, hlive, hI0, hren, hblk, hnd, hpost⟩
  have hE1 : E.β.length = 1 := by simpa using hsim.len
  generalize hσ : 0 :: σ0 = σ at hren hnd hblk hpost
  have hσ0 : σ[0]? = some 0 := by rw [← hσ]; rfl
  have hall : ∀ i ∈ σ, ∃ b, E'.β[i]? = some b := fun i hi => by
    obtain ⟨B, hB, _⟩ := hblk i hi
    obtain ⟨b, hb, _⟩ := hsim'.blk i B hB
    exact ⟨b, hb⟩
  let bi : Nat → BI := fun i => E'.β.getD i ⟨0, none, 0, 0, 0⟩
  have hbi : ∀ i ∈ σ, E'.β[i]? = some (bi i) := fun i hi => by
    obtain ⟨b, hb⟩ := hall i hi
    simp [bi, List.getD_eq_getElem?_getD, hb]
  let E2 : Env := ⟨E'.I, σ.map bi, E'.clk⟩
  have hβ : ∀ (j : Nat) (i : BI), E2.β[j]? = some i → E'.β[sig σ j]? = some i := fun j i hj => by
    simp only [E2, List.getElem?_map] at hj
    cases hs : σ[j]? with
    | none => simp [hs] at hj
    | some q =>
      simp [hs] at hj
      have : sig σ j = q := by simp [sig, List.getD_eq_getElem?_getD, hs]
      rw [this, hbi q (List.mem_of_getElem? hs), hj]
  have hle2 : Env.Le w E w' E2 := ⟨hle.I, hle.clk, fun j i hi => by
    rcases hle.β _ i (hβ j i hi) with h | h
    · left
      have hq : sig σ j < E.β.length := (List.getElem?_eq_some_iff.1 h).1
      have hj : j < σ.length := by
        have := (List.getElem?_eq_some_iff.1 hi).1
        simpa [E2] using this
      have hs : σ[j]? = some (sig σ j) := by simp [sig, List.getD_eq_getElem?_getD, hj]
      have h0 : sig σ j = 0 := by omega
      have hj0 : j = 0 := (List.getElem?_inj hj hnd).1 (by rw [hs, h0, hσ0])
      rw [hj0]
      rwa [h0] at h
    · exact .inr h⟩
  have hle3 : Env.Le w' E' w' ⟨E'.I, E'.β, E'.clk⟩ := Env.Le.refl _ _
  have atG : ∀ (j : Nat) (B : ABlk), (gat σ τ H')[j]? = some (some B) → ∃ q B0, σ[j]? = some q ∧ H'[q]? = some (some B0) ∧ B = B0.ren τ ∧ (B0.ren τ).ren (sig σ) = B0 := fun j B hB => by
    simp only [gat, List.getElem?_map] at hB
    cases hs : σ[j]? with
    | none => simp [hs] at hB
    | some q =>
      obtain ⟨B0, hB0, hr0⟩ := hblk q (List.mem_of_getElem? hs)
      simp [hs, hB0] at hB
      exact ⟨q, B0, rfl, hB0, hB.symm, hr0⟩
  have hβq : ∀ (j q : Nat) (i : BI), σ[j]? = some q → E2.β[j]? = some i → E'.β[q]? = some i := fun j q i hs hi => by
    have := hβ j i hi
    simpa [sig, List.getD_eq_getElem?_getD, hs] using this
  refine ⟨v, r.ren τ, gat σ τ H', E2, rfl, hle2, ⟨by simp [E2, gat], ?_, hsim'.I, ?_, ?_, hsim'.glob⟩, ?_, hfrm, ?_, hI0, hpost⟩
  · intro j i hi
    exact hsim'.gens _ i (hβ j i hi)
  · intro j B hB
    obtain ⟨q, B0, hs, hB0, rfl, hr0⟩ := atG j B hB
    obtain ⟨i, hi, hok⟩ := hsim'.blk q B0 hB0
    have hij : E2.β[j]? = some i := by
      simp only [E2, List.getElem?_map, hs]
      have := hbi q (List.mem_of_getElem? hs)
      rw [hi] at this
      simpa using this.symm
    refine ⟨i, hij, hok.1, hok.2.1, hok.2.2.1, hok.2.2.2.1, ?_⟩
    obtain ⟨_, _, _, _, h5⟩ := hok
    cases hb : i.blk with
    | none => rw [hb] at h5; exact ⟨by simp [ABlk.ren, h5.1], h5.2⟩
    | some b =>
      rw [hb] at h5
      obtain ⟨hn, ⟨C, hC, hl, hlc, hrl⟩ | hm⟩ := h5
      · refine ⟨hn, .inl ⟨C, hC, hl, by simpa [ABlk.ren] using hlc, ?_⟩⟩
        have hcs : (B0.ren τ).cells.map (AC.ren (sig σ)) = B0.cells := congrArg ABlk.cells hr0
        have hlen : (B0.ren τ).cells.length = B0.cells.length := by simp [ABlk.ren]
        rw [hlen]
        rw [← hcs] at hrl
        have := unren_rels (E := E') (E' := E2) rfl rfl hβ hrl
        simpa [hlen] using this
      · exact ⟨hn, .inr hm.ren⟩
  · intro j j' B B' i i' b hB hB' hi hi' hb hb'
    obtain ⟨q, B0, hs, hB0, _, _⟩ := atG j B hB
    obtain ⟨q', B0', hs', hB0', _, _⟩ := atG j' B' hB'
    have hq := hsim'.apart q q' B0 B0' i i' b hB0 hB0' (hβq j q i hs hi) (hβq j' q' i' hs' hi') hb hb'
    subst hq
    have hjl : j < σ.length := (List.getElem?_eq_some_iff.1 hs).1
    exact (List.getElem?_inj hjl hnd).1 (hs.trans hs'.symm)
  · have h1 : RelV w' E' ((r.ren τ).ren (sig σ)) v := by rw [hren]; exact hr
    exact unren_relV (E := E') (E' := E2) rfl rfl hβ h1
  · rintro b ⟨j, B, i, hB, hi, hb⟩
    obtain ⟨q, B0, hs, hB0, _, _⟩ := atG j B hB
    exact hlive b ⟨q, B0, i, hB0, hβq j q i hs hi, hb⟩

section
variable {P : Program} {ops : Array Oper} {Q Q' : Exit → ASt → Prop}
def seenT : List (Mk × Nat) → Array Bool → Array Bool
  | [], listed => listed
  | (_, k) :: rest, listed => seenT rest (listed.setIfInBounds k true)
def orderOkT (ops : Array Oper) : List (Mk × Nat) → Array Bool → Bool
  | [], _ => true
  | (m, k) :: rest, listed => (match ops[k]? with
      | some ok => (match m with
        | .n => Region.ready .any ops listed == [k] || ((Region.ready .any ops listed).contains k && quietOp ok.op && freeOk ops k ok listed)
        | .q => (Region.ready .any ops listed).contains k && freeOk ops k ok listed
        | .s => (Region.ready .any ops listed).contains k && quietOp ok.op && stillOk ops k ok listed
        | .c => (Region.ready .any ops listed).contains k && stillOk ops k ok listed)
      | none => false) && orderOkT ops rest (listed.setIfInBounds k true)
theorem aany_then : ∀ (ord : List (Mk × Nat)) (l : List (Mk × Oper)) (listed : Array Bool) (st : ASt) (m : Nat), l.map (fun p => (p.1, some p.2)) = ord.map (fun p => (p.1, ops[p.2]?)) → orderOkT ops ord listed = true → AOrdS P ops Q' l st → (∀ s, Q' .normal s → AAny P ops Q m (seenT ord listed) s) → AAny P ops Q (ord.length + m) listed st
  | [], l, listed, st, m0, hl, ho, h, hK => by
    have : l = [] := by simpa using hl
    subst this
    simpa [seenT] using hK st h
  | (m, k) :: rest, l, listed, st, m0, hl, ho, h, hK => by
    rw [List.length_cons, show rest.length + 1 + m0 = (rest.length + m0) + 1 by omega]
    match l, hl, h with
    | (m2, o) :: l2, hl2, h =>
      simp only [List.map_cons, List.cons.injEq, Prod.mk.injEq] at hl2
      obtain ⟨⟨rfl, hk⟩, hl3⟩ := hl2
      simp only [orderOkT, ← hk, Bool.and_eq_true] at ho
      obtain ⟨h1, h2⟩ := ho
      cases m2 with
      | n =>
        simp only [Bool.or_eq_true, Bool.and_eq_true] at h1
        by_cases hone : Region.ready .any ops listed = [k]
        · refine ⟨fun he => (by rw [hone] at he; cases he), fun i hi o' ho' => ?_⟩
          rw [hone] at hi
          simp at hi
          subst hi
          rw [← hk] at ho'; cases ho'
          exact stepA_mono (fun s hs => aany_then rest l2 _ s m0 hl3 h2 hs hK) h
        · rcases h1 with h1 | h1
          · exact absurd (by simpa using h1) hone
          · obtain ⟨⟨hr, hq⟩, hf⟩ := h1
            unfold AOrdS stepA at h
            obtain ⟨x, hx, hqv⟩ := qv_of_step hq h
            exact aany_free hk.symm hf (by simpa using hr) hqv (aany_then rest l2 _ _ m0 hl3 h2 hx hK)
      | q =>
        simp only [Bool.and_eq_true] at h1
        unfold AOrdS at h
        obtain ⟨x, hx, hqv⟩ := qv_of_qstep h
        exact aany_free hk.symm h1.2 (by simpa using h1.1) hqv (aany_then rest l2 _ _ m0 hl3 h2 hx hK)
      | s =>
        simp only [Bool.and_eq_true] at h1
        unfold AOrdS at h
        obtain ⟨x, hx, hqv⟩ := qv_of_step h1.1.2 h
        exact aany_stillOk hk.symm h1.2 (by simpa using h1.1.1) hqv (aany_then rest l2 _ _ m0 hl3 h2 hx hK)
      | c =>
        simp only [Bool.and_eq_true] at h1
        unfold AOrdS at h
        obtain ⟨x, hx, hqv⟩ := qv_of_qstep h
        exact aany_stillOk hk.symm h1.2 (by simpa using h1.1) hqv (aany_then rest l2 _ _ m0 hl3 h2 hx hK)
theorem marks_map {ops : Array Oper} : ∀ {ord : List (Mk × Nat)}, ord.all (fun p => p.2 < ops.size) = true → (ord.filterMap (fun p => (ops[p.2]?).map fun o => (p.1, o))).map (fun p => (p.1, some p.2)) = ord.map (fun p => (p.1, ops[p.2]?))
  | [], _ => rfl
  | (mk0, k) :: rest, hb => by
    simp only [List.all_cons, Bool.and_eq_true, decide_eq_true_eq] at hb
    have hk : ops[k]? = some ops[k] := Array.getElem?_eq_getElem hb.1
    rw [List.filterMap_cons]
    simp only [hk, Option.map_some, List.map_cons]
    rw [marks_map hb.2]
/-- Behind the first marks two steps may be next: the walk goes on with either. -/
theorem codeOk_draw2 {id : Nat} {ops : Array Oper} {st : ASt} (pre : List (Mk × Nat)) (k1 k2 : Nat) (t1 t2 : List (Mk × Nat)) (hm : P.follows .mixedOrders = true)
    (hn : pre.length + 1 + t1.length = ops.size) (hn2 : t2.length = t1.length)
    (hb : (pre.all (fun p => p.2 < ops.size) && t1.all (fun p => p.2 < ops.size) && t2.all (fun p => p.2 < ops.size) && decide (k1 < ops.size) && decide (k2 < ops.size)) = true)
    (ho : (orderOkT ops pre (Array.replicate ops.size false) && Region.ready .any ops (seenT pre (Array.replicate ops.size false)) == [k1, k2] &&
      orderOkS ops t1 ((seenT pre (Array.replicate ops.size false)).setIfInBounds k1 true) && orderOkS ops t2 ((seenT pre (Array.replicate ops.size false)).setIfInBounds k2 true)) = true)
    (h : AOrdS P ops (fun _ s => AOrdS P ops Q (((.n, k1) :: t1).filterMap (fun p => (ops[p.2]?).map fun o => (p.1, o))) s ∧ AOrdS P ops Q (((.n, k2) :: t2).filterMap (fun p => (ops[p.2]?).map fun o => (p.1, o))) s) (pre.filterMap (fun p => (ops[p.2]?).map fun o => (p.1, o))) st) : CodeOk P (.region id ops true) Q st := by
  intro ro d _ w0 E0 H0 a w ⟨E, hE⟩
  refine wpIn_region_any hm ?_
  simp only [Bool.and_eq_true, beq_iff_eq, decide_eq_true_eq] at hb ho
  obtain ⟨⟨⟨⟨hb1, hb2⟩, hb3⟩, hb4⟩, hb5⟩ := hb
  obtain ⟨⟨⟨ho1, ho2⟩, ho3⟩, ho4⟩ := ho
  have hA : AAny P ops Q (pre.length + (t1.length + 1)) (Array.replicate ops.size false) st := by
    refine aany_then pre _ _ st _ (marks_map hb1) ho1 h ?_
    rintro s ⟨h1, h2⟩
    refine ⟨fun he => (by rw [ho2] at he; cases he), fun i hi o hoi => ?_⟩
    rw [ho2] at hi
    simp only [List.mem_cons, List.not_mem_nil, or_false] at hi
    rcases hi with rfl | rfl
    · rw [List.filterMap_cons] at h1
      simp only [hoi, Option.map_some] at h1
      unfold AOrdS at h1
      exact stepA_mono (fun s hs => aany_of_orderS t1 _ _ s (marks_map hb2) ho3 hs) h1
    · rw [List.filterMap_cons] at h2
      simp only [hoi, Option.map_some] at h2
      unfold AOrdS at h2
      exact stepA_mono (fun s hs => by rw [← hn2]; exact aany_of_orderS t2 _ _ s (marks_map hb3) ho4 hs) h2
  rw [show pre.length + (t1.length + 1) = ops.size by omega] at hA
  exact aany_sound ro d (ds := a.defers) (fun st' a' w' hq hI hd => ⟨.inr hd, st', hq, hI⟩) ops.size _ st a _ hA ⟨E, hE.drew⟩ rfl
end
end Go.Abs
namespace Go.Abs
set_option linter.unusedSimpArgs false
set_option linter.unusedVariables false
set_option linter.unnecessarySimpa false
open Go
def stepCW (P : Program) (ops : Array Oper) (o : Oper) (T : List AV) (H : AHeap) (c : Nat) (K : AV → AHeap → Nat → Prop) : Prop :=
  match o.guard with
  | none => acore P o.op (evT T) H c K
  | some (j, want) => match guardT T ops j with
    | some b => if b = some want then acore P o.op (evT T) H c K else K (.tup []) H c
    | none => False
def stepW (P : Program) (ops : Array Oper) (o : Oper) (st : ASt) (K : ASt → Prop) : Prop := stepCW P ops o st.tmps st.heap st.clk (putK st.tmps o.dst K)
section
variable {P : Program} {ops : Array Oper} {Q : Exit → ASt → Prop} {K : AV → AHeap → Nat → Prop} {T : List AV} {H : AHeap} {c : Nat}
theorem stepCW_of {o : Oper} (h : stepC P ops o T H c K) : stepCW P ops o T H c K := by
  unfold stepC at h
  unfold stepCW
  split
  · rename_i hg; simp only [hg] at h; exact acoreX_acore h
  · rename_i j want hg
    simp only [hg] at h
    split
    · rename_i b hb
      simp only [hb] at h
      split
      · rename_i hw; rw [if_pos hw] at h; exact acoreX_acore h
      · rename_i hw; rw [if_neg hw] at h; exact h
    · rename_i hb; simp only [hb] at h
theorem acore_mono {op : Op} {ev : Operand → AV} {K' : AV → AHeap → Nat → Prop} (hk : ∀ v H c, K v H c → K' v H c) (h : acore P op ev H c K) : acore P op ev H c K' := by
  by_cases hq : ∃ f args ts, op = .call { callee := .value (.func f), args := args, argTypes := ts }
  · obtain ⟨f, args, ts, rfl⟩ := hq
    exact ⟨h.1, h.2.mono hk⟩
  · have e : ∀ K, acoreX P op ev H c K = acore P op ev H c K := fun K => by
      unfold acoreX
      split
      · exact absurd ⟨_, _, _, rfl⟩ hq
      · rfl
    rw [← e] at h ⊢
    exact acoreX_mono hk h
theorem stepCW_set {o : Oper} {d : Tmp} {x : AV} (h : d ∉ o.looksAt ops) : stepCW P ops o (T.set d x) H c K = stepCW P ops o T H c K := by
  obtain ⟨h1, h2⟩ := look_ops h
  have hc : ∀ K, acore P o.op (evT (T.set d x)) H c K = acore P o.op (evT T) H c K := fun K => acore_congr fun y hy => evT_set (h1 y hy)
  unfold stepCW
  split
  · exact hc K
  · rename_i j want hg
    have hgd : guardT (T.set d x) ops j = guardT T ops j := by
      have := h2 j want hg
      unfold guardT ASt.guard
      cases hd : (ops[j]?).bind (·.dst) with
      | none => rfl
      | some e =>
        have hne : d ≠ e := fun he => this (by rw [hd, he])
        simp [List.getElem?_set, hne]
    rw [hgd]
    split
    · rw [hc K]
    · rfl
theorem stepCW_put {o : Oper} {dst : Option Tmp} {x : AV} (h : ∀ d, dst = some d → d ∉ o.looksAt ops) : stepCW P ops o (ASt.put ⟨T, H, c⟩ dst x).tmps H c K = stepCW P ops o T H c K := by
  cases dst with
  | none => rfl
  | some d => exact stepCW_set (h d rfl)
theorem stepCW_mono {o : Oper} {K' : AV → AHeap → Nat → Prop} (hk : ∀ v H c, K v H c → K' v H c) (h : stepCW P ops o T H c K) : stepCW P ops o T H c K' := by
  unfold stepCW at h ⊢
  split
  · rename_i hg; simp only [hg] at h; exact acore_mono hk h
  · rename_i j want hg
    simp only [hg] at h
    split
    · rename_i b hb
      simp only [hb] at h
      split
      · rename_i hw; rw [if_pos hw] at h; exact acore_mono hk h
      · rename_i hw; rw [if_neg hw] at h; exact hk _ _ _ h
    · rename_i hb; simp only [hb] at h
theorem stepW_mono {o : Oper} {st : ASt} {N N' : ASt → Prop} (hk : ∀ s, N s → N' s) (h : stepW P ops o st N) : stepW P ops o st N' := stepCW_mono (fun _ _ _ hh => hk _ hh) h
/-- Whatever order is picked from here on. -/
def AAnyW (P : Program) (ops : Array Oper) (Q : Exit → ASt → Prop) : Nat → Array Bool → ASt → Prop
  | 0, listed, st => Region.ready .any ops listed = [] ∧ Q .normal st
  | n + 1, listed, st => (Region.ready .any ops listed = [] → Q .normal st) ∧
    ∀ i ∈ Region.ready .any ops listed, ∀ o, ops[i]? = some o → stepW P ops o st (AAnyW P ops Q n (listed.setIfInBounds i true))
theorem stepW_sound {o : Oper} {st : ASt} {K : ASt → Prop} {w0 : World} {E0 : Env} {H0 : AHeap} {Q' : Exit → Act → World → Prop} {N : Act → World → Prop} {i : Nat} (hi : ops[i]? = some o)
    {a : Act} {w : World} (hN : ∀ st' a' w', K st' → Inv w0 E0 H0 st' a' w' → a'.defers = a.defers → N a' w') (h : stepW P ops o st K) (hI : Inv w0 E0 H0 st a w) (ro : Option Nat) (d : Nat) : wpOpIn (Wd ro) d P ops Q' i N a w := by
  unfold wpOpIn
  simp only [hi]
  have run : acore P o.op (evT st.tmps) st.heap st.clk (putK st.tmps o.dst K) → o.wpIn (Wd ro) d P a w N Q' := by
    intro h
    have h1 := h
    rw [← evT_eq] at h1
    exact aop_soundIn (o := o) (st := st) (K := K) h1 ro d w0 E0 H0 a w hI N Q' hN
  unfold stepW stepCW at h
  split at h
  · rename_i hg
    have hw : Region.wanted o (yielded ops a.tmps) = true := by simp [Region.wanted, hg]
    rw [if_pos hw]
    exact run h
  · rename_i j want hg
    split at h
    · rename_i b hb
      obtain ⟨E, hE⟩ := hI
      have hb' : st.guard ops j = some b := hb
      have hy := guard_rel hE hb'
      split at h
      · rename_i hbw
        have hw : Region.wanted o (yielded ops a.tmps) = true := by simp [Region.wanted, hg, hy, hbw]
        rw [if_pos hw]
        exact run h
      · rename_i hbw
        have hw : Region.wanted o (yielded ops a.tmps) = false := by simp [Region.wanted, hg, hy, hbw]
        rw [hw]
        exact ⟨fun _ _ => trivial, hN _ _ _ h ⟨E, InvE.put (st := ⟨st.tmps, st.heap, st.clk⟩) hE _ (rel_undef _ _)⟩ (put_defers _ _ _)⟩
    · exact h.elim
theorem aanyW_sound (ro : Option Nat) (d : Nat) {w0 : World} {E0 : Env} {H0 : AHeap} {Q' : Exit → Act → World → Prop} {ds : List Deferred} (hQ : ∀ st a w, Q .normal st → Inv w0 E0 H0 st a w → a.defers = ds → Q' .normal a w) : ∀ (n : Nat) (listed : Array Bool) (st : ASt) (a : Act) (w : World),
    AAnyW P ops Q n listed st → Inv w0 E0 H0 st a w → a.defers = ds → wpAnyIn (Wd ro) d P .any ops Q' n listed a w
  | 0, _, st, a, w, h, hI, hd => ⟨h.1, hQ st a w h.2 hI hd⟩
  | n + 1, listed, st, a, w, h, hI, hd => ⟨fun h0 => hQ st a w (h.1 h0) hI hd, fun i hi => by
    obtain ⟨_, o, ho, _⟩ := mem_ready.1 hi
    exact stepW_sound ho (fun st' a' w' hK hI' hd' => aanyW_sound ro d hQ n _ st' a' w' hK hI' (hd'.trans hd)) (h.2 i hi o ho) hI ro d⟩
theorem aanyW_still {k : Nat} {ok : Oper} {x : AV} (hk : ops[k]? = some ok) (S : Nat → Prop) : ∀ (n : Nat) (listed : Array Bool) (st : ASt),
    (∀ j, S j → listed.getD j true = false ∧ ∃ oj e, ops[j]? = some oj ∧ e ∈ oj.after ∧ Region.binds .any e = true ∧ (e.on = k ∨ S e.on)) →
    (∀ j oj, ops[j]? = some oj → j ≠ k → listed.getD j true = false → ¬ S j → (∀ e ∈ oj.after, Region.binds .any e = true → e.on ≠ k) → ok.apart ops oj = true) →
    k ∈ Region.ready .any ops listed → QV P ops ok st.tmps [] x → AAnyW P ops Q n (listed.setIfInBounds k true) (st.put ok.dst x) → AAnyW P ops Q (n + 1) listed st := by
  intro n
  induction n with
  | zero =>
    intro listed st _ _ hr hy hA
    refine ⟨fun h => (by rw [h] at hr; cases hr), fun i hi o ho => ?_⟩
    by_cases hik : i = k
    · subst hik
      rw [hk] at ho; cases ho
      exact stepCW_of (hy _ _ _ (fun k B h => by simp at h) hA)
    · have := ready_mono hi hik
      rw [hA.1] at this
      cases this
  | succ n ih =>
    intro listed st hS hfree hr hy hA
    refine ⟨fun h => (by rw [h] at hr; cases hr), fun i hi o ho => ?_⟩
    by_cases hik : i = k
    · subst hik
      rw [hk] at ho; cases ho
      exact stepCW_of (hy _ _ _ (fun k B h => by simp at h) hA)
    · have h1 := hA.2 i (ready_mono hi hik) o ho
      obtain ⟨hiun, o', ho', hall⟩ := mem_ready.1 hi
      rw [ho] at ho'; cases ho'
      have hnot : ∀ e ∈ o.after, Region.binds .any e = true → e.on ≠ k := fun e he hb heq => by
        have h1 := hall e he hb
        have h0 := (mem_ready.1 hr).1
        rw [heq] at h1
        rcases Nat.lt_or_ge k listed.size with h' | h'
        · simp [h'] at h0 h1; rw [h0] at h1; cases h1
        · simp [Array.getElem?_eq_none h'] at h1
      have hnS : ¬ S i := fun hs => by
        obtain ⟨_, oj, e, hoj, he, hb, hor⟩ := hS i hs
        rw [ho] at hoj; cases hoj
        rcases hor with h' | h'
        · exact hnot e he hb h'
        · have h1 := hall e he hb
          have h0 := (hS _ h').1
          rcases Nat.lt_or_ge e.on listed.size with g | g
          · simp [g] at h0 h1; rw [h0] at h1; cases h1
          · simp [Array.getElem?_eq_none g] at h1
      have hap := hfree i o ho hik hiun hnS hnot
      obtain ⟨a1, a2, a3⟩ := Oper.apart_spec hap
      unfold stepW at h1 ⊢
      rw [put_heap, put_clk] at h1
      have h2 : stepCW P ops o st.tmps st.heap st.clk (putK (st.put ok.dst x).tmps o.dst (AAnyW P ops Q n ((listed.setIfInBounds k true).setIfInBounds i true))) := by
        have e := stepCW_put (P := P) (ops := ops) (o := o) (T := st.tmps) (H := st.heap) (c := st.clk) (K := putK (st.put ok.dst x).tmps o.dst (AAnyW P ops Q n ((listed.setIfInBounds k true).setIfInBounds i true))) (dst := ok.dst) (x := x) a1
        rw [← e]
        exact h1
      refine stepCW_mono ?_ h2
      rintro v H' c' hK
      refine ih (listed.setIfInBounds i true) (ASt.put ⟨st.tmps, H', c'⟩ o.dst v) ?_ ?_ (ready_mono hr (fun e => hik e.symm)) ?_ ?_
      · intro j hs
        obtain ⟨h1, h2⟩ := hS j hs
        refine ⟨?_, h2⟩
        have hij : i ≠ j := fun e => hnS (e ▸ hs)
        rw [getD_set_ne true hij]; exact h1
      · intro j oj hj hjk hun hns hno
        refine hfree j oj hj hjk ?_ hns hno
        by_cases hij : i = j
        · subst hij; exact hiun
        · rw [getD_set_ne true hij] at hun; exact hun
      · have := QV.put (c := c') (v := v) hy (dst := o.dst) a3
        rw [put_tmps st.tmps H' [] c' c' o.dst v]
        exact this
      · rw [Array.setIfInBounds_comm _ _ (fun e => hik e)]
        have e1 : (ASt.put ⟨st.tmps, H', c'⟩ o.dst v).put ok.dst x = ASt.put ⟨(st.put ok.dst x).tmps, H', c'⟩ o.dst v := by
          rw [← put_put x v (fun d hd => a2 d hd)]
          congr 1
          cases ok.dst <;> rfl
        rw [e1]
        exact hK
theorem aanyW_stillOk {k : Nat} {ok : Oper} {x : AV} {n : Nat} {listed : Array Bool} {st : ASt} (hk : ops[k]? = some ok) (hf : stillOk ops k ok listed = true) (hr : k ∈ Region.ready .any ops listed) (hqv : QV P ops ok st.tmps [] x)
    (h : AAnyW P ops Q n (listed.setIfInBounds k true) (st.put ok.dst x)) : AAnyW P ops Q (n + 1) listed st := by
  unfold stillOk at hf
  generalize depS ops k listed = S at hf
  simp only [stillS, Bool.and_eq_true, List.all_eq_true, List.mem_range] at hf
  obtain ⟨hS, hf⟩ := hf
  refine aanyW_still hk (fun j => S.contains j = true) n listed st ?_ ?_ hr hqv h
  · intro j hj
    have hm : j ∈ S := by simpa using hj
    have h1 := hS j hm
    simp only [Bool.and_eq_true, Bool.not_eq_true'] at h1
    obtain ⟨h1, h2⟩ := h1
    refine ⟨h1, ?_⟩
    split at h2
    · rename_i oj hoj
      simp only [waitsOn, Array.any_eq_true, Bool.and_eq_true, Bool.or_eq_true, beq_iff_eq] at h2
      obtain ⟨q, hq1, hq2, hq3⟩ := h2
      exact ⟨oj, _, hoj, Array.getElem_mem hq1, hq2, hq3⟩
    · exact absurd h2 (by simp)
  · intro j oj hj hjk hun hns hno
    have hjl : j < ops.size := by
      rcases Nat.lt_or_ge j ops.size with h | h
      · exact h
      · rw [Array.getElem?_eq_none h] at hj; cases hj
    have := hf j hjl
    have hns' : S.contains j = false := by simpa using hns
    simp only [hj, hun, hns', Bool.or_eq_true, beq_iff_eq, Bool.and_eq_true, Bool.false_eq_true, or_false, hjk, false_or] at this
    rcases this with hw | hw
    · simp only [waits, Array.any_eq_true, Bool.and_eq_true, beq_iff_eq] at hw
      obtain ⟨q, hq1, hq2, hq3⟩ := hw
      exact absurd hq3 (hno _ (Array.getElem_mem hq1) hq2)
    · exact hw

/-- A walk as a tree: a step taken out; the one that is next; either of two. -/
inductive Wt where
  | nil
  | still (k : Nat) (r : Wt)
  | next (k : Nat) (r : Wt)
  | two (k1 : Nat) (r1 : Wt) (k2 : Nat) (r2 : Wt)
def Wt.len : Wt → Nat
  | .nil => 0
  | .still _ r => r.len + 1
  | .next _ r => r.len + 1
  | .two _ r1 _ _ => r1.len + 1
def stepOf (P : Program) (ops : Array Oper) (k : Nat) (st : ASt) (K : ASt → Prop) : Prop := match ops[k]? with
  | some o => stepW P ops o st K
  | none => False
def stillOf (P : Program) (ops : Array Oper) (k : Nat) (st : ASt) (K : ASt → Prop) : Prop := match ops[k]? with
  | some o => stepC P ops o st.tmps [] 0 (stK st.tmps st.heap st.clk o.dst K)
  | none => False
def AOrdW (P : Program) (ops : Array Oper) (Q : Exit → ASt → Prop) : Wt → ASt → Prop
  | .nil, st => Q .normal st
  | .still k r, st => stillOf P ops k st (AOrdW P ops Q r)
  | .next k r, st => stepOf P ops k st (AOrdW P ops Q r)
  | .two k1 r1 k2 r2, st => stepOf P ops k1 st (AOrdW P ops Q r1) ∧ stepOf P ops k2 st (AOrdW P ops Q r2)
def orderOkW (ops : Array Oper) : Wt → Array Bool → Bool
  | .nil, listed => Region.ready .any ops listed == []
  | .still k r, listed => (match ops[k]? with
      | some ok => (Region.ready .any ops listed).contains k && quietOp ok.op && stillOk ops k ok listed
      | none => false) && orderOkW ops r (listed.setIfInBounds k true)
  | .next k r, listed => Region.ready .any ops listed == [k] && orderOkW ops r (listed.setIfInBounds k true)
  | .two k1 r1 k2 r2, listed => Region.ready .any ops listed == [k1, k2] && r1.len == r2.len && orderOkW ops r1 (listed.setIfInBounds k1 true) && orderOkW ops r2 (listed.setIfInBounds k2 true)
theorem stepOf_mono {k : Nat} {o : Oper} {st : ASt} {N N' : ASt → Prop} (ho : ops[k]? = some o) (hk : ∀ s, N s → N' s) (h : stepOf P ops k st N) : stepW P ops o st N' := by
  unfold stepOf at h
  rw [ho] at h
  exact stepW_mono hk h
theorem aanyW_of : ∀ (t : Wt) (listed : Array Bool) (st : ASt), orderOkW ops t listed = true → AOrdW P ops Q t st → AAnyW P ops Q t.len listed st
  | .nil, listed, st, ho, h => ⟨by simpa [orderOkW] using ho, h⟩
  | .still k r, listed, st, ho, h => by
    simp only [orderOkW, Bool.and_eq_true] at ho
    obtain ⟨h1, h2⟩ := ho
    unfold AOrdW stillOf at h
    split at h1
    · rename_i ok hk
      simp only [hk, Bool.and_eq_true] at h h1
      obtain ⟨x, hx, hqv⟩ := qv_of_step h1.1.2 h
      exact aanyW_stillOk hk h1.2 (by simpa using h1.1.1) hqv (aanyW_of r _ _ h2 hx)
    · cases h1
  | .next k r, listed, st, ho, h => by
    simp only [orderOkW, Bool.and_eq_true, beq_iff_eq] at ho
    obtain ⟨h1, h2⟩ := ho
    unfold AOrdW at h
    refine ⟨fun he => (by rw [h1] at he; cases he), fun i hi o hoi => ?_⟩
    rw [h1] at hi
    simp at hi
    subst hi
    exact stepOf_mono hoi (fun s hs => aanyW_of r _ s h2 hs) h
  | .two k1 r1 k2 r2, listed, st, ho, h => by
    simp only [orderOkW, Bool.and_eq_true, beq_iff_eq] at ho
    obtain ⟨⟨⟨h1, h2⟩, h3⟩, h4⟩ := ho
    unfold AOrdW at h
    refine ⟨fun he => (by rw [h1] at he; cases he), fun i hi o hoi => ?_⟩
    rw [h1] at hi
    simp only [List.mem_cons, List.not_mem_nil, or_false] at hi
    rcases hi with rfl | rfl
    · exact stepOf_mono hoi (fun s hs => aanyW_of r1 _ s h3 hs) h.1
    · exact stepOf_mono hoi (fun s hs => by rw [show r1.len = r2.len from h2]; exact aanyW_of r2 _ s h4 hs) h.2
/-- A region whose order is open, walked as a tree. -/
theorem codeOk_drawW {id : Nat} {ops : Array Oper} {st : ASt} (t : Wt) (hm : P.follows .mixedOrders = true) (hn : t.len = ops.size)
    (ho : orderOkW ops t (Array.replicate ops.size false) = true) (h : AOrdW P ops Q t st) : CodeOk P (.region id ops true) Q st := by
  intro ro d _ w0 E0 H0 a w ⟨E, hE⟩
  refine wpIn_region_any hm ?_
  have hA := aanyW_of t _ st ho h
  rw [hn] at hA
  exact aanyW_sound ro d (ds := a.defers) (fun st' a' w' hq hI hd => ⟨.inr hd, st', hq, hI⟩) ops.size _ st a _ hA ⟨E, hE.drew⟩ rfl
end
/-! What simp knows of it -/
def wSK (tmps : List AV) (dst : Option Tmp) (K : ASt → Prop) : AV → AHeap → Nat → Prop := fun v H c => K (ASt.put ⟨tmps, H, c⟩ dst v)
def wsSK (tmps : List AV) (dst : Option Tmp) (H : AHeap) (c : Nat) (K : ASt → Prop) : AV → AHeap → Nat → Prop := fun v _ _ => K (ASt.put ⟨tmps, H, c⟩ dst v)
section
variable {P : Program} {Q : Exit → ASt → Prop} {st : ASt} {ops : Array Oper} {tmps : List AV} {H : AHeap} {c : Nat}
@[simp] theorem AOrdW_nil : AOrdW P ops Q .nil st = Q .normal st := propext Iff.rfl
@[simp] theorem AOrdW_still (k : Nat) (r : Wt) : AOrdW P ops Q (.still k r) st = stillOf P ops k st (AOrdW P ops Q r) := propext Iff.rfl
@[simp] theorem AOrdW_next (k : Nat) (r : Wt) : AOrdW P ops Q (.next k r) st = stepOf P ops k st (AOrdW P ops Q r) := propext Iff.rfl
@[simp] theorem AOrdW_two (k1 k2 : Nat) (r1 r2 : Wt) : AOrdW P ops Q (.two k1 r1 k2 r2) st = (stepOf P ops k1 st (AOrdW P ops Q r1) ∧ stepOf P ops k2 st (AOrdW P ops Q r2)) := propext Iff.rfl
def stepO (P : Program) (ops : Array Oper) (st : ASt) (K : ASt → Prop) : Option Oper → Prop
  | some o => stepW P ops o st K
  | none => False
def stillO (P : Program) (ops : Array Oper) (st : ASt) (K : ASt → Prop) : Option Oper → Prop
  | some o => stepC P ops o st.tmps [] 0 (stK st.tmps st.heap st.clk o.dst K)
  | none => False
@[simp] theorem stepOf_get (k : Nat) (K : ASt → Prop) : stepOf P ops k st K = stepO P ops st K ops[k]? := by unfold stepOf stepO; split <;> simp_all
@[simp] theorem stillOf_get (k : Nat) (K : ASt → Prop) : stillOf P ops k st K = stillO P ops st K ops[k]? := by unfold stillOf stillO; split <;> simp_all
@[simp] theorem stepO_some (K : ASt → Prop) (dst : Option Tmp) (op : Op) (t : TypeId) (pos : String) (after : Array Edge) :
    stepO P ops ⟨tmps, H, c⟩ K (some ⟨dst, op, t, pos, after, none⟩) = acore P op (evA tmps) H c (wSK tmps dst K) := propext Iff.rfl
@[simp] theorem stillO_some (K : ASt → Prop) (dst : Option Tmp) (op : Op) (t : TypeId) (pos : String) (after : Array Edge) :
    stillO P ops ⟨tmps, H, c⟩ K (some ⟨dst, op, t, pos, after, none⟩) = acoreX P op (evA tmps) [] 0 (wsSK tmps dst H c K) := propext Iff.rfl
@[simp] theorem wSK_some (d : Tmp) (v : AV) (K : ASt → Prop) : wSK tmps (some d) K v H c = K ⟨tmps.set d v, H, c⟩ := propext Iff.rfl
@[simp] theorem wSK_none (v : AV) (K : ASt → Prop) : wSK tmps none K v H c = K ⟨tmps, H, c⟩ := propext Iff.rfl
@[simp] theorem wsSK_some (d : Tmp) (v : AV) (K : ASt → Prop) (H' : AHeap) (c' : Nat) : wsSK tmps (some d) H c K v H' c' = K ⟨tmps.set d v, H, c⟩ := propext Iff.rfl
@[simp] theorem wsSK_none (v : AV) (K : ASt → Prop) (H' : AHeap) (c' : Nat) : wsSK tmps none H c K v H' c' = K ⟨tmps, H, c⟩ := propext Iff.rfl
@[congr] theorem wSK_congr (tmps : List AV) (dst : Option Tmp) (K : ASt → Prop) : wSK tmps dst K = wSK tmps dst K := rfl
@[congr] theorem wsSK_congr (tmps : List AV) (dst : Option Tmp) (H : AHeap) (c : Nat) (K : ASt → Prop) : wsSK tmps dst H c K = wsSK tmps dst H c K := rfl
@[congr] theorem AOrdW_congr (P : Program) (ops : Array Oper) (Q : Exit → ASt → Prop) (t : Wt) (st st' : ASt) (h : st = st') : AOrdW P ops Q t st = AOrdW P ops Q t st' := by rw [h]
@[congr] theorem stepO_congr (P : Program) (ops : Array Oper) (st : ASt) (K : ASt → Prop) {o o' : Option Oper} (h : o = o') : stepO P ops st K o = stepO P ops st K o' := by rw [h]
@[congr] theorem stillO_congr (P : Program) (ops : Array Oper) (st : ASt) (K : ASt → Prop) {o o' : Option Oper} (h : o = o') : stillO P ops st K o = stillO P ops st K o' := by rw [h]
end
end Go.Abs
