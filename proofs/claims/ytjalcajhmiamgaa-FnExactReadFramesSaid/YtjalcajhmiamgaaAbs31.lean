/-
  A call that may write several arrays of its caller's. No program's text.
-/
import Derived.Test.YtjalcajhmiamgaaAbs29
import Derived.Test.YtjalcajhmiamgaaAbs25
namespace Go.Abs
set_option linter.unusedSimpArgs false
set_option linter.unusedVariables false
set_option linter.unnecessarySimpa false
open Go
/-- The elements at the places ks are put anew. -/
def setL {α : Type} : List α → List Nat → List α → List α
  | l, k :: ks, x :: xs => setL (l.set k x) ks xs
  | l, _, _ => l
theorem setL_length {α : Type} : ∀ (ks : List Nat) (l xs : List α), (setL l ks xs).length = l.length
  | [], l, xs => by simp [setL]
  | k :: ks, l, [] => by simp [setL]
  | k :: ks, l, x :: xs => by simp [setL, setL_length ks]
theorem setL_not {α : Type} : ∀ (ks : List Nat) (l xs : List α) (q : Nat), q ∉ ks → (setL l ks xs)[q]? = l[q]?
  | [], l, xs, q, _ => by simp [setL]
  | k :: ks, l, [], q, _ => by simp [setL]
  | k :: ks, l, x :: xs, q, h => by
    simp only [List.mem_cons, not_or] at h
    rw [setL, setL_not ks _ xs q h.2, List.getElem?_set_ne (fun e => h.1 e.symm)]
theorem setL_at {α : Type} : ∀ (ks : List Nat) (l xs : List α) (j q : Nat), ks.Nodup → ks.length = xs.length → (∀ k ∈ ks, k < l.length) → ks[j]? = some q → (setL l ks xs)[q]? = xs[j]?
  | [], l, xs, j, q, _, _, _, h => by simp at h
  | k :: ks, l, [], j, q, _, hl, _, _ => by simp at hl
  | k :: ks, l, x :: xs, j, q, hn, hl, hlt, h => by
    simp only [List.nodup_cons] at hn
    rw [setL]
    match j with
    | 0 =>
      simp at h; subst h
      rw [setL_not ks _ xs k hn.1]
      simp [hlt k (by simp)]
    | j + 1 =>
      have := setL_at ks (l.set k x) xs j q hn.2 (by simpa using hl) (fun k' hk' => by simpa using hlt k' (by simp [hk'])) (by simpa using h)
      simpa using this
def rhoS (ks : List Nat) (n j : Nat) : Nat := match ks[j]? with | some k => k | none => n + (j - ks.length)
theorem rhoS_lt {ks : List Nat} {n j k : Nat} (h : ks[j]? = some k) : rhoS ks n j = k := by simp [rhoS, h]
theorem rhoS_ge {ks : List Nat} {n j : Nat} (h : ks.length ≤ j) : rhoS ks n j = n + (j - ks.length) := by simp [rhoS, List.getElem?_eq_none h]
def RPostS (m : Nat) (p : AV → List ABlk → AHeap → Prop) (r : AV) (H : AHeap) (_ : Nat) : Prop := ∃ Bs' Hn, H = Bs'.map some ++ Hn ∧ Bs'.length = m ∧ p r Bs' Hn
def RCallS (P : Program) (f : FuncId) (args : List AV) (Bs : List ABlk) (p : AV → List ABlk → AHeap → Prop) : Prop :=
  ∀ clk, ACall P f args (Bs.map some) clk (RPostS Bs.length p)
section
variable {P : Program}
theorem acall_refs {f : FuncId} {args cargs : List AV} {H : AHeap} {clk : Nat} (ks : List Nat) {Bs : List ABlk} {p : AV → List ABlk → AHeap → Prop} {K : AV → AHeap → Nat → Prop} (hc : RCallS P f cargs Bs p)
    (hnd : ks.Nodup) (hlen : ks.length = Bs.length)
    (hargs : args = cargs.map (AV.ren (rhoS ks H.length))) (hk : ∀ (j k : Nat) (B : ABlk), ks[j]? = some k → Bs[j]? = some B → H[k]? = some (some (B.ren (rhoS ks H.length))))
    (hK : ∀ r Bs' Hn c, p r Bs' Hn → Bs'.length = Bs.length → clk ≤ c → K (r.ren (rhoS ks H.length)) (setL H ks (Bs'.map fun B => some (B.ren (rhoS ks H.length))) ++ Hn.map fun b => b.map (ABlk.ren (rhoS ks H.length))) c) : ACall P f args H clk K := by
  intro w E vals hclk hsim hrel
  generalize hρ : rhoS ks H.length = ρ at *
  have hat : ∀ j, j < ks.length → ∃ i : BI, ∀ k, ks[j]? = some k → E.β[k]? = some i := fun j hj => by
    have hB := hk j ks[j] Bs[j] (List.getElem?_eq_getElem hj) (List.getElem?_eq_getElem (by omega))
    obtain ⟨i, hi, _⟩ := hsim.blk _ _ hB
    exact ⟨i, fun k hkj => by rw [List.getElem?_eq_getElem hj] at hkj; cases hkj; exact hi⟩
  obtain ⟨is, hisl, his⟩ := choose_rows hat
  have hkβ : ∀ k ∈ ks, k < E.β.length := fun k hk' => by
    obtain ⟨j, hj⟩ := List.getElem?_of_mem hk'
    have hjl : j < is.length := by rw [hisl]; exact (List.getElem?_eq_some_iff.1 hj).1
    exact (List.getElem?_eq_some_iff.1 (his j is[j] (List.getElem?_eq_getElem hjl) k hj)).1
  have hkH : ∀ k ∈ ks, k < H.length := fun k hk' => by rw [← hsim.len]; exact hkβ k hk'
  have hρlt : ∀ {j k : Nat}, ks[j]? = some k → ρ j = k := fun h => by rw [← hρ]; exact rhoS_lt h
  have hρge : ∀ {j : Nat}, ks.length ≤ j → ρ j = H.length + (j - ks.length) := fun h => by rw [← hρ]; exact rhoS_ge h
  have atk : ∀ {j : Nat}, j < ks.length → ∃ k, ks[j]? = some k := fun h => ⟨_, List.getElem?_eq_getElem h⟩
  have inj : ∀ {j j' k : Nat}, ks[j]? = some k → ks[j']? = some k → j = j' := fun {j j' k} h h' => by
    obtain ⟨h1, e1⟩ := List.getElem?_eq_some_iff.1 h
    obtain ⟨h2, e2⟩ := List.getElem?_eq_some_iff.1 h'
    have hp := List.pairwise_iff_getElem.1 hnd
    rcases Nat.lt_trichotomy j j' with h | h | h
    · exact absurd (e1.trans e2.symm) (hp j j' h1 h2 h)
    · exact h
    · exact absurd (e2.trans e1.symm) (hp j' j h2 h1 h)
  have hβ0 : ∀ (j : Nat) (i : BI), is[j]? = some i → E.β[ρ j]? = some i := fun j i hj => by
    have hjl : j < ks.length := by rw [← hisl]; exact (List.getElem?_eq_some_iff.1 hj).1
    obtain ⟨k, hkj⟩ := atk hjl
    rw [hρlt hkj]; exact his j i hj k hkj
  let Ec : Env := ⟨E.I, is, E.clk⟩
  have hmap : ∀ {l : List ABlk} {j : Nat} {B1 : ABlk}, (l.map some)[j]? = some (some B1) → l[j]? = some B1 := fun {l j B1} h => by
    rw [List.getElem?_map, Option.map_eq_some_iff] at h
    obtain ⟨a, ha, e⟩ := h
    cases e; exact ha
  have hsimc : SimH w Ec (Bs.map some) := by
    refine ⟨by simp [Ec, hisl, hlen], fun j i hj => hsim.gens _ i (hβ0 j i hj), hsim.I, fun j B1 hB1 => ?_, fun j j' B1 B2 i i' b h1 h2 h3 h4 h5 h6 => ?_, hsim.glob⟩
    · have hB := hmap hB1
      have hjl : j < ks.length := by rw [hlen]; exact (List.getElem?_eq_some_iff.1 hB).1
      obtain ⟨k, hkj⟩ := atk hjl
      obtain ⟨i, hi, hok⟩ := hsim.blk k _ (hk j k B1 hkj hB)
      have hij : is[j]? = some i := by
        have hjl' : j < is.length := by rw [hisl]; exact hjl
        have := his j is[j] (List.getElem?_eq_getElem hjl') k hkj
        rw [hi] at this; cases this
        exact List.getElem?_eq_getElem hjl'
      refine ⟨i, hij, hok.1, hok.2.1, hok.2.2.1, hok.2.2.2.1, ?_⟩
      obtain ⟨_, _, _, _, h5⟩ := hok
      cases hb : i.blk with
      | none => rw [hb] at h5; exact ⟨by simpa [ABlk.ren] using h5.1, h5.2⟩
      | some b =>
        rw [hb] at h5
        obtain ⟨hn, ⟨C, hC, hl, hlc, hrl⟩ | hm⟩ := h5
        · refine ⟨hn, .inl ⟨C, hC, hl, by simpa [ABlk.ren] using hlc, ?_⟩⟩
          have : RelCs w E (B1.cells.map (AC.ren ρ)) (C.take B1.cells.length) := by simpa [ABlk.ren] using hrl
          exact unren_rels (E := E) (E' := Ec) rfl rfl hβ0 this
        · exact ⟨hn, .inr hm.unren⟩
    · have g1 := hmap h1
      have g2 := hmap h2
      obtain ⟨k, hkj⟩ := atk (show j < ks.length by rw [hlen]; exact (List.getElem?_eq_some_iff.1 g1).1)
      obtain ⟨k', hkj'⟩ := atk (show j' < ks.length by rw [hlen]; exact (List.getElem?_eq_some_iff.1 g2).1)
      have := hsim.apart k k' _ _ i i' b (hk j k B1 hkj g1) (hk j' k' B2 hkj' g2) (by have := hβ0 j i h3; rwa [hρlt hkj] at this) (by have := hβ0 j' i' h4; rwa [hρlt hkj'] at this) h5 h6
      subst this
      exact inj hkj hkj'
  have hrelc : RelVs w Ec cargs vals := by
    refine ⟨by rw [← hrel.1, hargs]; simp, fun j x v hx hv => ?_⟩
    have := hrel.2 j (x.ren ρ) v (by rw [hargs, List.getElem?_map, hx]; rfl) hv
    exact unren_relV (E := E) (E' := Ec) rfl rfl hβ0 this
  refine (hc E.clk w Ec vals rfl hsimc hrelc).mono fun e w' => ?_
  rintro ⟨v, r, Hc', E', rfl, hle, hsim', hr, hfrm, hlive, hI0, Bs', Hn, rfl, hBl, hp⟩
  have hliv0 : ∀ b, LiveB Ec (Bs.map some) b → ∃ (j k : Nat) (i : BI) (B : ABlk), ks[j]? = some k ∧ E.β[k]? = some i ∧ H[k]? = some (some B) ∧ i.blk = some b := fun b ⟨j, B1, i, h1, h2, h3⟩ => by
    have hB := hmap h1
    obtain ⟨k, hkj⟩ := atk (show j < ks.length by rw [hlen]; exact (List.getElem?_eq_some_iff.1 hB).1)
    exact ⟨j, k, i, _, hkj, by have := hβ0 j i h2; rwa [hρlt hkj] at this, hk j k B1 hkj hB, h3⟩
  have hlen' : E'.β.length = ks.length + Hn.length := by have := hsim'.len; simp [hBl] at this; omega
  obtain ⟨β1, β2, hβ', hβ1, hβ2l⟩ : ∃ β1 β2 : List BI, E'.β = β1 ++ β2 ∧ β1.length = ks.length ∧ β2.length = Hn.length :=
    ⟨E'.β.take ks.length, E'.β.drop ks.length, (List.take_append_drop _ _).symm, by simp; omega, by simp; omega⟩
  have hclk' : E.clk ≤ E'.clk := hle.clk
  -- a block of one that is written
  have own : ∀ b, (∃ (j k : Nat) (i : BI) (B : ABlk), ks[j]? = some k ∧ E.β[k]? = some i ∧ H[k]? = some (some B) ∧ i.blk = some b) → ¬ E.I b ∧ b < w.heap.size := fun b ⟨j, k, i, B, h1, h2, h3, h4⟩ => by
    obtain ⟨i2, hi2, hok⟩ := hsim.blk k B h3
    rw [h2] at hi2; cases hi2
    refine ⟨?_, hok.lt h4⟩
    obtain ⟨_, _, _, _, h5⟩ := hok
    rw [h4] at h5
    exact h5.1
  have hold : ∀ b, b < w.heap.size → ¬ (∃ (j k : Nat) (i : BI) (B : ABlk), ks[j]? = some k ∧ E.β[k]? = some i ∧ H[k]? = some (some B) ∧ i.blk = some b) → w'.heap[b]? = w.heap[b]? :=
    fun b hb hn => hfrm.block b hb (fun hl => hn (hliv0 b hl))
  let E2 : Env := ⟨E'.I, setL E.β ks β1 ++ β2, E'.clk⟩
  have hgenN : ∀ (j : Nat) (i : BI), β2[j]? = some i → E.clk ≤ i.gen := fun j i hi => by
    rcases hle.β (ks.length + j) i (by rw [hβ', List.getElem?_append_right (by omega)]; rw [show ks.length + j - β1.length = j by omega]; exact hi) with h | h
    · have := (List.getElem?_eq_some_iff.1 h).1
      simp only [Ec, hisl] at this; omega
    · exact h
  have hgen0 : ∀ (j : Nat) (i : BI), β1[j]? = some i → is[j]? = some i ∨ E.clk ≤ i.gen := fun j i hi => by
    have hjl := (List.getElem?_eq_some_iff.1 hi).1
    rcases hle.β j i (by rw [hβ', List.getElem?_append_left hjl]; exact hi) with h | h
    · exact .inl h
    · exact .inr h
  have hlenH : (setL E.β ks β1).length = H.length := by rw [setL_length, hsim.len]
  have at2 : ∀ (q : Nat) (i : BI), E2.β[q]? = some i → (q < H.length ∧ q ∉ ks ∧ E.β[q]? = some i) ∨ (∃ j, ks[j]? = some q ∧ β1[j]? = some i) ∨ ∃ j, q = H.length + j ∧ β2[j]? = some i := fun q i hi => by
    simp only [E2] at hi
    rw [List.getElem?_append, hlenH] at hi
    split at hi
    · rename_i hq
      by_cases hm : q ∈ ks
      · obtain ⟨j, hj⟩ := List.getElem?_of_mem hm
        rw [setL_at ks E.β β1 j q hnd hβ1.symm hkβ hj] at hi
        exact .inr (.inl ⟨j, hj, hi⟩)
      · rw [setL_not ks _ _ q hm] at hi
        exact .inl ⟨hq, hm, hi⟩
    · rename_i hq
      exact .inr (.inr ⟨q - H.length, by omega, hi⟩)
  have hle2 : Env.Le w E w' E2 := ⟨fun b hb => hle.I b hb, hclk', fun q i hi => by
    rcases at2 q i hi with ⟨_, _, h⟩ | ⟨j, hj, h⟩ | ⟨j, _, h⟩
    · exact .inl h
    · rcases hgen0 j i h with e | e
      · have := hβ0 j i e
        rw [hρlt hj] at this
        exact .inl this
      · exact .inr e
    · exact .inr (hgenN j i h)⟩
  have hβ : ∀ j i, E2.β[ρ j]? = some i → E'.β[j]? = some i := fun j i hi => by
    rcases Nat.lt_or_ge j ks.length with hj | hj
    · obtain ⟨k, hkj⟩ := atk hj
      rw [hρlt hkj] at hi
      rcases at2 k i hi with ⟨_, h, _⟩ | ⟨j', hj', h⟩ | ⟨j', h, _⟩
      · exact absurd (List.mem_of_getElem? hkj) h
      · have := inj hkj hj'
        subst this
        rw [hβ', List.getElem?_append_left (by omega)]; exact h
      · have := hkH k (List.mem_of_getElem? hkj); omega
    · rw [hρge hj] at hi
      rcases at2 _ i hi with ⟨h, _, _⟩ | ⟨j', hj', _⟩ | ⟨j', h, h'⟩
      · omega
      · have := hkH _ (List.mem_of_getElem? hj'); omega
      · rw [hβ', List.getElem?_append_right (by omega)]
        rw [show j - β1.length = j' by omega]; exact h'
  have hβ2 : ∀ j i, E'.β[j]? = some i → E2.β[ρ j]? = some i := fun j i hi => by
    rw [hβ'] at hi
    rcases Nat.lt_or_ge j ks.length with hj | hj
    · obtain ⟨k, hkj⟩ := atk hj
      rw [List.getElem?_append_left (by omega)] at hi
      rw [hρlt hkj]
      simp only [E2]
      rw [List.getElem?_append_left (by rw [hlenH]; exact hkH k (List.mem_of_getElem? hkj)), setL_at ks E.β β1 j k hnd hβ1.symm hkβ hkj]
      exact hi
    · rw [List.getElem?_append_right (by omega)] at hi
      rw [hρge hj]
      simp only [E2]
      rw [List.getElem?_append_right (by omega), hlenH]
      rw [show H.length + (j - ks.length) - H.length = j - β1.length by omega]; exact hi
  have hBl' : ks.length = (Bs'.map fun B => some (B.ren ρ)).length := by simp [hBl, hlen]
  have atH : ∀ (q : Nat) (B1 : ABlk), (setL H ks (Bs'.map fun B => some (B.ren ρ)) ++ Hn.map fun b => b.map (ABlk.ren ρ))[q]? = some (some B1) →
      (q < H.length ∧ q ∉ ks ∧ H[q]? = some (some B1)) ∨ ∃ j B0, q = ρ j ∧ (Bs'.map some ++ Hn)[j]? = some (some B0) ∧ B1 = B0.ren ρ := fun q B1 hq => by
    rw [List.getElem?_append, setL_length] at hq
    split at hq
    · rename_i hql
      by_cases hm : q ∈ ks
      · obtain ⟨j, hj⟩ := List.getElem?_of_mem hm
        rw [setL_at ks H _ j q hnd hBl' hkH hj, List.getElem?_map, Option.map_eq_some_iff] at hq
        obtain ⟨B0, hB0, e⟩ := hq
        cases e
        refine .inr ⟨j, B0, (hρlt hj).symm, ?_, rfl⟩
        rw [List.getElem?_append_left (by simp; exact (List.getElem?_eq_some_iff.1 hB0).1), List.getElem?_map, hB0]; rfl
      · rw [setL_not ks _ _ q hm] at hq
        exact .inl ⟨hql, hm, hq⟩
    · rename_i hql
      rw [List.getElem?_map, Option.map_eq_some_iff] at hq
      obtain ⟨b, hb, e⟩ := hq
      cases b with
      | none => simp at e
      | some B0 =>
        simp at e; subst e
        refine .inr ⟨ks.length + (q - H.length), B0, ?_, ?_, rfl⟩
        · rw [hρge (by omega)]; omega
        · rw [List.getElem?_append_right (by simp [hBl, hlen])]
          simp only [List.length_map, hBl, ← hlen]
          rw [show ks.length + (q - H.length) - ks.length = q - H.length by omega]; exact hb
  have hnew : ∀ (j : Nat) (B0 : ABlk) (i : BI) (b : Nat), (Bs'.map some ++ Hn)[j]? = some (some B0) → E'.β[j]? = some i → i.blk = some b →
      (∃ (j k : Nat) (i : BI) (B : ABlk), ks[j]? = some k ∧ E.β[k]? = some i ∧ H[k]? = some (some B) ∧ i.blk = some b) ∨ w.heap.size ≤ b := fun j B0 i b h1 h2 h3 => by
    rcases hlive b ⟨j, B0, i, h1, h2, h3⟩ with h | h
    · exact .inl (hliv0 b h)
    · exact .inr h
  have hother : ∀ (q : Nat) (B1 : ABlk) (i : BI) (b : Nat), q ∉ ks → H[q]? = some (some B1) → E.β[q]? = some i → i.blk = some b →
      b < w.heap.size ∧ ¬ (∃ (j k : Nat) (i : BI) (B : ABlk), ks[j]? = some k ∧ E.β[k]? = some i ∧ H[k]? = some (some B) ∧ i.blk = some b) := fun q B1 i b hq h1 h2 h3 => by
    obtain ⟨i2, hi2, hok⟩ := hsim.blk q B1 h1
    rw [h2] at hi2; cases hi2
    refine ⟨hok.lt h3, fun ⟨j, k, i', B, e1, e2, e3, e4⟩ => hq ?_⟩
    have := hsim.apart q k B1 B i i' b h1 e3 h2 e2 h3 e4
    subst this
    exact List.mem_of_getElem? e1
  have back : ∀ (q : Nat) (i : BI), q < H.length → q ∉ ks → E2.β[q]? = some i → E.β[q]? = some i := fun q i h1 h2 h3 => by
    rcases at2 q i h3 with ⟨_, _, h⟩ | ⟨j, h, _⟩ | ⟨j, h, _⟩
    · exact h
    · exact absurd (List.mem_of_getElem? h) h2
    · omega
  refine ⟨v, r.ren ρ, _, E2, rfl, hle2, ⟨?_, ?_, ?_, ?_, ?_, fun g cs hg => (hsim.glob g cs hg).mono hle2.I⟩, ren_relV (E := E') (E' := E2) rfl (Nat.le_refl _) hβ hr, ?_, ?_,
    fun b hb hI => (hI0 b hb hI).elim .inl fun hl => by
      obtain ⟨j, k, i, B, h1, h2, h3, h4⟩ := hliv0 b hl
      exact .inr ⟨k, B, i, h3, h2, h4⟩, hK r Bs' Hn _ hp hBl (by rw [← hclk]; exact hclk')⟩
  · simp [E2, setL_length, hsim.len, hβ2l]
  · intro q i hi
    rcases at2 q i hi with ⟨_, _, h⟩ | ⟨j, _, h⟩ | ⟨j, _, h⟩
    · exact Nat.lt_of_lt_of_le (hsim.gens q i h) hclk'
    · exact hsim'.gens j i (by rw [hβ', List.getElem?_append_left (List.getElem?_eq_some_iff.1 h).1]; exact h)
    · exact hsim'.gens (ks.length + j) i (by rw [hβ', List.getElem?_append_right (by omega)]; rw [show ks.length + j - β1.length = j by omega]; exact h)
  · exact hsim'.I
  · intro q B1 hB1
    rcases atH q B1 hB1 with ⟨h1, h2, h3⟩ | ⟨j, B0, rfl, hB0, rfl⟩
    · obtain ⟨i, hi, hok⟩ := hsim.blk q B1 h3
      refine ⟨i, ?_, hok.mono_same hle2 (fun b hb hI => (hI0 b (hother q B1 i b h2 h3 hi hb).1 hI).resolve_right fun hl => (hother q B1 i b h2 h3 hi hb).2 (hliv0 b hl)) (fun b hb => ?_)⟩
      · simp only [E2]
        rw [List.getElem?_append_left (by rw [hlenH]; exact h1), setL_not ks _ _ q h2]
        exact hi
      · obtain ⟨o1, o2⟩ := hother q B1 i b h2 h3 hi hb
        exact hold b o1 o2
    · obtain ⟨i, hi, hok⟩ := hsim'.blk j B0 hB0
      refine ⟨i, hβ2 j i hi, hok.1, hok.2.1, hok.2.2.1, hok.2.2.2.1, ?_⟩
      obtain ⟨_, _, _, _, h5⟩ := hok
      cases hb : i.blk with
      | none => rw [hb] at h5; exact ⟨by simp [ABlk.ren, h5.1], h5.2⟩
      | some b =>
        rw [hb] at h5
        obtain ⟨hn, ⟨C, hC, hl, hlc, hrl⟩ | hm⟩ := h5
        · refine ⟨hn, .inl ⟨C, hC, hl, by simpa [ABlk.ren] using hlc, ?_⟩⟩
          have := ren_rels (E := E') (E' := E2) (ρ := ρ) rfl (Nat.le_refl _) hβ hrl
          simpa [ABlk.ren] using this
        · exact ⟨hn, .inr hm.ren⟩
  · intro q q' B1 B2 i i' b hB1 hB2 hi hi' hb hb'
    rcases atH q B1 hB1 with ⟨h1, h2, h3⟩ | ⟨j, B0, rfl, hB0, rfl⟩ <;> rcases atH q' B2 hB2 with ⟨g1, g2, g3⟩ | ⟨j', B0', rfl, hB0', rfl⟩
    · exact hsim.apart q q' B1 B2 i i' b h3 g3 (back q i h1 h2 hi) (back q' i' g1 g2 hi') hb hb'
    · obtain ⟨o1, o2⟩ := hother q B1 i b h2 h3 (back q i h1 h2 hi) hb
      rcases hnew j' B0' i' b hB0' (hβ j' i' hi') hb' with h | h
      · exact absurd h o2
      · omega
    · obtain ⟨o1, o2⟩ := hother q' B2 i' b g2 g3 (back q' i' g1 g2 hi') hb'
      rcases hnew j B0 i b hB0 (hβ j i hi) hb with h | h
      · exact absurd h o2
      · omega
    · rw [hsim'.apart j j' B0 B0' i i' b hB0 hB0' (hβ j i hi) (hβ j' i' hi') hb hb']
  · refine ⟨hfrm.os, hfrm.tape, hfrm.output, hfrm.size, fun b hb hn => hold b hb (fun ⟨j, k, i, B, h1, h2, h3, h4⟩ => hn ⟨k, B, i, h3, h2, h4⟩)⟩
  · rintro b ⟨q, B1, i, hB1, hi, hb⟩
    rcases atH q B1 hB1 with ⟨h1, h2, h3⟩ | ⟨j, B0, rfl, hB0, rfl⟩
    · exact .inl ⟨q, B1, i, h3, back q i h1 h2 hi, hb⟩
    · rcases hnew j B0 i b hB0 (hβ j i hi) hb with ⟨j', k, i', B, e1, e2, e3, e4⟩ | h
      · exact .inl ⟨k, B, i', e3, e2, e4⟩
      · exact .inr h
end
end Go.Abs
