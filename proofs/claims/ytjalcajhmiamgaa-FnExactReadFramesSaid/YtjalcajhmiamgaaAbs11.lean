/-
  The abstract steps are sound: append. No program's text.
-/
import Derived.Test.YtjalcajhmiamgaaAbs10
namespace Go.Abs
set_option linter.unusedSimpArgs false
set_option linter.unusedVariables false
set_option linter.unnecessarySimpa false
open Go

section
variable {P : Program} {w0 w : World} {E0 E : Env} {H0 : AHeap} {st : ASt} {a : Act} {o : Oper} {K : ASt → Prop}

/-- The nil slice as an own array. -/
theorem InvE.snocNil (h : InvE w0 E0 H0 st a w E) (e : TypeId) (n : Nat) :
    InvE w0 E0 H0 { st with heap := st.heap ++ [some ⟨st.clk, e, n, []⟩], clk := st.clk + 1 } a w (E.snoc ⟨E.clk, none, e, n, 0⟩) ∧ Env.Le w E w (E.snoc ⟨E.clk, none, e, n, 0⟩) := by
  have hle : Env.Le w E w (E.snoc ⟨E.clk, none, e, n, 0⟩) := ⟨fun b hb => ⟨hb, rfl⟩, Nat.le_succ _, fun k i' hi => by
    rcases getElem?_snoc hi with h | ⟨_, rfl⟩
    · exact .inl h
    · exact .inr (Nat.le_refl _)⟩
  refine ⟨⟨h.dfr, h.le.trans hle, by simp [Env.snoc, h.clk], ⟨by simp [Env.snoc, h.sim.len], ?_, h.sim.I, ?_, ?_, fun g cs hg => (h.sim.glob g cs hg).mono hle.I⟩, h.rel.mono hle, h.frm, ?_, h.I0⟩, hle⟩
  · intro k i hi
    rcases getElem?_snoc hi with hh | ⟨_, rfl⟩
    · exact Nat.lt_succ_of_lt (h.sim.gens k i hh)
    · exact Nat.lt_succ_self _
  · intro k B hB
    rcases getElem?_snoc hB with hh | ⟨rfl, heq⟩
    · obtain ⟨i, hi, hok⟩ := h.sim.blk k B hh
      have hk : k < E.β.length := (List.getElem?_eq_some_iff.1 hi).1
      exact ⟨i, by simp only [Env.snoc]; rw [List.getElem?_append_left hk]; exact hi, hok.mono_same hle (fun _ _ hI => hI) (fun _ _ => rfl)⟩
    · simp only [Option.some.injEq] at heq
      subst heq
      refine ⟨⟨E.clk, none, e, n, 0⟩, ?_, h.clk, rfl, rfl, Nat.lt_succ_self _, rfl, rfl⟩
      simp only [Env.snoc]
      rw [List.getElem?_append_right (by rw [h.sim.len]; exact Nat.le_refl _), ← h.sim.len]
      simp
  · intro k k' B B' i i' b hB hB' hi hi' hb hb'
    have hlen := h.sim.len
    rcases getElem?_snoc hB with h1 | ⟨e1, _⟩ <;> rcases getElem?_snoc hB' with h2 | ⟨e2, _⟩
    · have k1 : k < E.β.length := by rw [hlen]; exact (List.getElem?_eq_some_iff.1 h1).1
      have k2 : k' < E.β.length := by rw [hlen]; exact (List.getElem?_eq_some_iff.1 h2).1
      simp only [Env.snoc] at hi hi'
      rw [List.getElem?_append_left k1] at hi
      rw [List.getElem?_append_left k2] at hi'
      exact h.sim.apart k k' B B' i i' b h1 h2 hi hi' hb hb'
    · simp only [Env.snoc] at hi'
      rw [e2, ← hlen, List.getElem?_append_right (Nat.le_refl _)] at hi'
      simp at hi'; subst hi'; cases hb'
    · simp only [Env.snoc] at hi
      rw [e1, ← hlen, List.getElem?_append_right (Nat.le_refl _)] at hi
      simp at hi; subst hi; cases hb
    · omega
  · rintro b ⟨k, B, i, hB, hi, hb⟩
    rcases getElem?_snoc hB with h1 | ⟨e1, _⟩
    · have k1 : k < E.β.length := by rw [h.sim.len]; exact (List.getElem?_eq_some_iff.1 h1).1
      simp only [Env.snoc] at hi
      rw [List.getElem?_append_left k1] at hi
      exact h.live b ⟨k, B, i, h1, hi, hb⟩
    · simp only [Env.snoc] at hi
      rw [e1, ← h.sim.len, List.getElem?_append_right (Nat.le_refl _)] at hi
      simp at hi; subst hi; cases hb

/-- An own array turns: its stamp; it is still nil, or in a block that is new (w' is w with that block). -/
theorem InvE.turn (h : InvE w0 E0 H0 st a w E) {k : Nat} {B : ABlk} {w' : World} {i' : BI} {B' : ABlk} (hB : st.heap[k]? = some (some B))
    (hold : ∀ b, b < w.heap.size → w'.heap[b]? = w.heap[b]?) (hsz : w.heap.size ≤ w'.heap.size) (hos : w'.os = w.os) (ht : w'.tape = w.tape) (hout : w'.output = w.output)
    (hnew : ∀ b, i'.blk = some b → b = w.heap.size) (hg : i'.gen = E.clk) (hok : Env.Le w E w' ⟨E.I, E.β.set k i', E.clk + 1⟩ → BlkOk w' ⟨E.I, E.β.set k i', E.clk + 1⟩ i' B') :
    InvE w0 E0 H0 { st with heap := st.heap.set k (some B'), clk := st.clk + 1 } a w' ⟨E.I, E.β.set k i', E.clk + 1⟩ ∧ Env.Le w E w' ⟨E.I, E.β.set k i', E.clk + 1⟩ := by
  have hk : k < E.β.length := by rw [h.sim.len]; exact (List.getElem?_eq_some_iff.1 hB).1
  have hle : Env.Le w E w' ⟨E.I, E.β.set k i', E.clk + 1⟩ := ⟨fun b hb => ⟨hb, hold b (h.sim.I b hb)⟩, Nat.le_succ _, fun j j' hj => by
    simp only [List.getElem?_set] at hj
    split at hj
    · rename_i hkj
      subst hkj
      cases hj
      exact .inr (by omega)
    · exact .inl hj⟩
  have hlt : ∀ (j : Nat) (B1 : ABlk) (i1 : BI) (c : Nat), st.heap[j]? = some (some B1) → E.β[j]? = some i1 → i1.blk = some c → c < w.heap.size := by
    intro j B1 i1 c h1 h2 h3
    obtain ⟨i2, hi2, hok2⟩ := h.sim.blk j B1 h1
    rw [h2] at hi2; cases hi2
    exact hok2.lt h3
  refine ⟨⟨h.dfr, h.le.trans hle, by simp [h.clk], ⟨by simp [h.sim.len], ?_, ?_, ?_, ?_, fun g cs hg => (h.sim.glob g cs hg).mono hle.I⟩, h.rel.mono hle, ?_, ?_, h.I0⟩, hle⟩
  · intro j jj hj
    simp only [List.getElem?_set] at hj
    split at hj
    · cases hj
      simp only [hg]; omega
    · have := h.sim.gens j jj hj
      simp only; omega
  · intro c hc
    have := h.sim.I c hc
    omega
  · intro j B2 hB2
    simp only [List.getElem?_set] at hB2
    by_cases hkj : k = j
    · subst hkj
      rw [if_pos rfl] at hB2
      split at hB2
      · simp only [Option.some.injEq] at hB2
        subst hB2
        exact ⟨i', by simp [hk], hok hle⟩
      · cases hB2
    · rw [if_neg hkj] at hB2
      obtain ⟨j2, hj2, hok2⟩ := h.sim.blk j B2 hB2
      exact ⟨j2, by simp only [List.getElem?_set, if_neg hkj]; exact hj2, hok2.mono_same hle (fun _ _ hI => hI) (fun c hc => hold c (hok2.lt hc))⟩
  · intro j j' B1 B2 i1 i2 c h1 h2 g1 g2 c1 c2
    by_cases hkj : k = j <;> by_cases hkj' : k = j'
    · omega
    · subst hkj
      simp [hk] at g1
      subst g1
      simp only [List.getElem?_set, if_neg hkj'] at h2 g2
      have := hlt j' B2 i2 c h2 g2 c2
      have := hnew c c1
      omega
    · subst hkj'
      simp [hk] at g2
      subst g2
      simp only [List.getElem?_set, if_neg hkj] at h1 g1
      have := hlt j B1 i1 c h1 g1 c1
      have := hnew c c2
      omega
    · simp only [List.getElem?_set, if_neg hkj] at h1 g1
      simp only [List.getElem?_set, if_neg hkj'] at h2 g2
      exact h.sim.apart j j' B1 B2 i1 i2 c h1 h2 g1 g2 c1 c2
  · exact h.frm.trans (L' := fun _ => False) ⟨hos, ht, hout, hsz, fun b hb _ => hold b hb⟩ (fun _ _ hf => hf.elim)
  · rintro c ⟨j, B2, i2, h1, h2, h3⟩
    by_cases hkj : k = j
    · subst hkj
      simp [hk] at h2
      subst h2
      have := hnew c h3
      exact .inr (by have := h.frm.size; omega)
    · simp only [List.getElem?_set, if_neg hkj] at h1 h2
      exact h.live c ⟨j, B2, i2, h1, h2, h3⟩

theorem run_append_zero {t ty e : TypeId} {i : TypeInfo} (ht : P.underlying t = some (.slice e)) (hi : P.info? e = some i) (A A' : Option Addr) (n cap c : Nat) (hn : n ≤ cap) :
    (Builtin.append_ #[t, t] ty #[.slice A n cap, .slice A' 0 c]).run P w = .ok (.slice A n cap) w := by
  have hf : (Builtin.firstCells i.size 0 (.slice A' 0 c)).run P w = .ok #[] w := by
    cases A' with
    | none => simp [Builtin.firstCells]
    | some ad => simp [Builtin.firstCells, loadCells, loadCellsFrom]
  cases A with
  | none => simp [Builtin.append_, run_underlying ht, sizeOf, typeInfo, hi, Builtin.lenOf, hn, hf]
  | some ad => simp [Builtin.append_, run_underlying ht, sizeOf, typeInfo, hi, Builtin.lenOf, hn, hf, storeCells]

theorem mul_split (n m s : Nat) : (n + m) * s = n * s + m * s := Nat.add_mul n m s

/-- What append tells of a nil slice or an own array, in a state that has it as own array k. -/
theorem append_own {t ty e : TypeId} {ti : TypeInfo} {z : Value} (hu : P.underlying t = some (.slice e)) (hi : P.info? e = some ti) (hz : ti.zero = some z) (hzs : z.cells.size = ti.size)
    (hE : InvE w0 E0 H0 st a w E) {k g n : Nat} {B : ABlk} {v v' : Value} {m : Nat} {news : List AC} (hB : blkAt st.heap k g = some B) (hr : RelV w E (.one (.own k g 0 n)) v)
    (hsz : B.size = ti.size) (hel : B.elem = e) (hn : n * ti.size ≤ B.cells.length) (hpos : 0 < ti.size)
    (hsrc : ∃ A cap, v' = .slice A m cap ∧ (A = none → news = []) ∧ ∀ ad, A = some ad → Readable w E ad news) (hl : news.length = m * ti.size)
    (hby : (n + m) * ti.bytes ≤ 140737488355328) (hmax : n + m ≤ maxLen) :
    ∃ r w' E', (Builtin.append_ #[t, t] ty #[v, v']).run P w = .ok r w' ∧ RelV w' E' (.one (.own k st.clk 0 (n + m))) r ∧
      InvE w0 E0 H0 { st with heap := st.heap.set k (some ⟨st.clk, e, ti.size, B.cells.take (n * ti.size) ++ news⟩), clk := st.clk + 1 } a w' E' := by
  obtain ⟨i, ad, cap, hk, hg, hik, hok, hv, h1, h2, h3, h4⟩ := hE.at_own hB hr
  obtain ⟨A, c, hv', hnone, hsome⟩ := hsrc
  have hkl : k < E.β.length := (List.getElem?_eq_some_iff.1 hik).1
  have his : i.size = ti.size := by rw [hok.2.2.1, hsz]
  have hclk := hE.clk
  have hmm := mul_split n m ti.size
  have htl : (B.cells.take (n * ti.size)).length = n * ti.size := by rw [List.length_take]; omega
  subst hv; subst hv'
  -- the new array in a new block
  have fresh : ∀ (vs : List Value) (r : Value) (newCap : Nat) (us : List Value), RelCs w E (B.cells.take (n * ti.size) ++ news) vs → n + m ≤ newCap → newCap ≤ maxLen → (vs ++ us).length = newCap * ti.size →
      ∃ E', RelV (w.drew.alloc (.cells (vs ++ us).toArray e)) E' (.one (.own k st.clk 0 (n + m))) (.slice (some ⟨w.heap.size, 0, none⟩) (n + m) newCap) ∧
        InvE w0 E0 H0 { st with heap := st.heap.set k (some ⟨st.clk, e, ti.size, B.cells.take (n * ti.size) ++ news⟩), clk := st.clk + 1 } a (w.drew.alloc (.cells (vs ++ us).toArray e)) E' := by
    intro vs r newCap us hrel hc1 hc2 hlen
    have hlv := hrel.1
    have hT := hE.drew.turn (k := k) (B := B) (w' := w.drew.alloc (.cells (vs ++ us).toArray e)) (i' := ⟨E.clk, some w.heap.size, e, ti.size, (vs ++ us).length⟩) (B' := ⟨st.clk, e, ti.size, B.cells.take (n * ti.size) ++ news⟩) hk
      (fun b hb => alloc_old w.drew _ b hb) (by simp) rfl rfl rfl (fun b hb => by simpa using hb.symm) rfl (fun hle => ⟨hclk, rfl, rfl, Nat.lt_succ_self _, by
        refine ⟨fun hI => Nat.lt_irrefl _ (hE.sim.I _ hI), .inl ⟨vs ++ us, heap_alloc_new w.drew _, rfl, ?_, ?_⟩⟩
        · show (B.cells.take (n * ti.size) ++ news).length ≤ (vs ++ us).length
          rw [hlv, List.length_append]; omega
        · have e1 : (vs ++ us).take (B.cells.take (n * ti.size) ++ news).length = vs := by rw [hlv]; simp
          rw [e1]
          exact (hrel.mono (le_drew w E)).mono hle⟩)
    refine ⟨_, ⟨rfl, ?_, fun q hq _ => ?_⟩, hT.1⟩
    · rw [hT.1.clk]; exact Nat.lt_succ_self _
    · simp [hkl] at hq
      subst hq
      exact ⟨_, _, rfl, hc1, hc2, by simp only [Nat.zero_add]; rw [List.length_append] at hlen; exact Nat.le_of_eq hlen.symm, fun _ => rfl⟩
  by_cases hm0 : m = 0
  · -- nothing is appended
    subst hm0
    have hnews : news = [] := List.eq_nil_of_length_eq_zero (by omega)
    subst hnews
    have hrun := run_append_zero (P := P) (w := w) (ty := ty) hu hi ad A n cap c h1
    refine ⟨.slice ad n cap, w, ?_⟩
    cases hb : i.blk with
    | none =>
      rw [hb] at h4
      obtain ⟨rfl, rfl⟩ := h4
      obtain ⟨b1, b2, b3, b4, b5⟩ := hok
      rw [hb] at b5
      have hT := hE.turn (k := k) (B := B) (w' := w) (i' := { i with gen := E.clk }) (B' := ⟨st.clk, e, ti.size, B.cells.take (n * ti.size) ++ []⟩) hk
        (fun b _ => rfl) (Nat.le_refl _) rfl rfl rfl (fun b hb' => by simp [hb] at hb') rfl (fun hle => ⟨hclk, by rw [← hel, ← b2], his, Nat.lt_succ_self _, by simp only [hb]; simp [b5.1, b5.2]⟩)
      refine ⟨_, hrun, ⟨rfl, ?_, fun q hq _ => ?_⟩, hT.1⟩
      · rw [hT.1.clk]; exact Nat.lt_succ_self _
      · simp [hkl] at hq
        subst hq
        exact ⟨_, _, rfl, h1, h2, h3, by simp [hb]⟩
    | some b =>
      rw [hb] at h4
      obtain ⟨hnI, C, hC, hCl, hBl, hrel⟩ := hok.cells (blkAt_size hB) hb
      obtain ⟨b1, b2, b3, b4, b5⟩ := hok
      have hW := hE.write (k := k) (B := B) (B' := ⟨st.clk, e, ti.size, B.cells.take (n * ti.size) ++ []⟩) (i := i) (i' := { i with gen := st.clk }) (b := b) (clk' := st.clk + 1) (C' := C) hk hik hb hb rfl rfl hCl rfl
        (by rw [← hel, ← b2]) his (by simp; omega) (by
          simp only [List.append_nil]
          rw [htl]
          have := hrel.take (n * ti.size)
          rw [List.take_take, Nat.min_eq_left hn] at this
          exact this) (blkAt_size hB) (.inr ⟨rfl, rfl⟩)
      rw [setRow_self w b C.toArray i.elem (0, 0) hC] at hW
      refine ⟨_, hrun, ⟨rfl, ?_, fun q hq _ => ?_⟩, hW.1⟩
      · exact Nat.lt_succ_self _
      · simp [hkl] at hq
        subst hq
        exact ⟨_, _, rfl, h1, h2, h3, by simp only [hb]; exact h4⟩
  · -- something is
    obtain ⟨ad', rfl⟩ : ∃ ad', A = some ad' := by
      cases A with
      | none =>
        have := hnone rfl
        subst this
        have : m * ti.size = 0 := by simpa using hl.symm
        rcases Nat.mul_eq_zero.1 this with h | h <;> omega
      | some ad' => exact ⟨ad', rfl⟩
    obtain ⟨us, hru, hcu⟩ := hsome ad' rfl
    have hul : us.length = m * ti.size := by rw [← hru.1, hl]
    have h63 : (((n + m : Nat)) : Int) ≤ 9223372036854775807 := by simp only [maxLen] at hmax; omega
    have hcapok : ∀ old, n + m ≤ grownCap w (n + m) old e ∧ grownCap w (n + m) old e ≤ maxLen := fun old => ⟨grownCap_ge _ _ _ _, grownCap_le_maxLen _ _ _ _ hmax⟩
    have hzc : ∀ q, (Builtin.zeroCells z.cells q).toList.length = q * ti.size := fun q => by rw [Array.length_toList, size_zeroCells, hzs]
    have nilcase : n = 0 → ∃ r w' E', (Builtin.append_ #[t, t] ty #[.slice none 0 0, .slice (some ad') m c]).run P w = .ok r w' ∧ RelV w' E' (.one (.own k st.clk 0 (n + m))) r ∧
      InvE w0 E0 H0 { st with heap := st.heap.set k (some ⟨st.clk, e, ti.size, B.cells.take (n * ti.size) ++ news⟩), clk := st.clk + 1 } a w' E' := by
      intro hn0
      subst hn0
      have hrun := run_append_nil (P := P) w t ty e ti z hu hi hz ad' m c us hul hcu (by omega) (by omega) (by have := hby; simp only [Nat.zero_add] at this; omega)
      obtain ⟨E', hr', hI'⟩ := fresh us (.slice none 0 0) (grownCap w m 0 e) (Builtin.zeroCells z.cells (grownCap w m 0 e - m)).toList (by simpa using hru) (by have := (hcapok 0).1; simpa using this) (by have := (hcapok 0).2; simpa using this) (by
        have hge := (hcapok 0).1
        simp only [Nat.zero_add] at hge
        rw [List.length_append, hzc, hul, ← Nat.add_mul]; congr 1; omega)
      refine ⟨_, _, E', hrun, ?_, ?_⟩
      · have e1 : us.toArray ++ Builtin.zeroCells z.cells (grownCap w m 0 e - m) = (us ++ (Builtin.zeroCells z.cells (grownCap w m 0 e - m)).toList).toArray := by apply Array.ext'; simp
        rw [e1]; simpa using hr'
      · have e1 : us.toArray ++ Builtin.zeroCells z.cells (grownCap w m 0 e - m) = (us ++ (Builtin.zeroCells z.cells (grownCap w m 0 e - m)).toList).toArray := by apply Array.ext'; simp
        rw [e1]; exact hI'
    cases hb : i.blk with
    | none =>
      rw [hb] at h4
      obtain ⟨rfl, rfl⟩ := h4
      have hn0 : n = 0 := by omega
      have := nilcase hn0
      rw [hn0] at this ⊢
      exact this
    | some b =>
      rw [hb] at h4
      obtain ⟨hnI, C, hC, hCl, hBl, hrel⟩ := hok.cells (blkAt_size hB) hb
      obtain ⟨b1, b2, b3, b4, b5⟩ := hok
      have hroomcap : cap * ti.size ≤ C.length := by rw [his] at h3; omega
      by_cases hroom : n + m ≤ cap
      · -- in place
        have had := h4 (by omega)
        subst had
        have hie : i.elem = e := by rw [b2, hel]
        rw [hie] at hC
        have hcm : (n + m) * ti.size ≤ cap * ti.size := Nat.mul_le_mul_right _ hroom
        have hrun := run_append_room (P := P) w t ty e ti hu hi b n cap C.toArray hC ad' m c us hul hcu (fun u hu' => by
          obtain ⟨j, hj⟩ := List.mem_iff_getElem?.1 hu'
          have hjl : j < news.length := by rw [hru.1]; exact (List.getElem?_eq_some_iff.1 hj).1
          exact (hru.2 j _ u (List.getElem?_eq_getElem hjl) hj).1) hroom (by rw [hul]; simp; omega)
        have hW := hE.write (k := k) (B := B) (B' := ⟨st.clk, e, ti.size, B.cells.take (n * ti.size) ++ news⟩) (i := i) (i' := { i with gen := st.clk }) (b := b) (clk' := st.clk + 1)
          (C' := C.take (n * ti.size) ++ us ++ C.drop (n * ti.size + us.length)) hk hik hb hb rfl rfl (by simp only [List.length_append, List.length_take, List.length_drop]; omega) rfl
          hie his (by simp only [List.length_append]; omega) (by
            simp only
            have e1 : (C.take (n * ti.size) ++ us ++ C.drop (n * ti.size + us.length)).take (B.cells.take (n * ti.size) ++ news).length = C.take (n * ti.size) ++ us := by
              have : (B.cells.take (n * ti.size) ++ news).length = (C.take (n * ti.size) ++ us).length := by simp only [List.length_append, List.length_take]; omega
              rw [this, List.take_left']
              rfl
            rw [e1]
            have h5 := hrel.take (n * ti.size)
            rw [List.take_take, Nat.min_eq_left hn] at h5
            exact h5.append hru) (blkAt_size hB) (.inr ⟨rfl, rfl⟩)
        simp only [List.toList_toArray] at hrun
        refine ⟨_, _, _, hrun, ⟨rfl, ?_, fun q hq _ => ?_⟩, hW.1⟩
        · exact Nat.lt_succ_self _
        · simp [hkl] at hq
          subst hq
          exact ⟨_, _, rfl, hroom, h2, h3, by simp [hb]⟩
      · -- it grows
        have grow : ∀ ad0, ad = some ad0 → (0 < n → ad0 = ⟨b, 0, none⟩) → ∃ r w' E', (Builtin.append_ #[t, t] ty #[.slice ad n cap, .slice (some ad') m c]).run P w = .ok r w' ∧ RelV w' E' (.one (.own k st.clk 0 (n + m))) r ∧
            InvE w0 E0 H0 { st with heap := st.heap.set k (some ⟨st.clk, e, ti.size, B.cells.take (n * ti.size) ++ news⟩), clk := st.clk + 1 } a w' E' := by
          intro ad0 had hpn
          subst had
          have hco : ∀ j u, (C.take (n * ti.size))[j]? = some u → w.cell? (ad0.add j) = some u := by
            intro j u hj
            rcases Nat.eq_zero_or_pos n with h0 | h0
            · subst h0; simp at hj
            · rw [hpn h0, add_lit, World.cell?, hC]
              rw [List.getElem?_take] at hj
              split at hj
              · simpa using hj
              · cases hj
          have hcl : (C.take (n * ti.size)).length = n * ti.size := by rw [List.length_take]; omega
          have hrun := run_append_grow (P := P) w t ty e ti z hu hi hz ad0 n cap (C.take (n * ti.size)) hcl hco ad' m c us hul hcu (by omega) h63 (growslice_fits (by omega) hby)
          have hrelo : RelCs w E (B.cells.take (n * ti.size)) (C.take (n * ti.size)) := by
            have h5 := hrel.take (n * ti.size)
            rwa [List.take_take, Nat.min_eq_left hn] at h5
          obtain ⟨E', hr', hI'⟩ := fresh (C.take (n * ti.size) ++ us) (.slice none 0 0) (grownCap w (n + m) cap e) (Builtin.zeroCells z.cells (grownCap w (n + m) cap e - (n + m))).toList (hrelo.append hru) (hcapok cap).1 (hcapok cap).2 (by
            have hge := (hcapok cap).1
            rw [List.length_append, List.length_append, hzc, hul, hcl, ← Nat.add_mul, ← Nat.add_mul]; congr 1; omega)
          have e1 : (C.take (n * ti.size)).toArray ++ us.toArray ++ Builtin.zeroCells z.cells (grownCap w (n + m) cap e - (n + m)) = (C.take (n * ti.size) ++ us ++ (Builtin.zeroCells z.cells (grownCap w (n + m) cap e - (n + m))).toList).toArray := by apply Array.ext'; simp
          rw [e1] at hrun
          exact ⟨_, _, E', hrun, hr', hI'⟩
        rcases Nat.eq_zero_or_pos cap with hc0 | hc0
        · subst hc0
          have hn0 : n = 0 := by omega
          cases ad with
          | none =>
            have := nilcase hn0
            rw [hn0] at this ⊢
            exact this
          | some ad0 => exact grow ad0 rfl (fun h => by omega)
        · have had := h4 hc0
          exact grow ⟨b, 0, none⟩ had (fun _ => rfl)

theorem zero_of {e : TypeId} {ti : TypeInfo} (hi : P.info? e = some ti) {z : List AC} (hz : zeroT P e = some z) : ∃ v, ti.zero = some v ∧ z.length = v.cells.size := by
  unfold zeroT at hz
  simp only [hi] at hz
  cases h : ti.zero with
  | none => simp [h] at hz
  | some v =>
    simp [h] at hz
    exact ⟨v, rfl, by rw [← hz.2]; simp⟩

theorem set_snoc {α : Type} (l : List α) (x y : α) : (l ++ [x]).set l.length y = l ++ [y] := by
  simp [List.set_append]

theorem ok_append {t u ty : TypeId} {x y : Operand} (ho : o.op = .call { callee := .builtin .append, args := #[x, y], argTypes := #[t, u] })
    (h : appendA P st.heap st.clk t u (st.eval x) (st.eval y) fun v H c => K (ASt.put ⟨st.tmps, H, c⟩ o.dst v)) : OpOk P o st K := by
  unfold appendA at h
  split at h
  · rename_i e size bytes m news hT hel
    obtain ⟨⟨rfl, hpos, hl, hzz⟩, h⟩ := h
    obtain ⟨z, hz, hzl⟩ : ∃ z, zeroT P e = some z ∧ z.length = size := by
      cases hz : zeroT P e with
      | none => simp [hz] at hzz
      | some z => simp [hz] at hzz; exact ⟨z, rfl, hzz⟩
    obtain ⟨hu, ti, hi, rfl, rfl⟩ := sliceT_some hT
    obtain ⟨v, hv, hvs⟩ := zero_of hi hz
    simp only [hT, Option.map_some, Option.getD_some] at hel
    split at h
    · rename_i hx
      obtain ⟨⟨hby, hmax⟩, h⟩ := h
      refine opOk_value fun w0 E0 H0 a w E hE => ?_
      have hr := hE.eval x
      rw [hx] at hr
      generalize hq : a.eval x = q at hr
      cases hr with
      | nil =>
        obtain ⟨hE1, hle⟩ := hE.snocNil e ti.size
        obtain ⟨A, cap, hvy, _, _, h1, h2⟩ := hE.elems (hE.eval y) hel
        have h2' : ∀ ad, A = some ad → Readable w (E.snoc ⟨E.clk, none, e, ti.size, 0⟩) ad news := fun ad had => let ⟨vs, hr, hc⟩ := h2 ad had; ⟨vs, hr.mono hle, hc⟩
        have hlenn : (st.heap ++ [some ⟨st.clk, e, ti.size, []⟩])[st.heap.length]? = some (some (⟨st.clk, e, ti.size, []⟩ : ABlk)) := by simp
        obtain ⟨r, w', E', hrun, hrel, hI⟩ := append_own (P := P) (t := u) (ty := o.type) hu hi hv (by rw [← hvs, hzl]) hE1 (k := st.heap.length) (g := st.clk) (n := 0) (B := ⟨st.clk, e, ti.size, []⟩) (v := .slice none 0 0) (v' := a.eval y) (m := m) (news := news)
          (by simp [blkAt]; omega) ⟨rfl, by simp [Env.snoc, hE.clk], fun i hi' _ => by
            simp only [Env.snoc] at hi'
            rw [← hE.sim.len, List.getElem?_append_right (Nat.le_refl _)] at hi'
            simp at hi'; subst hi'
            exact ⟨none, 0, rfl, Nat.le_refl _, Nat.zero_le _, by simp, rfl, rfl⟩⟩ rfl rfl (by simp) hpos ⟨A, cap, hvy, h1, h2'⟩ hl (by simpa using hby) (by simpa using hmax)
        simp only [set_snoc, Nat.zero_mul, List.take_zero, List.nil_append, Nat.zero_add] at hI hrel
        refine ⟨r, w', _, _, E', ?_, hI, hrel, h⟩
        simp [execOp, ho, resolve, invoke, builtin, hq, hrun]
    · rename_i k g off n hx
      split at h
      · rename_i B hB
        obtain ⟨⟨rfl, hs, hbe, hn, hby, hmax⟩, h⟩ := h
        refine opOk_value fun w0 E0 H0 a w E hE => ?_
        have hr := hE.eval x
        rw [hx] at hr
        obtain ⟨A, cap, hvy, _, _, h1, h2⟩ := hE.elems (hE.eval y) hel
        obtain ⟨r, w', E', hrun, hrel, hI⟩ := append_own (P := P) (t := u) (ty := o.type) hu hi hv (by rw [← hvs, hzl]) hE hB hr hs hbe hn hpos ⟨A, cap, hvy, h1, h2⟩ hl hby hmax
        refine ⟨r, w', _, _, E', ?_, hI, hrel, h⟩
        simp [execOp, ho, resolve, invoke, builtin, hrun]
      · exact h.elim
    · exact h.elim
  · exact h.elim
end
end Go.Abs
