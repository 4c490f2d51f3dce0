/-
  The abstract steps are sound: writes; operations on memory. No program's text.
-/
import Derived.Test.YtjalcajhmiamgaaAbs5
namespace Go.Abs
set_option linter.unusedSimpArgs false
set_option linter.unusedVariables false
set_option linter.unnecessarySimpa false
open Go

section
variable {P : Program} {w0 w : World} {E0 E : Env} {H0 : AHeap} {st : ASt} {a : Act} {o : Oper} {K : ASt → Prop}

theorem InvE.write (h : InvE w0 E0 H0 st a w E) {k : Nat} {B B' : ABlk} {i i' : BI} {b : Nat} {clk' : Nat} {C' : List Value}
    (hB : st.heap[k]? = some (some B)) (hi : E.β[k]? = some i) (hb : i.blk = some b) (hb' : i'.blk = some b) (he : i'.elem = i.elem) (hroom : i'.room = i.room)
    (hC' : C'.length = i.room) (hg : i'.gen = B'.gen) (he' : i'.elem = B'.elem) (hs' : i'.size = B'.size) (hl : B'.cells.length ≤ i.room)
    (hr : RelCs w E B'.cells (C'.take B'.cells.length)) (hsz : B.size ≠ 0) (hn : (i' = i ∧ clk' = st.clk) ∨ (i'.gen = st.clk ∧ clk' = st.clk + 1)) :
    InvE w0 E0 H0 { st with heap := st.heap.set k (some B'), clk := clk' } a (w.setRow b C'.toArray) ⟨E.I, E.β.set k i', clk'⟩ ∧
    Env.Le w E (w.setRow b C'.toArray) ⟨E.I, E.β.set k i', clk'⟩ := by
  obtain ⟨i2, hi2, hok⟩ := h.sim.blk k B hB
  rw [hi] at hi2; cases hi2
  have hlt := hok.lt hb
  obtain ⟨hnI, C, hC, hCl, _, _⟩ := hok.cells hsz hb
  obtain ⟨_, _, _, hgl, _⟩ := hok
  have hk : k < E.β.length := (List.getElem?_eq_some_iff.1 hi).1
  have hclk := h.clk
  have hle : Env.Le w E (w.setRow b C'.toArray) ⟨E.I, E.β.set k i', clk'⟩ := by
    refine ⟨fun c hc => ⟨hc, setRow_other w b c _ (fun e => hnI (e ▸ hc))⟩, ?_, fun j j' hj => ?_⟩
    · rcases hn with ⟨_, e⟩ | ⟨_, e⟩ <;> simp [e, hclk]
    · simp only [List.getElem?_set] at hj
      split at hj
      · rename_i hkj
        subst hkj
        cases hj
        rcases hn with ⟨e, _⟩ | ⟨e, _⟩
        · subst e; exact .inl hi
        · exact .inr (by omega)
      · exact .inl hj
  have hstays : ∀ (k' : Nat) (B2 : ABlk) (j : BI) (c : Nat), k' ≠ k → st.heap[k']? = some (some B2) → E.β[k']? = some j → j.blk = some c → c ≠ b := by
    intro k' B2 j c hne h1 h2 h3 e
    subst e
    exact hne (h.sim.apart k' k B2 B j i c h1 hB h2 hi h3 hb)
  refine ⟨⟨h.dfr, h.le.trans hle, rfl, ⟨by simp [h.sim.len], ?_, ?_, ?_, ?_, fun g cs hg => (h.sim.glob g cs hg).mono hle.I⟩, h.rel.mono hle, ?_, ?_, h.I0⟩, hle⟩
  · intro j jj hj
    simp only [List.getElem?_set] at hj
    split at hj
    · cases hj
      rcases hn with ⟨e, e2⟩ | ⟨e, e2⟩
      · subst e; simp only [e2]; omega
      · simp only [e2]; omega
    · have := h.sim.gens j jj hj
      rcases hn with ⟨_, e⟩ | ⟨_, e⟩ <;> simp only [e] <;> omega
  · intro c hc
    have := h.sim.I c hc
    simp only [World.setRow, Array.size_modify]; exact this
  · intro j B2 hB2
    simp only [List.getElem?_set] at hB2
    by_cases hkj : k = j
    · subst hkj
      rw [if_pos rfl] at hB2
      split at hB2
      · simp only [Option.some.injEq] at hB2
        subst hB2
        refine ⟨i', by simp [hk], hg, he', hs', ?_, ?_⟩
        · rcases hn with ⟨e, e2⟩ | ⟨e, e2⟩
          · subst e; simp only [e2]; omega
          · simp only [e2]; omega
        · rw [hb']
          exact ⟨hnI, .inl ⟨C', by rw [he]; exact setRow_heap w b _ _ _ _ hC, by rw [hroom]; exact hC', by rw [hroom]; exact hl, hr.mono hle⟩⟩
      · cases hB2
    · rw [if_neg hkj] at hB2
      obtain ⟨j2, hj2, hok2⟩ := h.sim.blk j B2 hB2
      exact ⟨j2, by simp only [List.getElem?_set, if_neg hkj]; exact hj2, hok2.mono_same hle (fun _ _ hI => hI) (fun c hc => setRow_other w b c _ (hstays j B2 j2 c (fun e => hkj e.symm) hB2 hj2 hc))⟩
  · intro j j' B1 B2 i1 i2 c h1 h2 g1 g2 c1 c2
    have back : ∀ (j : Nat) (B1 : ABlk) (i1 : BI), (st.heap.set k (some B'))[j]? = some (some B1) → (E.β.set k i')[j]? = some i1 → i1.blk = some c → ∃ B3 i3, st.heap[j]? = some (some B3) ∧ E.β[j]? = some i3 ∧ i3.blk = some c := by
      intro j B1 i1 h1 g1 c1
      by_cases hkj : k = j
      · subst hkj
        refine ⟨B, i, hB, hi, ?_⟩
        simp [hk] at g1
        subst g1
        rw [← c1, hb, hb']
      · simp only [List.getElem?_set, if_neg hkj] at h1 g1
        exact ⟨B1, i1, h1, g1, c1⟩
    obtain ⟨B3, i3, q1, q2, q3⟩ := back j B1 i1 h1 g1 c1
    obtain ⟨B4, i4, p1, p2, p3⟩ := back j' B2 i2 h2 g2 c2
    exact h.sim.apart j j' B3 B4 i3 i4 c q1 p1 q2 p2 q3 p3
  · refine h.frm.trans (L' := fun c => c = b) ⟨rfl, rfl, rfl, by simp [World.setRow], fun c _ hne => setRow_other w b c _ hne⟩ (fun c hc e => ?_)
    subst e
    rcases h.live c ⟨k, B, i, hB, hi, hb⟩ with hL | hL
    · exact hL
    · omega
  · rintro c ⟨j, B2, i2, h1, h2, h3⟩
    by_cases hkj : k = j
    · subst hkj
      simp [hk] at h2
      subst h2
      rw [hb'] at h3
      exact h.live c ⟨k, B, i, hB, hi, hb.trans h3⟩
    · simp only [List.getElem?_set, if_neg hkj] at h1 h2
      exact h.live c ⟨j, B2, i2, h1, h2, h3⟩

/-- Where a pointer into an own array leads. -/
theorem InvE.at_ptr (h : InvE w0 E0 H0 st a w E) {k g off : Nat} {B : ABlk} (hB : blkAt st.heap k g = some B) {v : Value} (r : RelV w E (.one (.ptr k g off)) v) :
    ∃ i b, st.heap[k]? = some (some B) ∧ B.gen = g ∧ E.β[k]? = some i ∧ BlkOk w E i B ∧ i.blk = some b ∧ v = .pointer (some ⟨b, off, none⟩) := by
  obtain ⟨hk, hg⟩ := blkAt_some hB
  obtain ⟨i, hi, hok⟩ := h.sim.blk k B hk
  obtain ⟨b, hb, hv⟩ := r.2.2 i hi (hok.1.trans hg)
  exact ⟨i, b, hk, hg, hi, hok, hb, hv⟩
/-- What a slice of an own array is. -/
theorem InvE.at_own (h : InvE w0 E0 H0 st a w E) {k g off n : Nat} {B : ABlk} (hB : blkAt st.heap k g = some B) {v : Value} (r : RelV w E (.one (.own k g off n)) v) :
    ∃ i ad cap, st.heap[k]? = some (some B) ∧ B.gen = g ∧ E.β[k]? = some i ∧ BlkOk w E i B ∧ v = .slice ad n cap ∧ n ≤ cap ∧ cap ≤ maxLen ∧ off + cap * i.size ≤ i.room ∧
      (match i.blk with
        | none => ad = none ∧ cap = 0
        | some b => 0 < cap → ad = some ⟨b, off, none⟩) := by
  obtain ⟨hk, hg⟩ := blkAt_some hB
  obtain ⟨i, hi, hok⟩ := h.sim.blk k B hk
  obtain ⟨ad, cap, hv, h1, h2, h3, h4⟩ := r.2.2 i hi (hok.1.trans hg)
  exact ⟨i, ad, cap, hk, hg, hi, hok, hv, h1, h2, h3, h4⟩

/-- Which own map a value is. -/
theorem InvE.at_map (h : InvE w0 E0 H0 st a w E) {k g : Nat} {es : List MapEntry} {c : Nat} (hB : objAt st.heap k g = some (es, c)) {v : Value} (r : RelV w E (.one (.mp k g)) v) :
    ∃ B i b, st.heap[k]? = some (some B) ∧ B.gen = g ∧ B.size = 0 ∧ B.cells = [.obj es c] ∧ E.β[k]? = some i ∧ i.blk = some b ∧ i.gen = g ∧ i.elem = 0 ∧ i.size = 0 ∧ ¬ E.I b ∧ v = .map (some b) ∧ w.heap[b]? = some (.map es.toArray c) := by
  obtain ⟨B, hk, hg, hs, hel, hc⟩ := objAt_some hB
  obtain ⟨i, hi, hok⟩ := h.sim.blk k B hk
  obtain ⟨b, hb, hv⟩ := r.2.2 i hi (hok.1.trans hg)
  obtain ⟨e1, e2, e3, e4, h5⟩ := hok
  rw [hb] at h5
  obtain ⟨hn, ⟨C, _, _, hl, hrel⟩ | ⟨_, es', c', hc', hm⟩⟩ := h5
  · have h1 := hrel.1
    rw [hc] at hrel h1
    match hC : C.take [AC.obj es c].length with
    | [] => rw [hC] at h1; simp at h1
    | u :: us =>
      rw [hC] at hrel
      exact (hrel.2 0 (.obj es c) u rfl rfl).2.elim
  · rw [hc] at hc'
    cases hc'
    exact ⟨B, i, b, hk, hg, hs, hc, hi, hb, e1.trans hg, e2.trans hel, e3.trans hs, hn, hv, hm⟩
/-- An own map turned. -/
theorem InvE.writeMap (h : InvE w0 E0 H0 st a w E) {k b : Nat} {B B' : ABlk} {i : BI} {es es' : List MapEntry} {c c' : Nat}
    (hB : st.heap[k]? = some (some B)) (hi : E.β[k]? = some i) (hb : i.blk = some b) (hnI : ¬ E.I b) (hm : w.heap[b]? = some (.map es.toArray c))
    (hg : i.gen = B'.gen) (he : i.elem = B'.elem) (hs : i.size = B'.size) (hz : B'.size = 0) (hc' : B'.cells = [.obj es' c']) :
    InvE w0 E0 H0 { st with heap := st.heap.set k (some B') } a { w with heap := w.heap.setIfInBounds b (.map es'.toArray c') } E ∧
    Env.Le w E { w with heap := w.heap.setIfInBounds b (.map es'.toArray c') } E := by
  have hlt : b < w.heap.size := (Array.getElem?_eq_some_iff.1 hm).1
  have hk : k < st.heap.length := (List.getElem?_eq_some_iff.1 hB).1
  have hother : ∀ c, c ≠ b → ({ w with heap := w.heap.setIfInBounds b (.map es'.toArray c') } : World).heap[c]? = w.heap[c]? := fun c hc => by
    simp [Array.getElem?_setIfInBounds, fun e => hc (Eq.symm e)]
    intro e; exact absurd e.symm hc
  have hle : Env.Le w E { w with heap := w.heap.setIfInBounds b (.map es'.toArray c') } E := ⟨fun c hc => ⟨hc, hother c (fun e => hnI (e ▸ hc))⟩, Nat.le_refl _, fun _ _ hj => .inl hj⟩
  have hset : ∀ (j : Nat) (B1 : ABlk), (st.heap.set k (some B'))[j]? = some (some B1) → (j = k ∧ B1 = B') ∨ (j ≠ k ∧ st.heap[j]? = some (some B1)) := fun j B1 hj => by
    rw [List.getElem?_set] at hj
    split at hj
    · rename_i e; subst e; simp [hk] at hj; exact .inl ⟨rfl, hj.symm⟩
    · rename_i e; exact .inr ⟨fun e' => e e'.symm, hj⟩
  have back : ∀ (j : Nat) (B1 : ABlk), (st.heap.set k (some B'))[j]? = some (some B1) → ∃ B2, st.heap[j]? = some (some B2) := fun j B1 hj => by
    rcases hset j B1 hj with ⟨rfl, _⟩ | ⟨_, h1⟩
    · exact ⟨B, hB⟩
    · exact ⟨B1, h1⟩
  refine ⟨⟨h.dfr, h.le.trans hle, h.clk, ⟨by simp [h.sim.len], h.sim.gens, fun c hc => by simpa using h.sim.I c hc, ?_, ?_, fun g cs hg => (h.sim.glob g cs hg).mono hle.I⟩, h.rel.mono hle, ?_, ?_, h.I0⟩, hle⟩
  · intro j B1 hj
    rcases hset j B1 hj with ⟨rfl, rfl⟩ | ⟨hne, h1⟩
    · refine ⟨i, hi, hg, he, hs, h.sim.gens _ _ hi, ?_⟩
      rw [hb]
      exact ⟨hnI, .inr ⟨hz, es', c', hc', by simp [Array.getElem?_setIfInBounds, hlt]⟩⟩
    · obtain ⟨j2, hj2, hok2⟩ := h.sim.blk j B1 h1
      exact ⟨j2, hj2, hok2.mono_same hle (fun _ _ hI => hI) (fun d hd => hother d (fun e => hne (h.sim.apart j k B1 B j2 i d h1 hB hj2 hi hd (e ▸ hb))))⟩
  · intro j j' B1 B2 i1 i2 d h1 h2 g1 g2 c1 c2
    obtain ⟨B3, q1⟩ := back j B1 h1
    obtain ⟨B4, q2⟩ := back j' B2 h2
    exact h.sim.apart j j' B3 B4 i1 i2 d q1 q2 g1 g2 c1 c2
  · refine h.frm.trans (L' := fun c => c = b) ⟨rfl, rfl, rfl, by simp, fun c _ hne => hother c hne⟩ (fun c hc e => ?_)
    subst e
    rcases h.live c ⟨k, B, i, hB, hi, hb⟩ with hL | hL
    · exact hL
    · omega
  · rintro d ⟨j, B2, i2, h1, h2, h3⟩
    obtain ⟨B3, q1⟩ := back j B2 h1
    exact h.live d ⟨j, B3, i2, q1, h2, h3⟩

theorem ok_move {x : Operand} (ho : o.op = .move x ∨ o.op = .assign x) (h : K (st.put o.dst (st.eval x))) : OpOk P o st K := by
  refine opOk_same (x := st.eval x) (fun w0 E0 H0 a w E hE => ⟨a.eval x, ?_, hE.eval x⟩) h
  rcases ho with ho | ho <;> simp [execOp, ho]

theorem ok_pick {c x y : Operand} {b : Bool} (ho : o.op = .pick c x y) (hc : st.eval c = .one (.d (.s (.bool b)))) (h : K (st.put o.dst (if b then st.eval x else st.eval y))) : OpOk P o st K := by
  refine opOk_same (x := if b then st.eval x else st.eval y) (fun w0 E0 H0 a w E hE => ?_) h
  have hcb : a.eval c = .bool b := by
    have := hE.eval c
    rw [hc] at this
    generalize a.eval c = q at this
    cases this with
    | s hs => rfl
  refine ⟨if b then a.eval x else a.eval y, by simp [execOp, ho, hcb, asBool], ?_⟩
  cases b
  · simpa using hE.eval y
  · simpa using hE.eval x

theorem run_zero {t : TypeId} {z : List AC} (hz : zeroT P t = some z) : ∃ v : Value, (∀ w, (zeroValue t).run P w = .ok v w) ∧ z = v.cells.toList.map AC.ofValue ∧ oneCells v = true := by
  unfold zeroT at hz
  split at hz
  · rename_i i hi
    split at hz
    · rename_i v hv
      split at hz
      · cases hz
        exact ⟨v, fun w => by simp [zeroValue, typeInfo, hi, hv], rfl, by assumption⟩
      · cases hz
    · cases hz
  · cases hz

theorem rel_zero {v : Value} (h1 : oneCells v = true) : RelCs w E (v.cells.toList.map AC.ofValue) v.cells.toList := by
  refine ⟨by simp, fun j c u hc hu => ?_⟩
  rw [List.getElem?_map, hu] at hc
  simp at hc; subst hc
  simp only [oneCells, List.all_eq_true] at h1
  exact ⟨h1 u (List.mem_of_getElem? hu), ofValue_rel u⟩
end
end Go.Abs
