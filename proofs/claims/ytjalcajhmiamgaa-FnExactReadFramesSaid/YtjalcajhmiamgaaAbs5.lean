/-
  The abstract steps are sound: the states. No program's text.
-/
import Derived.Test.YtjalcajhmiamgaaAbs4
namespace Go.Abs
set_option linter.unusedSimpArgs false
set_option linter.unusedVariables false
set_option linter.unnecessarySimpa false
open Go

section
variable {P : Program} {w0 w : World} {E0 E : Env} {H0 : AHeap} {st : ASt} {a : Act} {o : Oper} {K : ASt → Prop}

theorem RelVs.set {xs : List AV} {vs : List Value} (h : RelVs w E xs vs) (d : Nat) {x : AV} {v : Value} (r : RelV w E x v) : RelVs w E (xs.set d x) (vs.set d v) :=
  ⟨by simp [h.1], fun j y u hy hu => by
    rw [List.getElem?_set] at hy hu
    by_cases hj : d = j
    · subst hj
      rw [if_pos rfl] at hy hu
      split at hy
      · rename_i hl
        rw [if_pos (by rw [← h.1]; exact hl)] at hu
        cases hy; cases hu; exact r
      · cases hy
    · rw [if_neg hj] at hy hu; exact h.2 j y u hy hu⟩
theorem RelVs.mono {w' : World} {E' : Env} (h : Env.Le w E w' E') {xs : List AV} {vs : List Value} (r : RelVs w E xs vs) : RelVs w' E' xs vs :=
  ⟨r.1, fun j x v hx hv => (r.2 j x v hx hv).mono h⟩

theorem InvE.put (h : InvE w0 E0 H0 st a w E) (dst : Option Tmp) {x : AV} {v : Value} (r : RelV w E x v) : InvE w0 E0 H0 (st.put dst x) (a.put dst v) w E := by
  cases dst with
  | none => exact h
  | some d =>
    exact ⟨h.dfr, h.le, h.clk, h.sim, by simpa [ASt.put, Act.put] using h.rel.set d r, h.frm, h.live, h.I0⟩

theorem rel_unknown (v : Value) : RelV w E unknown v := trivial

theorem InvE.eval (h : InvE w0 E0 H0 st a w E) (x : Operand) : RelV w E (st.eval x) (a.eval x) := by
  cases x with
  | tmp t =>
    simp only [ASt.eval, Act.eval]
    by_cases ht : t < st.tmps.length
    · have ht' : t < a.tmps.size := by have h1 := h.rel.1; rw [Array.length_toList] at h1; exact h1 ▸ ht
      rw [List.getD_eq_getElem?_getD, List.getElem?_eq_getElem ht]
      refine h.rel.2 t _ _ (List.getElem?_eq_getElem ht) ?_
      simp [Array.getD, ht']
    · rw [List.getD_eq_getElem?_getD, List.getElem?_eq_none (Nat.le_of_not_lt ht)]
      exact rel_unknown _
  | const v => exact ofValue_rel v
  | global g =>
    simp only [ASt.eval, Act.eval]
    cases hg : globT g with
    | some cs => exact h.sim.glob g cs hg
    | none => exact rel_unknown _
  | func f => exact rel_unknown _

theorem le_drew (w : World) (E : Env) : Env.Le w E w.drew E := ⟨fun _ h => ⟨h, rfl⟩, Nat.le_refl _, fun _ _ h => .inl h⟩
theorem BlkOk.mono_same {w' : World} {E' : Env} {i : BI} {B : ABlk} (hle : Env.Le w E w' E') (hI : ∀ b, i.blk = some b → E'.I b → E.I b) (hh : ∀ b, i.blk = some b → w'.heap[b]? = w.heap[b]?) (h : BlkOk w E i B) : BlkOk w' E' i B := by
  obtain ⟨h1, h2, h3, h4, h5⟩ := h
  refine ⟨h1, h2, h3, Nat.lt_of_lt_of_le h4 hle.clk, ?_⟩
  cases hb : i.blk with
  | none => rw [hb] at h5; exact h5
  | some b =>
    rw [hb] at h5
    obtain ⟨hn, ⟨C, hC, hl, hlc, hrel⟩ | hm⟩ := h5
    · exact ⟨fun hi => hn (hI b hb hi), .inl ⟨C, by rw [hh b hb]; exact hC, hl, hlc, hrel.mono hle⟩⟩
    · exact ⟨fun hi => hn (hI b hb hi), .inr (hm.same (hh b hb))⟩
theorem BlkOk.lt {i : BI} {B : ABlk} (h : BlkOk w E i B) {b : Nat} (hb : i.blk = some b) : b < w.heap.size := by
  obtain ⟨_, _, _, _, h5⟩ := h
  rw [hb] at h5
  obtain ⟨_, ⟨C, hC, _⟩ | ⟨_, es, c, _, hm⟩⟩ := h5
  · exact (Array.getElem?_eq_some_iff.1 hC).1
  · exact (Array.getElem?_eq_some_iff.1 hm).1
theorem SimH.drew {H : AHeap} (h : SimH w E H) : SimH w.drew E H :=
  ⟨h.len, h.gens, h.I, fun k B hB => let ⟨i, hi, hok⟩ := h.blk k B hB; ⟨i, hi, hok.mono_same (le_drew w E) (fun _ _ hI => hI) (fun _ _ => rfl)⟩, h.apart, fun g cs hg => (h.glob g cs hg).mono (le_drew w E).I⟩
theorem InvE.drew (h : InvE w0 E0 H0 st a w E) : InvE w0 E0 H0 st a w.drew E :=
  ⟨h.dfr, h.le.trans (le_drew w E), h.clk, h.sim.drew, h.rel.mono (le_drew w E), h.frm.drew, h.live, h.I0⟩
theorem alloc_old (w : World) (o : Obj) (b : Nat) (hb : b < w.heap.size) : (w.alloc o).heap[b]? = w.heap[b]? := RowKit.Below.heap_alloc w o b hb

/-- The step yields a value and changes nothing. -/
theorem opOk_value (h : ∀ w0 E0 H0 a w E, InvE w0 E0 H0 st a w E → ∃ v w' x st1 E', (execOp a.eval o).run P w = .ok (.value v) w' ∧ InvE w0 E0 H0 st1 a w' E' ∧ RelV w' E' x v ∧ K (st1.put o.dst x)) : OpOk P o st K := by
  intro w0 E0 H0 a w ⟨E, hE⟩ N Q hN
  obtain ⟨v, w', x, st1, E', hrun, hE', hx, hK⟩ := h w0 E0 H0 a w E hE
  unfold Oper.wp
  rw [hrun]
  exact hN _ _ _ hK ⟨E', hE'.put _ hx⟩
theorem opOk_skip (h : ∀ w0 E0 H0 a w E, InvE w0 E0 H0 st a w E → ∃ w' st1 E', (execOp a.eval o).run P w = .ok .skip w' ∧ InvE w0 E0 H0 st1 a w' E' ∧ K (st1.put o.dst unknown)) : OpOk P o st K := by
  intro w0 E0 H0 a w ⟨E, hE⟩ N Q hN
  obtain ⟨w', st1, E', hrun, hE', hK⟩ := h w0 E0 H0 a w E hE
  unfold Oper.wp
  rw [hrun]
  exact hN _ _ _ hK ⟨E', hE'.put _ (rel_unknown _)⟩
/-- A value, in the very same world. -/
theorem opOk_same {x : AV} (h : ∀ w0 E0 H0 a w E, InvE w0 E0 H0 st a w E → ∃ v, (execOp a.eval o).run P w = .ok (.value v) w ∧ RelV w E x v) (hK : K (st.put o.dst x)) : OpOk P o st K :=
  opOk_value fun w0 E0 H0 a w E hE => let ⟨v, h1, h2⟩ := h w0 E0 H0 a w E hE; ⟨v, w, x, st, E, h1, hE, h2, hK⟩

/-! A new block -/
theorem getElem?_snoc {α : Type} {l : List α} {x y : α} {k : Nat} (h : (l ++ [x])[k]? = some y) : l[k]? = some y ∨ (k = l.length ∧ y = x) := by
  rw [List.getElem?_append] at h
  split at h
  · exact .inl h
  · rename_i hk
    match hd : k - l.length with
    | 0 => rw [hd] at h; simp at h; exact .inr ⟨by omega, h.symm⟩
    | j + 1 => rw [hd] at h; simp at h

def Env.snoc (E : Env) (i : BI) : Env := ⟨E.I, E.β ++ [i], E.clk + 1⟩

theorem le_snoc (w : World) (E : Env) (i : BI) (hg : i.gen = E.clk) (o : Obj) (hI : ∀ b, E.I b → b < w.heap.size) : Env.Le w E (w.alloc o) (E.snoc i) :=
  ⟨fun b hb => ⟨hb, alloc_old w o b (hI b hb)⟩, Nat.le_succ _, fun k i' hi => by
    rcases getElem?_snoc hi with h | ⟨_, rfl⟩
    · exact .inl h
    · exact .inr (by omega)⟩

theorem InvE.allocO (h : InvE w0 E0 H0 st a w E) (e : TypeId) (n r : Nat) {cs : List AC} (o : Obj)
    (hat : ∀ E', Env.Le w E (w.alloc o) E' → CellsAt (w.alloc o) E' ⟨E.clk, some w.heap.size, e, n, r⟩ ⟨st.clk, e, n, cs⟩ w.heap.size ∨ MapAt (w.alloc o) ⟨st.clk, e, n, cs⟩ w.heap.size) :
    InvE w0 E0 H0 { st with heap := st.heap ++ [some ⟨st.clk, e, n, cs⟩], clk := st.clk + 1 } a (w.alloc o) (E.snoc ⟨E.clk, some w.heap.size, e, n, r⟩) ∧
    Env.Le w E (w.alloc o) (E.snoc ⟨E.clk, some w.heap.size, e, n, r⟩) := by
  have hle := le_snoc w E ⟨E.clk, some w.heap.size, e, n, r⟩ rfl o h.sim.I
  refine ⟨⟨h.dfr, h.le.trans hle, by simp [Env.snoc, h.clk], ⟨?_, ?_, ?_, ?_, ?_, fun g cs hg => (h.sim.glob g cs hg).mono hle.I⟩, h.rel.mono hle, ?_, ?_, h.I0⟩, hle⟩
  · simp [Env.snoc, h.sim.len]
  · intro k i hi
    rcases getElem?_snoc hi with hh | ⟨_, rfl⟩
    · exact Nat.lt_succ_of_lt (h.sim.gens k i hh)
    · exact Nat.lt_succ_self _
  · intro b hb
    have := h.sim.I b hb
    simp; omega
  · intro k B hB
    rcases getElem?_snoc hB with hh | ⟨rfl, heq⟩
    · obtain ⟨i, hi, hok⟩ := h.sim.blk k B hh
      have hk : k < E.β.length := (List.getElem?_eq_some_iff.1 hi).1
      exact ⟨i, by simp only [Env.snoc]; rw [List.getElem?_append_left hk]; exact hi, hok.mono_same hle (fun _ _ hI => hI) (fun b hb => alloc_old w _ b (hok.lt hb))⟩
    · simp only [Option.some.injEq] at heq
      subst heq
      refine ⟨⟨E.clk, some w.heap.size, e, n, r⟩, ?_, h.clk, rfl, rfl, Nat.lt_succ_self _, ?_⟩
      · simp only [Env.snoc]
        rw [List.getElem?_append_right (by rw [h.sim.len]; exact Nat.le_refl _), ← h.sim.len]
        simp
      · exact ⟨fun hI => Nat.lt_irrefl _ (h.sim.I _ hI), hat _ hle⟩
  · intro k k' B B' i i' b hB hB' hi hi' hb hb'
    have old : ∀ (k : Nat) (B : ABlk) (i : BI), st.heap[k]? = some (some B) → E.β[k]? = some i → i.blk = some b → b < w.heap.size := fun k B i hB hi hb => by
      obtain ⟨i2, hi2, hok⟩ := h.sim.blk k B hB
      rw [hi] at hi2; cases hi2
      exact hok.lt hb
    have hlen := h.sim.len
    rcases getElem?_snoc hB with h1 | ⟨e1, _⟩ <;> rcases getElem?_snoc hB' with h2 | ⟨e2, _⟩
    · have k1 : k < E.β.length := by rw [hlen]; exact (List.getElem?_eq_some_iff.1 h1).1
      have k2 : k' < E.β.length := by rw [hlen]; exact (List.getElem?_eq_some_iff.1 h2).1
      simp only [Env.snoc] at hi hi'
      rw [List.getElem?_append_left k1] at hi
      rw [List.getElem?_append_left k2] at hi'
      exact h.sim.apart k k' B B' i i' b h1 h2 hi hi' hb hb'
    · have k1 : k < E.β.length := by rw [hlen]; exact (List.getElem?_eq_some_iff.1 h1).1
      simp only [Env.snoc] at hi hi'
      rw [List.getElem?_append_left k1] at hi
      have hlt := old k B i h1 hi hb
      rw [e2, ← hlen, List.getElem?_append_right (Nat.le_refl _)] at hi'
      simp at hi'; subst hi'; simp at hb'; omega
    · have k2 : k' < E.β.length := by rw [hlen]; exact (List.getElem?_eq_some_iff.1 h2).1
      simp only [Env.snoc] at hi hi'
      rw [List.getElem?_append_left k2] at hi'
      have hlt := old k' B' i' h2 hi' hb'
      rw [e1, ← hlen, List.getElem?_append_right (Nat.le_refl _)] at hi
      simp at hi; subst hi; simp at hb; omega
    · omega
  · refine h.frm.trans (L' := fun _ => False) ⟨rfl, rfl, rfl, by simp, fun b hb _ => alloc_old w _ b hb⟩ (fun _ _ hf => hf.elim)
  · rintro b ⟨k, B, i, hB, hi, hb⟩
    rcases getElem?_snoc hB with h1 | ⟨e1, _⟩
    · have k1 : k < E.β.length := by rw [h.sim.len]; exact (List.getElem?_eq_some_iff.1 h1).1
      simp only [Env.snoc] at hi
      rw [List.getElem?_append_left k1] at hi
      exact h.live b ⟨k, B, i, h1, hi, hb⟩
    · simp only [Env.snoc] at hi
      rw [e1, ← h.sim.len, List.getElem?_append_right (Nat.le_refl _)] at hi
      simp at hi; subst hi; simp at hb; subst hb
      exact .inr h.frm.size

theorem InvE.alloc (h : InvE w0 E0 H0 st a w E) (e : TypeId) (n : Nat) {cs : List AC} {vs : List Value} (us : List Value) (hr : RelCs w E cs vs) :
    InvE w0 E0 H0 { st with heap := st.heap ++ [some ⟨st.clk, e, n, cs⟩], clk := st.clk + 1 } a (w.alloc (.cells (vs ++ us).toArray e)) (E.snoc ⟨E.clk, some w.heap.size, e, n, (vs ++ us).length⟩) ∧
    Env.Le w E (w.alloc (.cells (vs ++ us).toArray e)) (E.snoc ⟨E.clk, some w.heap.size, e, n, (vs ++ us).length⟩) := by
  refine h.allocO e n (vs ++ us).length (.cells (vs ++ us).toArray e) fun E' hle => .inl ⟨vs ++ us, heap_alloc_new w _, rfl, by have := hr.1; simp; omega, ?_⟩
  have : (vs ++ us).take cs.length = vs := by rw [hr.1]; simp
  rw [this]
  exact hr.mono hle
theorem InvE.allocMap (h : InvE w0 E0 H0 st a w E) :
    InvE w0 E0 H0 { st with heap := st.heap ++ [some ⟨st.clk, 0, 0, [.obj [] 0]⟩], clk := st.clk + 1 } a (w.alloc (.map #[] 0)) (E.snoc ⟨E.clk, some w.heap.size, 0, 0, 0⟩) ∧
    Env.Le w E (w.alloc (.map #[] 0)) (E.snoc ⟨E.clk, some w.heap.size, 0, 0, 0⟩) :=
  h.allocO 0 0 0 (.map #[] 0) fun E' hle => .inr ⟨rfl, [], 0, rfl, heap_alloc_new w _⟩

/-- The pointer to the new block; the slice over it. -/
theorem rel_new_ptr (h : InvE w0 E0 H0 st a w E) (e : TypeId) (n r : Nat) (o : Obj) : RelV (w.alloc o) (E.snoc ⟨E.clk, some w.heap.size, e, n, r⟩) (.one (.ptr st.heap.length st.clk 0)) (.pointer (some ⟨w.heap.size, 0, none⟩)) := by
  refine ⟨rfl, by simp [Env.snoc, h.clk], fun i hi _ => ?_⟩
  simp only [Env.snoc] at hi
  rw [← h.sim.len, List.getElem?_append_right (Nat.le_refl _)] at hi
  simp at hi; subst hi
  exact ⟨_, rfl, rfl⟩
theorem rel_new_map (h : InvE w0 E0 H0 st a w E) (o : Obj) : RelV (w.alloc o) (E.snoc ⟨E.clk, some w.heap.size, 0, 0, 0⟩) (.one (.mp st.heap.length st.clk)) (.map (some w.heap.size)) := by
  refine ⟨rfl, by simp [Env.snoc, h.clk], fun i hi _ => ?_⟩
  simp only [Env.snoc] at hi
  rw [← h.sim.len, List.getElem?_append_right (Nat.le_refl _)] at hi
  simp at hi; subst hi
  exact ⟨_, rfl, rfl⟩
theorem rel_new_own (h : InvE w0 E0 H0 st a w E) (e : TypeId) (n r len cap : Nat) (o : Obj) (h1 : len ≤ cap) (h2 : cap ≤ maxLen) (h3 : cap * n ≤ r) :
    RelV (w.alloc o) (E.snoc ⟨E.clk, some w.heap.size, e, n, r⟩) (.one (.own st.heap.length st.clk 0 len)) (.slice (some ⟨w.heap.size, 0, none⟩) len cap) := by
  refine ⟨rfl, by simp [Env.snoc, h.clk], fun i hi _ => ?_⟩
  simp only [Env.snoc] at hi
  rw [← h.sim.len, List.getElem?_append_right (Nat.le_refl _)] at hi
  simp at hi; subst hi
  exact ⟨_, _, rfl, h1, h2, by simpa using h3, fun _ => rfl⟩
end
end Go.Abs
