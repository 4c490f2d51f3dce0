/-
  The abstract steps are sound: memory. No program's text.
-/
import Derived.Test.YtjalcajhmiamgaaAbs3
namespace Go.Abs
set_option linter.unusedSimpArgs false
set_option linter.unusedVariables false
set_option linter.unnecessarySimpa false
open Go

section
variable {w w' : World} {E E' : Env}

theorem RelCs.take {cs : List AC} {vs : List Value} (h : RelCs w E cs vs) (n : Nat) : RelCs w E (cs.take n) (vs.take n) :=
  ⟨by simp [h.1], fun j c v hc hv => by
    rw [List.getElem?_take] at hc hv
    split at hc
    · rename_i hj; rw [if_pos hj] at hv; exact h.2 j c v hc hv
    · cases hc⟩
theorem RelCs.drop {cs : List AC} {vs : List Value} (h : RelCs w E cs vs) (n : Nat) : RelCs w E (cs.drop n) (vs.drop n) :=
  ⟨by simp [h.1], fun j c v hc hv => by
    rw [List.getElem?_drop] at hc hv; exact h.2 _ c v hc hv⟩
theorem RelCs.append {cs ds : List AC} {vs us : List Value} (h : RelCs w E cs vs) (k : RelCs w E ds us) : RelCs w E (cs ++ ds) (vs ++ us) :=
  ⟨by simp [h.1, k.1], fun j c v hc hv => by
    rw [List.getElem?_append] at hc hv
    by_cases hj : j < cs.length
    · rw [if_pos hj] at hc; rw [if_pos (by rw [← h.1]; exact hj)] at hv; exact h.2 j c v hc hv
    · rw [if_neg hj] at hc; rw [if_neg (by rw [← h.1]; exact hj)] at hv; rw [← h.1] at hv; exact k.2 _ c v hc hv⟩
theorem RelCs.nil : RelCs w E [] [] := ⟨rfl, fun j c v hc _ => by simp at hc⟩
theorem RelCs.one {c : AC} {v : Value} (h1 : v.oneCell' = true) (h : RelC w E c v) : RelCs w E [c] [v] :=
  ⟨rfl, fun j c' v' hc hv => by
    match j with
    | 0 => simp at hc hv; subst hc; subst hv; exact ⟨h1, h⟩
    | j + 1 => simp at hc⟩
theorem RelCs.at_ {cs : List AC} {vs : List Value} (h : RelCs w E cs vs) {j : Nat} {c : AC} (hc : cs[j]? = some c) : ∃ v, vs[j]? = some v ∧ v.oneCell' = true ∧ RelC w E c v := by
  have hj : j < cs.length := (List.getElem?_eq_some_iff.1 hc).1
  have hv : j < vs.length := by rw [← h.1]; exact hj
  exact ⟨vs[j], List.getElem?_eq_getElem hv, h.2 j c _ hc (List.getElem?_eq_getElem hv)⟩

theorem splice_eq (cs : List AC) (off : Nat) (xs : List AC) (h : off + xs.length ≤ cs.length) : splice cs off xs = cs.take off ++ xs ++ cs.drop (off + xs.length) := by
  unfold splice
  split
  · rename_i x
    rw [List.set_eq_take_append_cons_drop, if_pos (by simp at h; omega)]
    simp
  · rfl
theorem length_splice (cs : List AC) (off : Nat) (xs : List AC) (h : off + xs.length ≤ cs.length) : (splice cs off xs).length = cs.length := by
  rw [splice_eq cs off xs h]; simp; omega
theorem RelCs.splice {cs ds : List AC} {vs us : List Value} (h : RelCs w E cs vs) (k : RelCs w E ds us) {off : Nat} (hl : off + ds.length ≤ cs.length) :
    RelCs w E (Abs.splice cs off ds) (vs.take off ++ us ++ vs.drop (off + us.length)) := by
  rw [splice_eq cs off ds hl, ← k.1]
  exact ((h.take off).append k).append (h.drop _)

theorem known_one {c : AC} {v : Value} (hk : c.known = true) (h : RelC w E c v) : v.oneCell' = true := by
  cases c with
  | d c => exact RelD.oneCell (c := c) h
  | own => exact h.1
  | ptr => exact h.1
  | mp => exact h.1
  | obj => exact h.elim
  | any => simp [AC.known] at hk
theorem cells_known {x : AV} {cs : List AC} {v : Value} (hc : x.cells? = some cs) (h : RelV w E x v) : RelCs w E cs v.cells.toList := by
  cases x with
  | one c =>
    simp only [AV.cells?] at hc
    split at hc
    · rename_i hk
      cases hc
      have h1 : v.oneCell' = true := known_one hk h
      have : v.cells.toList = [v] := by cases v <;> simp_all [Value.cells, Value.oneCell']
      rw [this]
      exact RelCs.one h1 h
    · cases hc
  | agg ds =>
    simp only [AV.cells?, Option.some.injEq] at hc
    subst hc
    obtain ⟨l, rfl, hr⟩ := h
    simpa [Value.cells] using hr
  | tup vs => simp [AV.cells?] at hc

theorem ofValue_rel (v : Value) : RelC w E (AC.ofValue v) v := by
  unfold AC.ofValue
  split <;> first | exact RelD.nil | exact RelD.s rfl | trivial

/-- The cells from an address on read so. -/
def Readable (w : World) (E : Env) (ad : Addr) (cs : List AC) : Prop :=
  ∃ vs : List Value, RelCs w E cs vs ∧ ∀ j v, vs[j]? = some v → w.cell? (ad.add j) = some v

theorem Readable.drop {ad : Addr} {cs : List AC} (h : Readable w E ad cs) (n : Nat) : Readable w E (ad.add n) (cs.drop n) := by
  obtain ⟨vs, hr, hc⟩ := h
  exact ⟨vs.drop n, hr.drop n, fun j v hv => by rw [List.getElem?_drop] at hv; rw [add_add]; exact hc _ _ hv⟩
theorem Readable.take {ad : Addr} {cs : List AC} (h : Readable w E ad cs) (n : Nat) : Readable w E ad (cs.take n) := by
  obtain ⟨vs, hr, hc⟩ := h
  exact ⟨vs.take n, hr.take n, fun j v hv => by
    rw [List.getElem?_take] at hv
    split at hv
    · exact hc _ _ hv
    · cases hv⟩

theorem readable_list {cs : List DC} {ad : Addr} (f : Nat → Value) (hc : ∀ j, j < cs.length → w.cell? (ad.add j) = some (f j))
    (hr : ∀ (j : Nat) (h : j < cs.length), RelD w E.I cs[j] (f j)) : Readable w E ad (cs.map .d) := by
  refine ⟨(List.range cs.length).map f, ⟨by simp, fun j c v h1 h2 => ?_⟩, fun j v h2 => ?_⟩
  · rw [List.getElem?_map] at h1 h2
    have hj : j < cs.length := by
      rcases Nat.lt_or_ge j cs.length with h | h
      · exact h
      · rw [List.getElem?_eq_none h] at h1; cases h1
    rw [List.getElem?_eq_getElem hj] at h1
    rw [List.getElem?_range hj] at h2
    simp at h1 h2
    subst h1; subst h2
    exact ⟨(hr j hj).oneCell, hr j hj⟩
  · rw [List.getElem?_map] at h2
    have hj : j < cs.length := by
      rcases Nat.lt_or_ge j cs.length with h | h
      · exact h
      · rw [List.getElem?_eq_none (by simpa using h)] at h2; cases h2
    rw [List.getElem?_range hj] at h2
    simp at h2
    subst h2
    exact hc j hj

theorem BlkOk.cells {i : BI} {B : ABlk} (h : BlkOk w E i B) (hs : B.size ≠ 0) {b : Nat} (hb : i.blk = some b) : ¬ E.I b ∧ CellsAt w E i B b := by
  obtain ⟨_, _, _, _, h5⟩ := h
  rw [hb] at h5
  obtain ⟨h1, h2 | h2⟩ := h5
  · exact ⟨h1, h2⟩
  · exact (h2.not hs).elim
theorem BlkOk.readable {i : BI} {B : ABlk} (h : BlkOk w E i B) (hs : B.size ≠ 0) {b : Nat} (hb : i.blk = some b) (off : Nat) : Readable w E ⟨b, off, none⟩ (B.cells.drop off) := by
  obtain ⟨_, C, hC, hl, hle, hr⟩ := h.cells hs hb
  refine ⟨(C.take B.cells.length).drop off, hr.drop off, fun j v hv => ?_⟩
  rw [List.getElem?_drop, List.getElem?_take] at hv
  split at hv
  · rw [add_lit, World.cell?, hC]; simpa using hv
  · cases hv
end

theorem blkAt_some {H : AHeap} {k g : Nat} {B : ABlk} (h : blkAt H k g = some B) : H[k]? = some (some B) ∧ B.gen = g := by
  unfold blkAt at h
  split at h
  · rename_i B' hB
    split at h
    · rename_i hg; cases h; exact ⟨hB, hg.1⟩
    · cases h
  · cases h
theorem blkAt_size {H : AHeap} {k g : Nat} {B : ABlk} (h : blkAt H k g = some B) : B.size ≠ 0 := by
  unfold blkAt at h
  split at h
  · split at h
    · rename_i hg; cases h; exact hg.2
    · cases h
  · cases h
theorem objAt_some {H : AHeap} {k g : Nat} {es : List MapEntry} {c : Nat} (h : objAt H k g = some (es, c)) : ∃ B, H[k]? = some (some B) ∧ B.gen = g ∧ B.size = 0 ∧ B.elem = 0 ∧ B.cells = [.obj es c] := by
  unfold objAt at h
  split at h
  · rename_i B hB
    split at h
    · rename_i hg
      split at h
      · rename_i es' c' hc; cases h; exact ⟨B, hB, hg.1, hg.2.1, hg.2.2, hc⟩
      · cases h
    · cases h
  · cases h

section
variable {P : Program}

theorem run_isAgg {t : TypeId} {b : Bool} (h : aggT P t = some b) (w : World) : (isAgg t).run P w = .ok b w := by
  unfold aggT at h
  cases hu : P.underlying t with
  | none => simp [hu] at h
  | some d =>
    simp [hu] at h
    simp only [isAgg, Sem.run_bind, run_underlying hu, Result.andThen_ok]
    cases d <;> simp_all
theorem run_sizeOf {t : TypeId} {n : Nat} (h : szOf P t = some n) (w : World) : (sizeOf t).run P w = .ok n w := by
  unfold szOf at h
  cases hi : P.info? t with
  | none => simp [hi] at h
  | some i => simp [hi] at h; subst h; simp [sizeOf, typeInfo, hi]

theorem run_loadVar {w : World} {E : Env} {t : TypeId} {agg : Bool} {n : Nat} {x : AV} {cs : List AC} {ad : Addr} (ha : aggT P t = some agg) (hn : szOf P t = some n)
    (hv : valueOf agg n cs = some x) (hr : Readable w E ad cs) : ∃ v, (loadVar t ad).run P w = .ok v w ∧ RelV w E x v := by
  obtain ⟨vs, hrel, hc⟩ := hr
  unfold valueOf at hv
  simp only [loadVar, Sem.run_bind, run_isAgg ha, Result.andThen_ok]
  cases agg with
  | true =>
    simp only [if_true] at hv ⊢
    split at hv
    · rename_i hle
      cases hv
      have h1 := hrel.take n
      have hl : (vs.take n).length = n := by rw [← h1.1]; simp; omega
      have hld := run_loadCells_list (P := P) w ad (vs.take n) (fun j v hj => by
        rw [List.getElem?_take] at hj
        split at hj
        · exact hc _ _ hj
        · cases hj)
      rw [hl] at hld
      refine ⟨.agg (vs.take n).toArray, ?_, ⟨_, rfl, h1⟩⟩
      simp [run_sizeOf hn, hld]
    · cases hv
  | false =>
    simp only [Bool.false_eq_true, if_false] at hv ⊢
    cases cs with
    | nil => simp at hv
    | cons c cs =>
      simp at hv; subst hv
      obtain ⟨v, hv, _, hrc⟩ := hrel.at_ (j := 0) (c := c) rfl
      have := hc 0 v hv
      have h0 : ad.add 0 = ad := by unfold Addr.add; simp
      rw [h0] at this
      exact ⟨v, by simp [this], hrc⟩
end
end Go.Abs
