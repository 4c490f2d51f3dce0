/-
  Sorting own arrays of rows. No program's text.
-/
import Derived.Test.YtiogdfliailenaaK7
import Derived.Shelf.SlSortCmp.WholeK
namespace Go.Abs
set_option linter.unusedSimpArgs false
set_option linter.unusedVariables false
set_option linter.unnecessarySimpa false
open Go Go.Sort Go.Proofs

section
variable {α : Type} [Row α] {enc : α → List Value}
theorem rcs_scells (henc : ∀ a, Row.dcs a = (enc a).map .s) (l : List α) : rcs l = scells (l.flatMap enc) := by
  induction l with
  | nil => rfl
  | cons a l ih => rw [rcs_cons, ih, henc]; simp [scells]
theorem enc_len (henc : ∀ a, Row.dcs a = (enc a).map .s) (a : α) : (enc a).length = Row.w α := by
  have := Row.len a; rw [henc, List.length_map] at this; exact this
theorem flat_len (henc : ∀ a, Row.dcs a = (enc a).map .s) (l : List α) : (l.flatMap enc).length = l.length * Row.w α := by
  have := rcs_length l; rw [rcs_scells henc] at this; simpa [scells] using this
end
theorem flat_drop {α : Type} {enc : α → List Value} {k : Nat} (hk : ∀ a, (enc a).length = k) : ∀ (l : List α) (i : Nat), (l.flatMap enc).drop (i * k) = (l.drop i).flatMap enc
  | [], i => by simp
  | a :: l, 0 => by simp
  | a :: l, i + 1 => by
    rw [List.flatMap_cons, List.drop_succ_cons, ← flat_drop hk l i, Nat.succ_mul, List.drop_append, hk, List.drop_eq_nil_of_le (by rw [hk]; omega), List.nil_append]
    congr 1; omega
/-- The row, flat. -/
theorem flatK_eq {α : Type} [Inhabited α] {enc : α → List Value} {k : Nat} (hk : ∀ a, (enc a).length = k) (h0 : 0 < k) (l : List α) : flatK enc k l.toArray = (l.flatMap enc).toArray := by
  have hlen : (l.flatMap enc).length = l.length * k := by
    induction l with
    | nil => simp
    | cons a l ih => rw [List.flatMap_cons, List.length_append, hk, ih, List.length_cons, Nat.succ_mul]; omega
  refine ext_get! (by simp [hlen]) fun t ht => ?_
  have ht' : t < l.length * k := by simpa using ht
  rw [get_flatK _ _ _ _ (by simpa using ht')]
  have hi : t / k < l.length := Nat.div_lt_of_lt_mul (by rwa [Nat.mul_comm])
  have hm : t % k < k := Nat.mod_lt _ h0
  have hd : (l.flatMap enc).drop (t / k * k) = (l.drop (t / k)).flatMap enc := flat_drop hk l _
  rw [List.drop_eq_getElem_cons hi, List.flatMap_cons] at hd
  have he : t = t / k * k + t % k := by have := Nat.div_add_mod t k; rw [Nat.mul_comm] at this; omega
  have h1 : (l.flatMap enc)[t]? = (enc l[t / k])[t % k]? := by
    have : (l.flatMap enc)[t]? = ((l.flatMap enc).drop (t / k * k))[t % k]? := by rw [List.getElem?_drop, ← he]
    rw [this, hd, List.getElem?_append_left (by rw [hk]; exact hm)]
  have h2 : (enc l[t / k])[t % k]? = some (enc l[t / k])[t % k]! := by rw [List.getElem!_eq_getElem?_getD, List.getElem?_eq_getElem (by rw [hk]; exact hm)]; rfl
  have h3 : (l.toArray)[t / k]! = l[t / k] := by simp [hi]
  rw [h3]
  rw [h2] at h1
  simp [h1]
theorem scells_rel {w : World} {E : Env} {F us : List Value} (h : RelCs w E (scells F) us) : us = F := by
  refine List.ext_getElem? fun j => ?_
  have hl : F.length = us.length := by have := h.1; simpa [scells] using this
  by_cases hj : j < F.length
  · have h1 : (scells F)[j]? = some (.d (.s F[j])) := by simp [scells, hj]
    have h2 := h.2 j _ us[j] h1 (List.getElem?_eq_getElem (by omega))
    have h3 : RelD w E.I (.s F[j]) us[j] := h2.2
    rw [List.getElem?_eq_getElem (by omega), List.getElem?_eq_getElem hj]
    congr 1
    generalize us[j] = u at h3
    generalize F[j] = f at h3
    cases h3; rfl
  · rw [List.getElem?_eq_none (by omega), List.getElem?_eq_none (by omega)]
theorem rel_scells {w : World} {E : Env} {F : List Value} (h : ∀ v ∈ F, Scalar v = true) : RelCs w E (scells F) F := by
  refine ⟨by simp [scells], fun j c v hc hv => ?_⟩
  have hj := (List.getElem?_eq_some_iff.1 hv).1
  simp only [scells, List.getElem?_map, hv, Option.map_some, Option.some.injEq] at hc
  subst hc
  exact ⟨Scalar.oneCell (h v (List.mem_of_getElem? hv)), .s (h v (List.mem_of_getElem? hv))⟩
theorem putCells_list (F C : List Value) (h : F.length ≤ C.length) : putCells id 0 F.toArray C.toArray = (F ++ C.drop F.length).toArray := by
  apply Array.ext_getElem?
  intro t
  simp only [putCells, Array.getElem?_mapIdx, List.getElem?_toArray, List.size_toArray, Nat.zero_le, true_and, Nat.zero_add, Nat.sub_zero, id]
  by_cases ht : t < F.length
  · rw [List.getElem?_append_left ht, List.getElem?_eq_getElem (by omega), List.getElem?_eq_getElem ht]
    simp [ht]
  · rw [List.getElem?_append_right (by omega), List.getElem?_drop, show F.length + (t - F.length) = t by omega]
    cases C[t]? with
    | none => rfl
    | some x => simp [ht]
/-- A world behind a sort's. -/
theorem grown_of_frm {w w' : World} {L : Nat → Prop} (hL : ∀ b, ¬ L b) (h : Frm w L w') : ∃ q os, w' = grow (w.drewN q) os := by
  refine ⟨w'.drawn - w.drawn, w'.heap.extract w.heap.size w'.heap.size, ?_⟩
  have hd := h.output.drawn
  have hh : w'.heap = w.heap ++ w'.heap.extract w.heap.size w'.heap.size := by
    apply Array.ext_getElem?
    intro b
    have hs := h.size
    by_cases hb : b < w.heap.size
    · rw [Array.getElem?_append_left hb, h.block b hb (hL b)]
    · rw [Array.getElem?_append_right (by omega), Array.getElem?_extract]
      by_cases hb2 : b < w'.heap.size
      · rw [if_pos (by omega), show w.heap.size + (b - w.heap.size) = b by omega]
      · rw [if_neg (by omega), Array.getElem?_eq_none (by omega)]
  obtain ⟨heap', tape', drawn', os', output'⟩ := w'
  simp only [grow, World.drewN]
  have e1 := h.os; have e2 := h.tape; have e3 := h.output.out
  simp only at e1 e2 e3 hh hd
  subst e1; subst e2; subst e3
  rw [World.mk.injEq]
  exact ⟨hh, rfl, by omega, rfl, rfl⟩
theorem heap_sortWorld {α : Type} [Inhabited α] (enc : α → List Value) (k : Nat) (w : World) (b m : Nat) (d : Array α) (os : Array Obj) (q : Nat) (hq : q < w.heap.size) (hne : q ≠ b) : (sortWorldK enc k w b 0 m d os).heap[q]? = w.heap[q]? := by
  unfold sortWorldK
  rw [heap_grow_old _ _ (by simpa [putRowK, Sort.ahead] using hq)]
  simp [putRowK, putRow, mapBlock, Sort.ahead, Array.getElem?_modify, Ne.symm hne]
theorem sort_rcall {P : Program} {ρ : Shelf.Ren} {α : Type} [Inhabited α] [Row α] (L : SlLaysF0.n6 P ρ) (enc : α → List Value) (henc : ∀ a, Row.dcs a = (enc a).map .s) (hsc : ∀ a, ∀ v ∈ enc a, Scalar v = true)
    (aE : ∀ w, (isAgg (ρ.t 24)).run P w = .ok true w) (zE : ∀ w, (Go.sizeOf (ρ.t 24)).run P w = .ok (Row.w α) w) (cf : α → α → Int) (hO : SWO (ltOf cf)) (g : FuncId) (eg : callable P g = true)
    (hcmp : ∀ x y, FCall P g [.agg (scells (enc x)), .agg (scells (enc y))] fun r H => r = iv .i64 (cf x y) ∧ H = []) (l : List α) (hne : l ≠ []) (hl : l.length ≤ 1048576) (gen : Nat) (e : TypeId) :
    RCall P (ρ.f 6) [.one (.own 0 gen 0 l.length), .one (.d (.fn g []))] ⟨gen, e, Row.w α, rcs l⟩ fun r B Hn => ∃ d : List α, d.Perm l ∧ (∀ (i j : Nat) (x y : α), i < j → d[i]? = some x → d[j]? = some y → ¬ cf y x < 0) ∧ r = .tup [] ∧ B = ⟨gen, e, Row.w α, rcs d⟩ ∧ Hn = [] := by
  intro clk w E vals hclk hsim hrel
  obtain ⟨hlen, hat⟩ := hrel
  match vals, hlen with
  | [v0, v1], _ =>
  have hk0 : 0 < Row.w α := Row.pos
  have hv0 : RelC w E (.own 0 gen 0 l.length) v0 := hat 0 _ v0 rfl rfl
  have hv1 : RelD w E.I (.fn g []) v1 := hat 1 _ v1 rfl rfl
  obtain ⟨i, hi, hg1, hg2, hg3, hg4, h5⟩ := hsim.blk 0 _ rfl
  obtain ⟨_, _, h3⟩ := hv0
  obtain ⟨a, cap, rfl, hcap, hmax, hroom, hblk⟩ := h3 i hi hg1
  have hlpos : 0 < l.length := List.length_pos_iff.2 hne
  cases hb : i.blk with
  | none =>
    rw [hb] at h5
    have h6 := rcs_length l
    have h7 : rcs l = [] := h5.1
    rw [h7] at h6
    have h8 := Nat.mul_pos hlpos hk0
    simp at h6; omega
  | some b =>
  rw [hb] at h5 hblk
  have ha := hblk (by omega)
  subst ha
  obtain ⟨hnI, hcells | hm⟩ := h5
  rotate_left
  · have := hm.1; simp at this; omega
  obtain ⟨C, hC, hCl, hBl, hrelC⟩ := hcells
  have hF : rcs l = scells (l.flatMap enc) := rcs_scells henc l
  have hk := enc_len henc
  simp only [hF] at hBl hrelC
  have hFl : (l.flatMap enc).length = l.length * Row.w α := flat_len henc l
  have hsl : (scells (l.flatMap enc)).length = l.length * Row.w α := by simp [scells, hFl]
  rw [hsl] at hrelC hBl
  have hCF : C.take (l.length * Row.w α) = l.flatMap enc := scells_rel hrelC
  cases hv1 with
  | fn lbf hlb =>
  have hblt : b < w.heap.size := (Array.getElem?_eq_some_iff.1 hC).1
  have hH : HoldsK enc (Row.w α) w b 0 l.toArray := by
    intro j hj
    rw [flatK_eq hk hk0] at hj ⊢
    have hj' : j < l.length * Row.w α := by simpa [hFl] using hj
    have hCj : C[j]? = (l.flatMap enc)[j]? := by rw [← hCF, List.getElem?_take, if_pos hj']
    constructor
    · simp only [World.cell?, hC, Option.isSome_none, Bool.false_eq_true, if_false, List.getElem?_toArray, Nat.zero_add, hCj]
      rw [List.getElem?_eq_getElem (by omega)]
      simp [hFl, hj']
    · simp [World.frozen?, hC]
  have hcl : CmpLays P g #[] enc (Row.w α) cf b 0 l.toArray.size w := by
    intro m os dk hs x y
    have same : ∀ q, E.I q → (sortWorldK enc (Row.w α) w b 0 m dk os).heap[q]? = w.heap[q]? := fun q hq => heap_sortWorld _ _ _ _ _ _ _ _ (hsim.I q hq) (fun e => hnI (e ▸ hq))
    have hsz : w.heap.size ≤ (sortWorldK enc (Row.w α) w b 0 m dk os).heap.size := by simp [sortWorldK, putRowK, Sort.ahead]
    have hs1 : SimH (sortWorldK enc (Row.w α) w b 0 m dk os) ⟨E.I, [], 0⟩ [] := ⟨rfl, fun k i h => by simp at h, fun q hq => Nat.lt_of_lt_of_le (hsim.I q hq) hsz, fun k B h => by simp at h, fun k k' B B' i i' b h => by simp at h,
      fun q cs hq => (hsim.glob q cs hq).mono fun z hz => ⟨hz, same z hz⟩⟩
    have hagg : ∀ z : α, RelV (sortWorldK enc (Row.w α) w b 0 m dk os) ⟨E.I, [], 0⟩ (.agg (scells (enc z))) (.agg (enc z).toArray) := fun z => ⟨enc z, rfl, rel_scells (hsc z)⟩
    refine (hcmp x y 0 (sortWorldK enc (Row.w α) w b 0 m dk os) ⟨E.I, [], 0⟩ [.agg (enc x).toArray, .agg (enc y).toArray] rfl hs1 ⟨rfl, fun j z v hz hv => ?_⟩).mono ?_
    · match j with
      | 0 => simp at hz hv; subst hz; subst hv; exact hagg x
      | 1 => simp at hz hv; subst hz; subst hv; exact hagg y
      | j + 2 => simp at hz
    · rintro en w' ⟨v, r, H', E', rfl, _, _, hr, hfrm, _, _, _, _, rfl, _⟩
      have hv : v = .int .i64 (cf x y) := by
        have hr' : RelD w' E'.I (.s (.int .i64 (cf x y))) v := hr
        cases hr'; rfl
      subst hv
      exact ⟨rfl, grown_of_frm (fun q ⟨k, B, i, h, _⟩ => by simp at h) hfrm⟩
  have heg : ∀ args w, (callFunc g args).run P w = .ok (.enter g args) w := fun args w => run_callFunc eg args
  have hsort := AnyQ.slices_SortFunc (P := P) (ρ := ρ) L (Row.w α) aE zE enc hk (fun x v hv => Scalar.oneCell (hsc x v hv)) cf hO g #[] b 0 cap l.toArray w heg hcl hH hblt (by simp; omega)
  have hargs : [Value.slice (some ⟨b, 0, none⟩) l.length cap, .func (.func g) #[] ((List.range 0).map lbf).toArray].toArray = #[.slice (some ⟨b, 0, none⟩) l.toArray.size cap, .func (.func g) #[] #[]] := by simp
  rw [show ([] : List DC).length = 0 from rfl, hargs]
  refine hsort.mono ?_
  rintro en w' ⟨rfl, d', n, os, hperm, hsorted, rfl⟩
  have hds : d'.size = l.length := by have := hperm.1; simpa using this
  have hpl : d'.toList.Perm l := by
    have := hperm.2.2
    rw [Array.extract_eq_self_of_le (by simp [hds]), Array.extract_eq_self_of_le (by simp)] at this
    simpa using this
  have hFd : flatK enc (Row.w α) d' = (d'.toList.flatMap enc).toArray := by have := flatK_eq hk hk0 d'.toList; simpa using this
  have hFdl : (d'.toList.flatMap enc).length = l.length * Row.w α := by rw [flat_len henc]; simp [hds]
  have hheap : (sortWorldK enc (Row.w α) w b 0 n d' os).heap[b]? = some (.cells (d'.toList.flatMap enc ++ C.drop (l.length * Row.w α)).toArray i.elem (0, 0)) := by
    unfold sortWorldK
    rw [heap_grow_old _ _ (by simpa [putRowK, Sort.ahead] using hblt)]
    simp only [putRowK, putRow, mapBlock, Sort.ahead, Array.getElem?_modify, if_true, hC, Option.map_some, onCells, hFd]
    rw [putCells_list _ _ (by rw [hFdl]; omega), hFdl]
  have same : ∀ q, q < w.heap.size → q ≠ b → (sortWorldK enc (Row.w α) w b 0 n d' os).heap[q]? = w.heap[q]? := fun q hq hne => heap_sortWorld _ _ _ _ _ _ _ _ hq hne
  have hsz : w.heap.size ≤ (sortWorldK enc (Row.w α) w b 0 n d' os).heap.size := by simp [sortWorldK, putRowK, Sort.ahead]
  have hle : Env.Le w E (sortWorldK enc (Row.w α) w b 0 n d' os) E := ⟨fun q hq => ⟨hq, same q (hsim.I q hq) (fun e => hnI (e ▸ hq))⟩, Nat.le_refl _, fun _ _ h => .inl h⟩
  have hscd : ∀ v ∈ d'.toList.flatMap enc, Scalar v = true := fun v hv => by obtain ⟨x, _, hx⟩ := List.mem_flatMap.1 hv; exact hsc x v hx
  have hlive : ∀ q, LiveB E [some ⟨gen, e, Row.w α, rcs d'.toList⟩] q → LiveB E [some ⟨gen, e, Row.w α, rcs l⟩] q := by
    rintro q ⟨k, B, i', h1, h2, h3⟩
    match k with
    | 0 => exact ⟨0, _, i', rfl, h2, h3⟩
    | k + 1 => simp at h1
  refine ⟨_, .tup [], [some ⟨gen, e, Row.w α, rcs d'.toList⟩], E, rfl, hle, ⟨hsim.len, hsim.gens, fun q hq => Nat.lt_of_lt_of_le (hsim.I q hq) hsz, ?_, ?_, fun q cs hq => (hsim.glob q cs hq).mono hle.I⟩, ⟨[], rfl, rfl, fun j x u h => by simp at h⟩, ?_, fun q hq => .inl (hlive q hq), fun q _ hq => .inl hq, ?_⟩
  · intro k B hB
    match k with
    | 0 =>
      simp at hB; subst hB
      refine ⟨i, hi, hg1, hg2, hg3, hg4, ?_⟩
      rw [hb]
      refine ⟨hnI, .inl ⟨_, hheap, by simp [hFdl]; omega, ?_, ?_⟩⟩
      · rw [rcs_scells henc]; simp [scells, hFdl]; omega
      · simp only [rcs_scells henc d'.toList]
        have : (d'.toList.flatMap enc ++ C.drop (l.length * Row.w α)).take (scells (d'.toList.flatMap enc)).length = d'.toList.flatMap enc := by simp [scells]
        rw [this]
        exact rel_scells hscd
    | k + 1 => simp at hB
  · intro k k' B B' i1 i2 q h1 h2 _ _ _ _
    match k, k' with
    | 0, 0 => rfl
    | k + 1, _ => simp at h1
    | _, k' + 1 => simp at h2
  · exact ⟨rfl, rfl, ⟨rfl, by show w.drawn ≤ w.drawn + n; omega⟩, hsz, fun q hq hn => same q hq (fun e => hn ⟨0, _, i, rfl, hi, e ▸ hb⟩)⟩
  · refine ⟨_, [], rfl, d'.toList, hpl, fun x y u v hxy hu hv => ?_, rfl, rfl, rfl⟩
    have hy := (List.getElem?_eq_some_iff.1 hv).1
    have h := hsorted x y (Nat.zero_le _) hxy (by simpa [hds] using hy)
    simp only [ltOf, decide_eq_false_iff_not] at h
    have e1 : d'[x]! = u := by
      rw [Array.getElem?_toList] at hu
      simp [Array.getElem!_eq_getD, Array.getD_eq_getD_getElem?, hu]
    have e2 : d'[y]! = v := by
      rw [Array.getElem?_toList] at hv
      simp [Array.getElem!_eq_getD, Array.getD_eq_getD_getElem?, hv]
    rwa [e1, e2] at h
end Go.Abs
