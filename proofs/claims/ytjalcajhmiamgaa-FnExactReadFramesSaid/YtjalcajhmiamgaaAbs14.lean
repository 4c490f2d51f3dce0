/-
  Regions whose order is open: one walk serves every order, where what may trade places does not matter to each other. No program's text.
-/
import Derived.Test.YtjalcajhmiamgaaAbs13
import Derived.Orders
namespace Go.Abs
set_option linter.unusedSimpArgs false
set_option linter.unusedVariables false
set_option linter.unnecessarySimpa false
open Go

/-- What was there is there. -/
def HExt (H H' : AHeap) : Prop := ∀ (k : Nat) (B : ABlk), H[k]? = some (some B) → H'[k]? = some (some B)
theorem HExt.refl (H : AHeap) : HExt H H := fun _ _ h => h
theorem HExt.trans {H H' H'' : AHeap} (h : HExt H H') (k : HExt H' H'') : HExt H H'' := fun i B hB => k i B (h i B hB)
theorem HExt.app (H Hn : AHeap) : HExt H (H ++ Hn) := fun k B hB => by
  have hk : k < H.length := (List.getElem?_eq_some_iff.1 hB).1
  rw [List.getElem?_append_left hk]; exact hB
theorem HExt.blkAt {H H' : AHeap} (h : HExt H H') {k g : Nat} {B : ABlk} (hB : blkAt H k g = some B) : Abs.blkAt H' k g = some B := by
  obtain ⟨h1, h2⟩ := blkAt_some hB
  simp [Abs.blkAt, h k B h1, h2, blkAt_size hB]
theorem HExt.objAt {H H' : AHeap} (h : HExt H H') {k g : Nat} {p : List MapEntry × Nat} (hB : objAt H k g = some p) : Abs.objAt H' k g = some p := by
  obtain ⟨es, c⟩ := p
  obtain ⟨B, h1, h2, h3, h4, h5⟩ := objAt_some hB
  simp [Abs.objAt, h k B h1, h2, h3, h4, h5]
theorem HExt.mapsA {H H' : AHeap} (h : HExt H H') {x : AV} {es : List MapEntry} (hB : mapsA H x = some es) : Abs.mapsA H' x = some es := by
  unfold Abs.mapsA at hB ⊢
  split at hB
  · rename_i k g
    cases hp : Abs.objAt H k g with
    | none => simp [hp] at hB
    | some p => simp [hp] at hB; simp [h.objAt hp, hB]
  · exact hB
  · exact hB
  · cases hB
theorem HExt.isSome {H H' : AHeap} (h : HExt H H') {k g : Nat} (hB : (Abs.blkAt H k g).isSome = true) : (Abs.blkAt H' k g).isSome = true := by
  obtain ⟨B, hB⟩ := Option.isSome_iff_exists.1 hB
  simp [h.blkAt hB]

def quietOp : Op → Bool
  | .move _ | .assign _ | .pick .. | .load .. | .unOp .. | .convert .. | .slice _ _ _ _ none | .fieldAddr .. | .field .. | .indexAddr .. | .index .. | .extract .. | .build .. | .nilCheck _ => true
  | .call { callee := .builtin .len, .. } => true
  | .lookup .. => true
  | .binOp _ _ _ y _ => !(isNilC y)
  | _ => false
def extOp : Op → Bool
  | .alloc _ | .box .. | .makeSlice .. | .buildSlice .. => true
  | .call { callee := .value (.func _), .. } => true
  | _ => false

/-- As 'acore', but a call may only add to the heap. -/
def acoreX (P : Program) (op : Op) (ev : Operand → AV) (H : AHeap) (c : Nat) (K : AV → AHeap → Nat → Prop) : Prop :=
  match op with
  | .call { callee := .value (.func f), args, .. } => callable P f = true ∧ ACall P f (args.toList.map ev) H c fun r H' c' => HExt H H' ∧ K r H' c'
  | op => acore P op ev H c K

section
variable {P : Program} {op : Op} {ev : Operand → AV} {H : AHeap} {c : Nat} {K : AV → AHeap → Nat → Prop}

theorem ACall.mono {f : FuncId} {args : List AV} {K' : AV → AHeap → Nat → Prop} (h : ACall P f args H c K) (hk : ∀ v H c, K v H c → K' v H c) : ACall P f args H c K' :=
  fun w E vals h1 h2 h3 => (h w E vals h1 h2 h3).mono fun e w' ⟨v, r, H', E', he, a1, a2, a3, a4, a5, a6, a7⟩ => ⟨v, r, H', E', he, a1, a2, a3, a4, a5, a6, hk _ _ _ a7⟩

theorem bin_det {opb : BinOp} {t : TypeId} {x y : AV} {N : AV → Prop} (h : binA P opb t x y N) : ∃ v, N v ∧ ∀ N' : AV → Prop, N' v → binA P opb t x y N' := by
  unfold binA at h ⊢
  split at h
  · split at h
    · rename_i hs
      cases opb <;> simp [isShift] at hs <;> simp only [shiftBin] at h ⊢ <;> obtain ⟨h0, h⟩ := h <;> exact ⟨_, h, fun N' hn => by simp [isShift, h0, hn]⟩
    · rename_i hs
      obtain ⟨rfl, h⟩ := h
      cases opb <;> simp [isShift] at hs <;> simp only [intBin] at h ⊢ <;>
        first
        | exact h.elim
        | (obtain ⟨h0, h⟩ := h; exact ⟨_, h, fun N' hn => by simp [isShift, h0, hn]⟩)
        | exact ⟨_, h, fun N' hn => by rw [if_neg (by simp [isShift])]; exact ⟨trivial, hn⟩⟩
  · cases opb <;> simp only [strBin] at h ⊢ <;>
      first
      | exact h.elim
      | (obtain ⟨h0, h⟩ := h; exact ⟨_, h, fun N' hn => ⟨h0, hn⟩⟩)
      | exact ⟨_, h, fun N' hn => hn⟩
  · unfold boolBin at h
    split at h
    · obtain ⟨h0, h⟩ := h; exact ⟨_, h, fun N' hn => ⟨h0, hn⟩⟩
    · obtain ⟨h0, h⟩ := h; exact ⟨_, h, fun N' hn => ⟨h0, hn⟩⟩
    · exact h.elim
  · obtain ⟨p, q, r, rfl, rfl, heq, h | h⟩ := h
    · obtain ⟨rfl, h⟩ := h
      exact ⟨_, h, fun N' hn => ⟨p, q, r, rfl, rfl, heq, .inl ⟨rfl, hn⟩⟩⟩
    · obtain ⟨rfl, h⟩ := h
      exact ⟨_, h, fun N' hn => ⟨p, q, r, rfl, rfl, heq, .inr ⟨rfl, hn⟩⟩⟩
  · exact h.elim

theorem indexV_det {t : TypeId} {x i : AV} {N : AV → Prop} (h : indexVA P t x i N) : ∃ v, N v ∧ ∀ N' : AV → Prop, N' v → indexVA P t x i N' := by
  unfold indexVA at h
  split at h
  · exact ⟨_, h.2, fun N' hn => ⟨h.1, hn⟩⟩
  · split at h
    · rename_i len e size hA
      split at h
      · rename_i agg ha
        obtain ⟨h0, h⟩ := h
        split at h
        · rename_i y hy; exact ⟨y, h, fun N' hn => by unfold indexVA; simp only [hA, ha, hy]; exact ⟨h0, hn⟩⟩
        · exact h.elim
      · exact h.elim
    · exact h.elim
  · exact h.elim
theorem load_det {t : TypeId} {x : AV} {N : AV → Prop} (h : loadA P H t x N) : ∃ v, N v ∧ ∀ H' (N' : AV → Prop), HExt H H' → N' v → loadA P H' t x N' := by
  unfold loadA at h
  split at h
  · rename_i agg n h1 h2
    split at h
    · split at h
      · rename_i B hB
        split at h
        · rename_i y hy
          exact ⟨y, h, fun H' N' he hn => by simp only [loadA, h1, h2, he.blkAt hB, hy]; exact hn⟩
        · exact h.elim
      · exact h.elim
    · split at h
      · rename_i y hy
        exact ⟨y, h, fun H' N' he hn => by simp only [loadA, h1, h2, hy]; exact hn⟩
      · exact h.elim
    · exact h.elim
  · exact h.elim

theorem elems_ext {H H' : AHeap} (he : HExt H H') {size n : Nat} {x : AV} {cs : List AC} (h : elems? H size x = some (n, cs)) : elems? H' size x = some (n, cs) := by
  unfold elems? at h ⊢
  split at h
  · exact h
  · exact h
  · split at h
    · rename_i B hB
      simp only [he.blkAt hB]; exact h
    · cases h
  · cases h

theorem quiet_core (hq : quietOp op = true) (h : acore P op ev H c K) : ∃ v, K v H c ∧ ∀ H' c' (K' : AV → AHeap → Nat → Prop), HExt H H' → K' v H' c' → acore P op ev H' c' K' := by
  unfold acore at h
  split at h
  · exact ⟨_, h, fun H' c' K' _ hk => hk⟩
  · exact ⟨_, h, fun H' c' K' _ hk => hk⟩
  · split at h
    · rename_i b hb
      exact ⟨_, h, fun H' c' K' _ hk => by simp only [acore, hb]; exact hk⟩
    · exact h.elim
  · simp [quietOp] at hq
  · simp [quietOp] at hq
  · split at h
    · rename_i z pl hz hpl
      split at h
      · rename_i cs hcs
        exact ⟨_, h, fun H' c' K' _ hk => by simp only [acore, hz, hpl, hcs]; exact hk⟩
      · exact h.elim
    · exact h.elim
  · simp [quietOp] at hq
  · obtain ⟨v, h1, h2⟩ := load_det h
    exact ⟨v, h1, fun H' c' K' he hk => h2 H' _ he hk⟩
  · simp [quietOp] at hq
  · split at h
    · rename_i hy; simp [quietOp, hy] at hq
    · rename_i hy
      obtain ⟨v, h1, h2⟩ := bin_det h
      exact ⟨v, h1, fun H' c' K' he hk => by simp only [acore]; rw [if_neg hy]; exact h2 (fun v => K' v H' c') hk⟩
  · unfold unA at h
    split at h
    · rename_i b hx
      exact ⟨_, h, fun H' c' K' _ hk => by simp only [acore, unA, hx]; exact hk⟩
    · rename_i k n hx
      exact ⟨_, h, fun H' c' K' _ hk => by simp only [acore, unA, hx]; exact hk⟩
    · exact h.elim
  · unfold convA at h
    split at h
    · rename_i k k' n hd hx
      obtain ⟨h0, h⟩ := h
      exact ⟨_, h, fun H' c' K' _ hk => by simp only [acore, convA, hd, hx]; exact ⟨h0, hk⟩⟩
    · rename_i u hd hx
      obtain ⟨h0, h⟩ := h
      exact ⟨_, h, fun H' c' K' _ hk => by simp only [acore, convA, hd, hx]; exact ⟨h0, hk⟩⟩
    · rename_i hne _ _
      split at h
      · rename_i e hs
        obtain ⟨h0, h⟩ := h
        split at h
        · rename_i n cs hel
          split at h
          · rename_i bs hbs
            obtain ⟨h1, h⟩ := h
            refine ⟨_, h, fun H' c' K' he hk => ?_⟩
            have hel' := elems_ext he hel
            simp only [acore, convA]
            split
            · rename_i hd hx; simp_all
            · rename_i hd hx; simp_all
            · simp only [hs, hel', hbs]; exact ⟨h0, h1, hk⟩
            · simp_all
          · exact h.elim
        · exact h.elim
      · exact h.elim
    · exact h.elim
  · simp [quietOp] at hq
  · unfold sliceA at h
    split at h
    · rename_i s hx
      split at h
      · rename_i l hh hl hhh
        obtain ⟨h0, h1, h⟩ := h
        exact ⟨_, h, fun H' c' K' _ hk => by simp only [acore, sliceA, hx, hl, hhh]; exact ⟨h0, h1, hk⟩⟩
      · exact h.elim
    · rename_i n cs hx
      split at h
      · rename_i l hh e size bytes hl hhh hT
        obtain ⟨h0, h⟩ := h
        exact ⟨_, h, fun H' c' K' _ hk => by simp only [acore, sliceA, hx, hl, hhh, hT]; exact ⟨h0, hk⟩⟩
      · exact h.elim
    · rename_i k g off n hx
      split at h
      · rename_i l hh e size bytes B hl hhh hT hB
        obtain ⟨h0, h⟩ := h
        exact ⟨_, h, fun H' c' K' he hk => by simp only [acore, sliceA, hx, hl, hhh, hT, he.blkAt hB]; exact ⟨h0, hk⟩⟩
      · exact h.elim
    · rename_i hx
      split at h
      · rename_i l hh T hl hhh hT
        obtain ⟨h0, h⟩ := h
        exact ⟨_, h, fun H' c' K' _ hk => by simp only [acore, sliceA, hx, hl, hhh, hT]; exact ⟨h0, hk⟩⟩
      · exact h.elim
    · rename_i k g off hx
      split at h
      · rename_i n e size B hA hB
        split at h
        · rename_i l hh hl hhh
          obtain ⟨h0, h⟩ := h
          exact ⟨_, h, fun H' c' K' he hk => by simp only [acore, sliceA, hx, hA, he.blkAt hB, hl, hhh]; exact ⟨h0, hk⟩⟩
        · exact h.elim
      · exact h.elim
    · exact h.elim
  · unfold fieldAddrA at h
    split at h
    · rename_i off n b hT
      obtain ⟨h0, h⟩ := h
      split at h
      · rename_i k g o' hx
        obtain ⟨h1, h⟩ := h
        exact ⟨_, h, fun H' c' K' he hk => by simp only [acore, fieldAddrA, hT, hx]; exact ⟨h0, he.isSome h1, hk⟩⟩
      · rename_i cs hx
        obtain ⟨h1, h⟩ := h
        exact ⟨_, h, fun H' c' K' he hk => by simp only [acore, fieldAddrA, hT, hx]; exact ⟨h0, h1, hk⟩⟩
      · exact h.elim
    · exact h.elim
  · unfold fieldA at h
    split at h
    · rename_i off n agg cs hT hx
      split at h
      · rename_i y hy
        exact ⟨_, h, fun H' c' K' he hk => by simp only [acore, fieldA, hT, hx, hy]; exact hk⟩
      · exact h.elim
    · exact h.elim
  · unfold indexA at h
    split at h
    · rename_i e size bytes kk n hT hix
      split at h
      · rename_i k g off len hx
        obtain ⟨⟨h0, h1, h2⟩, h⟩ := h
        refine ⟨_, h, fun H' c' K' he hk => ?_⟩
        obtain ⟨B, hB⟩ := Option.isSome_iff_exists.1 h0
        simp only [acore, indexA, hT, hix, hx]
        exact ⟨⟨he.isSome h0, by rw [he.blkAt hB]; rw [hB] at h1; exact h1, h2⟩, hk⟩
      · rename_i len cs hx
        obtain ⟨h0, h⟩ := h
        exact ⟨_, h, fun H' c' K' he hk => by simp only [acore, indexA, hT, hix, hx]; exact ⟨h0, hk⟩⟩
      · exact h.elim
    · rename_i kk n hT hix
      split at h
      · rename_i len e size hA
        split at h
        · rename_i k g off hx
          obtain ⟨⟨h0, h1⟩, h⟩ := h
          exact ⟨_, h, fun H' c' K' he hk => by simp only [acore, indexA, hT, hix, hA, hx]; exact ⟨⟨he.isSome h0, h1⟩, hk⟩⟩
        · rename_i cs hx
          obtain ⟨h0, h⟩ := h
          exact ⟨_, h, fun H' c' K' he hk => by simp only [acore, indexA, hT, hix, hA, hx]; exact ⟨h0, hk⟩⟩
        · exact h.elim
      · exact h.elim
    · exact h.elim
  · obtain ⟨v, h1, h2⟩ := indexV_det h
    exact ⟨v, h1, fun H' c' K' he hk => h2 (fun v => K' v H' c') hk⟩
  · split at h
    · rename_i vs hx
      split at h
      · rename_i y hy
        exact ⟨_, h, fun H' c' K' he hk => by simp only [acore, hx, hy]; exact hk⟩
      · rename_i y hy
        exact ⟨_, h, fun H' c' K' he hk => by simp only [acore, hx, hy]; exact hk⟩
      · exact h.elim
    · exact h.elim
  · split at h
    · rename_i x t hx ht
      unfold lenA at h
      split at h
      · rename_i s hv
        obtain ⟨h0, h⟩ := h
        exact ⟨_, h, fun H' c' K' he hk => by simp only [acore, hx, ht, lenA, hv]; exact ⟨h0, hk⟩⟩
      · rename_i hv
        obtain ⟨h0, h⟩ := h
        exact ⟨_, h, fun H' c' K' he hk => by simp only [acore, hx, ht, lenA, hv]; exact ⟨h0, hk⟩⟩
      · rename_i n cs hv
        obtain ⟨h0, h⟩ := h
        exact ⟨_, h, fun H' c' K' he hk => by simp only [acore, hx, ht, lenA, hv]; exact ⟨h0, hk⟩⟩
      · rename_i k g off n hv
        obtain ⟨⟨h0, h1⟩, h⟩ := h
        exact ⟨_, h, fun H' c' K' he hk => by simp only [acore, hx, ht, lenA, hv]; exact ⟨⟨h0, he.isSome h1⟩, hk⟩⟩
      · rename_i es c hv
        obtain ⟨h0, h⟩ := h
        exact ⟨_, h, fun H' c' K' he hk => by simp only [acore, hx, ht, lenA, hv]; exact ⟨h0, hk⟩⟩
      · rename_i k g hv
        split at h
        · rename_i es c hB
          obtain ⟨h0, h⟩ := h
          exact ⟨_, h, fun H' c' K' he hk => by simp only [acore, hx, ht, lenA, hv, he.objAt hB]; exact ⟨h0, hk⟩⟩
        · exact h.elim
      · exact h.elim
    · exact h.elim
  · simp [quietOp] at hq
  · simp [quietOp] at hq
  · unfold nilA at h
    split at h
    · rename_i k g off hx
      obtain ⟨h0, h⟩ := h
      exact ⟨_, h, fun H' c' K' he hk => by simp only [acore, nilA, hx]; exact ⟨he.isSome h0, hk⟩⟩
    · rename_i cs hx
      exact ⟨_, h, fun H' c' K' he hk => by simp only [acore, nilA, hx]; exact hk⟩
    · exact h.elim
  · unfold xcore at h
    split at h
    · simp [quietOp] at hq
    · obtain ⟨kv, es, found, x, hk, hm, hg, hK⟩ := h
      exact ⟨_, hK, fun H' c' K' he hk' => ⟨kv, es, found, x, hk, he.mapsA hm, hg, hk'⟩⟩
    · simp [quietOp] at hq
    · simp [quietOp] at hq
    · simp [quietOp] at hq
    · simp [quietOp] at hq
    · simp [quietOp] at hq
    · exact h.elim

theorem xcore_congr {op : Op} {ev' : Operand → AV} (h : ∀ x ∈ op.operands, ev x = ev' x) : xcore P op ev H c K = xcore P op ev' H c K := by
  unfold xcore
  split
  · rfl
  · rename_i t m k ok
    rw [h m (by simp [Op.operands]), h k (by simp [Op.operands])]
  · rename_i t m k v
    rw [h m (by simp [Op.operands]), h k (by simp [Op.operands]), h v (by simp [Op.operands])]
  · rename_i args ts
    have hargs : ∀ x ∈ args.toList, ev x = ev' x := fun x hx => h x (by simp [Op.operands, Call.operands]; simpa using hx)
    split
    · rename_i x y t u hx ht
      rw [hargs x (by rw [hx]; simp), hargs y (by rw [hx]; simp)]
    · rfl
  · rename_i args ts
    have hargs : ∀ x ∈ args.toList, ev x = ev' x := fun x hx => h x (by simp [Op.operands, Call.operands]; simpa using hx)
    split
    · rename_i x y t u hx ht
      rw [hargs x (by rw [hx]; simp), hargs y (by rw [hx]; simp)]
    · rfl
  · rename_i args ts
    have hargs : ∀ x ∈ args.toList, ev x = ev' x := fun x hx => h x (by simp [Op.operands, Call.operands]; simpa using hx)
    split
    · rename_i x y hx
      rw [hargs x (by rw [hx]; simp), hargs y (by rw [hx]; simp)]
    · rfl
  · rename_i args ts
    have hargs : ∀ x ∈ args.toList, ev x = ev' x := fun x hx => h x (by simp [Op.operands, Call.operands]; simpa using hx)
    split
    · rename_i x y hx
      rw [hargs x (by rw [hx]; simp), hargs y (by rw [hx]; simp)]
    · rfl
  · rfl
theorem copyA_mono {t : TypeId} {x y : AV} {N N' : AV → AHeap → Prop} (hk : ∀ v H, N v H → N' v H) (h : copyA P H t x y N) : copyA P H t x y N' := by
  unfold copyA at h ⊢
  split at h
  · split at h
    · split at h
      · exact ⟨h.1, hk _ _ h.2⟩
      · exact h.elim
    · exact h.elim
  · exact h.elim
theorem xcore_mono {op : Op} {K' : AV → AHeap → Nat → Prop} (hk : ∀ v H c, K v H c → K' v H c) (h : xcore P op ev H c K) : xcore P op ev H c K' := by
  unfold xcore at h ⊢
  split at h
  · exact hk _ _ _ h
  · obtain ⟨kv, es, found, x, h1, h2, h3, h4⟩ := h
    exact ⟨kv, es, found, x, h1, h2, h3, hk _ _ _ h4⟩
  · obtain ⟨j, g, es, c, kv, vv, es', c', h1, h2, h3, h4, h5, h6⟩ := h
    exact ⟨j, g, es, c, kv, vv, es', c', h1, h2, h3, h4, h5, hk _ _ _ h6⟩
  · split at h
    · obtain ⟨j, g, es, c, kv, es', h1, h2, h3, h4, h5⟩ := h
      exact ⟨j, g, es, c, kv, es', h1, h2, h3, h4, hk _ _ _ h5⟩
    · exact h.elim
  · split at h
    · exact copyA_mono (fun v H => hk v H c) h
    · exact h.elim
  · split at h
    · split at h
      · exact ⟨h.1, hk _ _ _ h.2⟩
      · exact h.elim
    · exact h.elim
  · split at h
    · split at h
      · exact ⟨h.1, hk _ _ _ h.2⟩
      · exact h.elim
    · exact h.elim
  · exact h.elim

theorem ext_core0 {op : Op} (he : extOp op = true) (hne : ∀ f args ts, op ≠ .call { callee := .value (.func f), args := args, argTypes := ts }) (h : acore P op ev H c K) : acore P op ev H c fun v H' c' => HExt H H' ∧ K v H' c' := by
  match op, he, h with
  | .alloc e, _, h =>
    simp only [acore] at h ⊢
    cases hz : zeroT P e with
    | none => simp [hz] at h
    | some z =>
      cases hn : unitT P e with
      | none => simp [hz, hn] at h
      | some n => simp only [hz, hn] at h; exact ⟨HExt.app _ _, h⟩
  | .box e x, _, h =>
    simp only [acore] at h ⊢
    cases hz : (ev x).cells? with
    | none => simp [hz] at h
    | some z =>
      cases hn : unitT P e with
      | none => simp [hz, hn] at h
      | some n => simp only [hz, hn] at h; exact ⟨HExt.app _ _, h⟩
  | .makeSlice t l m, _, h =>
    simp only [acore, makeA] at h ⊢
    split at h
    · rename_i e size bytes kl n kc m hT hl hc
      split at h
      · rename_i z hz
        exact ⟨h.1, HExt.app _ _, h.2⟩
      · exact h.elim
    · exact h.elim
  | .buildSlice t len ps, _, h =>
    simp only [acore] at h ⊢
    cases hT : sliceT P t with
    | none => simp [hT] at h
    | some r =>
      obtain ⟨e, size, b⟩ := r
      simp only [hT] at h ⊢
      cases hz : zeroT P e with
      | none => simp [hz] at h
      | some z =>
        simp only [hz] at h ⊢
        split at h
        · exact ⟨h.1, HExt.app _ _, h.2⟩
        · exact h.elim
  | .call ⟨.value (.func f), args, ts⟩, _, _ => exact absurd rfl (hne f args ts)

/-- What only adds to the heap adds to it. -/
theorem ext_core (hq : quietOp op = true ∨ extOp op = true) (h : acoreX P op ev H c K) : acoreX P op ev H c fun v H' c' => HExt H H' ∧ K v H' c' := by
  unfold acoreX at h ⊢
  split
  · simp only at h
    exact ⟨h.1, h.2.mono fun v H' c' ⟨a, b⟩ => ⟨a, a, b⟩⟩
  · rename_i hne
    have h' : acore P op ev H c K := by
      split at h
      · exact absurd rfl (hne _ _ _)
      · exact h
    rcases hq with hqq | he
    · obtain ⟨v, h1, h2⟩ := quiet_core hqq h'
      exact h2 H c _ (HExt.refl H) ⟨HExt.refl H, h1⟩
    · exact ext_core0 he (fun f args ts e => hne f args ts e) h'

theorem acoreX_acore (h : acoreX P op ev H c K) : acore P op ev H c K := by
  unfold acoreX at h
  split at h
  · exact ⟨h.1, h.2.mono fun v H' c' ⟨_, b⟩ => b⟩
  · exact h

/-- It hangs on the operands alone. -/
theorem acore_congr {ev' : Operand → AV} (h : ∀ x ∈ op.operands, ev x = ev' x) : acore P op ev H c K = acore P op ev' H c K := by
  have pairs : ∀ ps : Array (Nat × Operand), (∀ x ∈ ps.toList.map (·.2), ev x = ev' x) → (ps.toList.map fun (i, x) => (i, ev x)) = (ps.toList.map fun (i, x) => (i, ev' x)) := fun ps hp =>
    List.map_congr_left fun p hm => by
      obtain ⟨i, x⟩ := p
      simp only [hp x (List.mem_map.2 ⟨(i, x), hm, rfl⟩)]
  have bnd : ∀ (lo : Option Operand) (d : Int), (∀ x ∈ lo.toArray, ev x = ev' x) → boundOf ev lo d = boundOf ev' lo d := fun lo d hl => by
    cases lo with
    | none => rfl
    | some x => simp only [boundOf, hl x (by simp)]
  have h0 := h
  cases op <;> simp only [Op.operands] at h <;> simp only [acore] <;> try exact xcore_congr h0
  case move x => rw [h x (by simp)]
  case assign x => rw [h x (by simp)]
  case pick a b d => rw [h a (by simp), h b (by simp), h d (by simp)]
  case box e x => rw [h x (by simp)]
  case build t ps => rw [pairs ps fun x hx => h x (by simpa using hx)]
  case buildSlice t n ps => rw [pairs ps fun x hx => h x (by simpa using hx)]
  case load t x => rw [h x (by simp)]
  case store t x y => rw [h x (by simp), h y (by simp)]
  case binOp op t x y ty => rw [h x (by simp), h y (by simp)]
  case unOp op t x => rw [h x (by simp)]
  case convert s t x => rw [h x (by simp)]
  case makeSlice t l m => rw [h l (by simp), h m (by simp)]
  case slice t x lo hi mx =>
    cases mx with
    | none =>
      simp only [sliceA]
      rw [h x (by simp)]
      simp only [bnd lo _ (fun y hy => h y (by simp at hy ⊢; simp [hy])), bnd hi _ (fun y hy => h y (by simp at hy ⊢; simp [hy]))]
    | some _ => exact xcore_congr h0
  case fieldAddr s x f => rw [h x (by simp)]
  case field s x f => rw [h x (by simp)]
  case indexAddr t x i => rw [h x (by simp), h i (by simp)]
  case index t x i => rw [h x (by simp), h i (by simp)]
  case extract x i => rw [h x (by simp)]
  case nilCheck x => rw [h x (by simp)]
  case call cl =>
    obtain ⟨callee, args, ts⟩ := cl
    have hargs : ∀ x ∈ args.toList, ev x = ev' x := fun x hx => h x (by simp only [Call.operands]; simp; exact .inr (by simpa using hx))
    cases callee with
    | value f =>
      cases f with
      | func f => simp only; rw [List.map_congr_left hargs]
      | _ => exact xcore_congr h0
    | invoke r m => exact xcore_congr h0
    | builtin b =>
      cases b
      case append =>
        simp only
        split
        · rename_i x y t u hx ht
          rw [hargs x (by rw [hx]; simp), hargs y (by rw [hx]; simp)]
        · rfl
      case len =>
        simp only
        split
        · rename_i x t hx ht
          rw [hargs x (by rw [hx]; simp)]
        · rfl
      all_goals exact xcore_congr h0
theorem acoreX_congr {ev' : Operand → AV} (h : ∀ x ∈ op.operands, ev x = ev' x) : acoreX P op ev H c K = acoreX P op ev' H c K := by
  unfold acoreX
  split
  · rename_i f args ts
    have hargs : ∀ x ∈ args.toList, ev x = ev' x := fun x hx => h x (by simp only [Op.operands, Call.operands]; simp; exact .inr (by simpa using hx))
    rw [List.map_congr_left hargs]
  · exact acore_congr h
end
end Go.Abs
