/-
  The law of ReadFrames.
-/
import Derived.Test.YtcfkmdapadejmaaF5
import Derived.Test.YtcfkmdapadejmaaA2
namespace Go.Proofs.Ytcfkmdapadejmaa
set_option maxRecDepth 100000
set_option linter.unusedSimpArgs false
set_option linter.unusedVariables false
set_option linter.unnecessarySimpa false
open Go Go.Abs Go.Proofs
theorem setL_range {α : Type} (P A R A' : List α) (h : A'.length = A.length) : setL (P ++ A ++ R) (List.range' P.length A.length) A' = P ++ A' ++ R := by
  have hnd : (List.range' P.length A.length).Nodup := List.nodup_range'
  apply List.ext_getElem?
  intro q
  by_cases h1 : P.length ≤ q ∧ q < P.length + A.length
  · obtain ⟨j, rfl⟩ : ∃ j, q = P.length + j := ⟨q - P.length, by omega⟩
    rw [setL_at _ _ _ j _ hnd (by simp [h]) (fun k hk => by have := (List.mem_range'_1.1 hk); simp; omega) (by rw [List.getElem?_range' (by omega)]; simp)]
    rw [List.append_assoc, List.getElem?_append_right (by omega), List.getElem?_append_left (by omega)]
    congr 1; omega
  · rw [setL_not _ _ _ _ (fun hm => h1 (List.mem_range'_1.1 hm))]
    simp only [List.getElem?_append, List.length_append, h]
    by_cases h2 : q < P.length
    · have h3 : q < P.length + A.length := by omega
      simp only [h2, h3, if_true]
    · have h3 : ¬ q < P.length + A.length := by omega
      simp only [h3, if_false]
theorem rhoS_range (a n L j : Nat) (h : j < n) : rhoS (List.range' a n) L j = a + j := rhoS_lt (by rw [List.getElem?_range' h]; simp)
theorem outsL_rho (a n L : Nat) (ps : List BB) (hn : ps.length = n) : (outsL (List.range' 1 n) ps).map (AC.ren (rhoS (List.range' a (n + 1)) L)) = outsL (List.range' (a + 1) n) ps := by
  rw [outsL_ren]
  congr 1
  apply List.ext_getElem?
  intro j
  rw [List.getElem?_map]
  by_cases h : j < n
  · rw [List.getElem?_range' h, List.getElem?_range' h]
    simp only [Option.map_some]
    rw [rhoS_range _ _ _ _ (by omega)]; congr 1; omega
  · rw [List.getElem?_eq_none (by simpa using h), List.getElem?_eq_none (by simpa using h)]; rfl
/-- A call that may write arrays of arrays. -/
theorem acall_nest {f : FuncId} {args cargs : List AV} {P R : AHeap} {clk g : Nat} {ps ps' : List BB} {x : AV} {q : AHeap → Prop} {K : AV → AHeap → Nat → Prop}
    (hc : RCallS Try.prog f cargs (⟨g, 22, 1, outsL (List.range' 1 ps.length) ps⟩ :: ps.map bblk) fun r Bs Hn => r = x ∧ Bs = ⟨g, 22, 1, outsL (List.range' 1 ps.length) ps⟩ :: ps'.map bblk ∧ q Hn)
    (hl : ps'.length = ps.length) (hargs : ∀ ρ : Nat → Nat, ρ 0 = P.length → args = cargs.map (AV.ren ρ)) (hx : ∀ ρ : Nat → Nat, x.ren ρ = x)
    (hK : ∀ Hn ρ c, q Hn → clk ≤ c → K x (P ++ (some ⟨g, 22, 1, outsL (List.range' (P.length + 1) ps.length) ps⟩ :: ps'.map fun p => some (bblk p)) ++ R ++ Hn.map fun b => b.map (ABlk.ren ρ)) c) :
    ACall Try.prog f args (P ++ (some ⟨g, 22, 1, outsL (List.range' (P.length + 1) ps.length) ps⟩ :: ps.map fun p => some (bblk p)) ++ R) clk K := by
  generalize hA : (some ⟨g, 22, 1, outsL (List.range' (P.length + 1) ps.length) ps⟩ :: ps.map fun p => some (bblk p) : AHeap) = A
  have hAl : A.length = ps.length + 1 := by rw [← hA]; simp
  refine acall_refs (List.range' P.length (ps.length + 1)) hc List.nodup_range' (by simp) (hargs _ (by rw [rhoS_range _ _ _ _ (by omega)]; rfl)) ?_ ?_
  · intro j k B hk hB
    have hj := (List.getElem?_eq_some_iff.1 hk).1
    rw [List.length_range'] at hj
    rw [List.getElem?_range' hj] at hk
    simp at hk; subst hk
    rw [List.append_assoc, List.getElem?_append_right (by omega), List.getElem?_append_left (by omega), Nat.add_sub_cancel_left, ← hA]
    match j with
    | 0 =>
      simp at hB; subst hB
      simp only [List.getElem?_cons_zero, ABlk.ren]
      rw [outsL_rho _ _ _ _ rfl]
    | j + 1 =>
      rw [List.getElem?_cons_succ] at hB ⊢
      rw [List.getElem?_map] at hB ⊢
      cases hp : ps[j]? with
      | none => simp [hp] at hB
      | some p => simp [hp] at hB; subst hB; simp only [Option.map_some]; rw [bblk_ren]
  · rintro r Bs Hn c ⟨rfl, rfl, hq⟩ _ hcl
    have := hK Hn (rhoS (List.range' P.length (ps.length + 1)) (P ++ A ++ R).length) c hq hcl
    rw [hx]
    rw [← hAl, setL_range _ _ _ _ (by simp [hl, hAl]), hAl]
    have e : (List.map (fun B => some (ABlk.ren (rhoS (List.range' P.length (ps.length + 1)) (P ++ A ++ R).length) B)) (⟨g, 22, 1, outsL (List.range' 1 ps.length) ps⟩ :: ps'.map bblk)) = some ⟨g, 22, 1, outsL (List.range' (P.length + 1) ps.length) ps⟩ :: ps'.map fun p => some (bblk p) := by
      rw [List.map_cons, List.map_map]
      congr 1
      · simp only [ABlk.ren]; rw [outsL_rho _ _ _ _ rfl]
      · apply List.map_congr_left
        intro p _
        simp only [Function.comp_apply]; rw [bblk_ren]
    rw [e]; exact this
theorem snap_outs {H : AHeap} : ∀ {is : List Nat} {ps : List BB}, is.length = ps.length → (∀ (k i : Nat) (p : BB), is[k]? = some i → ps[k]? = some p → H[i]? = some (some (bblk p))) → (outsL is ps).mapM (snap1 H) = some (bss (ps.map (·.2)))
  | [], [], _, _ => rfl
  | [], _ :: _, h, _ => by simp at h
  | _ :: _, [], h, _ => by simp at h
  | i :: is, p :: ps, hl, h => by
    have ih := snap_outs (H := H) (is := is) (ps := ps) (by simpa using hl) fun k i' p' h1 h2 => h (k + 1) i' p' (by simpa using h1) (by simpa using h2)
    have h0 := h 0 i p rfl rfl
    have h1 : snap1 H (.own i p.1 0 p.2.length) = some (brow p.2) := by
      simp [snap1, blkAt, h0, bblk]
    rw [outsL, List.mapM_cons, h1, ih]; rfl
theorem snap_nest {H : AHeap} {o g n : Nat} {is : List Nat} {ps : List BB} (hl : is.length = ps.length) (hn : n = ps.length) (hO : H[o]? = some (some ⟨g, 22, 1, outsL is ps⟩))
    (hI : ∀ (k i : Nat) (p : BB), is[k]? = some i → ps[k]? = some p → H[i]? = some (some (bblk p))) : snapC H (.own o g 0 n) = some (.list ps.length (bss (ps.map (·.2)))) := by
  subst hn
  have hs := snap_outs hl hI
  have htk : (outsL is ps).take ps.length = outsL is ps := List.take_of_length_le (by simp [hl])
  have hb : blkAt H o g = some ⟨g, 22, 1, outsL is ps⟩ := by simp [blkAt, hO]
  simp only [snapC, hb, List.drop_zero, Nat.mul_one, htk]
  rw [if_pos (by simp [hl])]
  cases ps with
  | nil =>
    cases is with
    | nil => rfl
    | cons => simp at hl
  | cons p ps =>
    cases is with
    | nil => simp at hl
    | cons i is =>
      have hnone : (outsL (i :: is) (p :: ps)).mapM AC.dc? = none := by rw [outsL, List.mapM_cons]; rfl
      rw [hnone]
      simp only [hs]
      rfl
theorem readN_small : ∀ (k : Nat) (d : List UInt8), (readN k d).1.length ≤ d.length ∧ ∀ b ∈ (readN k d).1, b.length ≤ 100
  | 0, d => by simp [readN]
  | k + 1, d => by
    simp only [readN]
    cases hf : firstB d with
    | none => simp
    | some b =>
      have hb := firstB_some hf
      have ih := readN_small k (d.drop (b.length + 3))
      rw [List.length_drop] at ih
      refine ⟨by simp; omega, fun q hq => ?_⟩
      rcases List.mem_cons.1 hq with rfl | hq
      · exact hb.2.1
      · exact ih.2 q hq
theorem readF_small {d : List UInt8} (h : d.length ≤ 4000) : SmallL (readF d).1 := by
  have := readN_small d.length d
  exact ⟨by show (readN d.length d).1.length ≤ 4000; omega, fun b hb => by have := this.2 b hb; omega⟩
abbrev frD (d : List UInt8) : AV := frAV (readF d).2 (.d (.list (readF d).1.length (bss (readF d).1)))
theorem snap_post {d : List UInt8} {r : AV} {H : AHeap} (h : NestPost (readF d).1 (frAV (readF d).2) r H) : snapV H r = some (frD d) := by
  obtain ⟨g, ps, hps, rfl, rfl⟩ := h
  have hl : (readF d).1.length = ps.length := by rw [← hps, List.length_map]
  have hs := snap_nest (H := nest g ps) (o := 0) (g := g) (n := ps.length) (is := List.range' 1 ps.length) (ps := ps) (by simp) rfl rfl fun k i p hk hp => by
    have hkl := (List.getElem?_eq_some_iff.1 hk).1
    rw [List.getElem?_eq_getElem hkl] at hk
    simp at hk; subst hk
    rw [Nat.add_comm, List.getElem?_cons_succ, List.getElem?_map, hp]; rfl
  rw [hps, ← hl] at hs
  simp only [snapV, List.mapM_cons, List.mapM_nil, hs]
  rfl
theorem a_sReadFrames (d : List UInt8) (hd : d.length ≤ 4000) {H : AHeap} {c : Nat} {K : AV → AHeap → Nat → Prop} (hK : K (frD d) H c) : ACall Try.prog 17 [blist d] H c K :=
  acall_froze (c_sReadFramesX d hd) (by simp) fun r Hn h => ⟨_, snap_post h, hK⟩
theorem a_ReadFrames (d : List UInt8) (hd : d.length ≤ 4000) {b0 : List UInt8} (h0 : firstB d = some b0) {H : AHeap} {c : Nat} {K : AV → AHeap → Nat → Prop} (hK : K (frD d) H c) : ACall Try.prog 16 [blist d] H c K :=
  acall_froze (c_ReadFramesX d hd h0) (by simp) fun r Hn h => ⟨_, snap_post h, hK⟩
theorem snap_law (X Y : Option ABlk) (g : Nat) (ps ps' : List BB) (R : AHeap) (h : ps'.length = ps.length) (ho : outsL (List.range' 3 ps.length) ps' = outsL (List.range' 3 ps.length) ps) {n : Nat} (hn : n = ps.length) :
    snapC (X :: Y :: some ⟨g, 22, 1, outsL (List.range' 3 ps.length) ps⟩ :: (ps'.map (fun p => some (bblk p)) ++ R)) (.own 2 g 0 n) = some (.list n (bss (ps'.map (·.2)))) := by
  subst hn
  rw [← ho]
  have := snap_nest (H := X :: Y :: some ⟨g, 22, 1, outsL (List.range' 3 ps.length) ps'⟩ :: (ps'.map (fun p => some (bblk p)) ++ R)) (o := 2) (g := g) (n := ps.length) (is := List.range' 3 ps.length) (ps := ps') (by simp [h]) h.symm rfl ?_
  · rw [this, h]
  · intro k i p hk hp
    have hkl := (List.getElem?_eq_some_iff.1 hk).1
    rw [List.getElem?_eq_getElem hkl] at hk
    simp at hk; subst hk
    have hpl := (List.getElem?_eq_some_iff.1 hp).1
    rw [show 3 + k = k + 1 + 1 + 1 by omega, List.getElem?_cons_succ, List.getElem?_cons_succ, List.getElem?_cons_succ, List.getElem?_append_left (by simpa using hpl), List.getElem?_map, hp]; rfl
theorem snap_fr {H : AHeap} {x : AC} {d : DC} {u z : Int} (h : snapC H x = some d) : snapV H (.agg [nc u, x, nc z]) = some (.agg [nc u, .d d, nc z]) := by
  simp only [snapV, List.mapM_cons, List.mapM_nil, h]; rfl
theorem snap_two {H : AHeap} {x y : AC} {d e : DC} {u z v w : Int} (h : snapC H x = some d) (h' : snapC H y = some e) : [AV.agg [nc u, x, nc z], AV.agg [nc v, y, nc w]].mapM (snapV H) = some [.agg [nc u, .d d, nc z], .agg [nc v, .d e, nc w]] := by
  rw [List.mapM_cons, snap_fr h, List.mapM_cons, snap_fr h', List.mapM_nil]; rfl
theorem snap_int {H : AHeap} {x : AC} {d : DC} {u z k : Int} (h : snapC H x = some d) : [AV.agg [nc u, x, nc z], iv .i64 k].mapM (snapV H) = some [.agg [nc u, .d d, nc z], iv .i64 k] := by
  rw [List.mapM_cons, snap_fr h, List.mapM_cons, List.mapM_nil]; rfl
end Go.Proofs.Ytcfkmdapadejmaa
