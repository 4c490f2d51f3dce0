/-
  The law of the controller's steps.
-/
import Derived.Test.YtiogdfliailenaaQ41
import Derived.Test.YtiogdfliailenaaQ43
import Derived.Test.YtiogdfliailenaaQ45
namespace Go.Proofs.Ytiogdfliailenaa
set_option maxRecDepth 100000
set_option linter.unusedSimpArgs false
set_option linter.unusedVariables false
set_option linter.unnecessarySimpa false
open Go Go.Abs Go.Proofs
set_option maxRecDepth 100000 in
theorem c_lwNums (a b : List Int) (ha : a.length ≤ 1048576) : FCall Try.prog 18 [rlist a, rlist b] fun r H => r = bv (decide (a = b)) ∧ H = [] := by
  refine fcall_gather [] id fun clk => acall_of_aw Try.func18 rfl ?_
  by_cases hl : a.length = b.length
  · simp [hl]
    refine codeOk_loop [true, true, false, false, false, true] 0 (fun s => ∃ (i c : Nat), i ≤ a.length ∧ a.take i = b.take i ∧ s = ⟨[rlist a, rlist b, unknown, unknown, unknown, iv .i64 i] ++ List.replicate 20 unknown, [], c⟩)
      (fun s => match s.tmps.getD 5 unknown with | .one (.d (.s (.int _ i))) => a.length - i.toNat | _ => 0) ?_ ?_
    · simp [hl]
      exact ⟨0, Nat.zero_le _, rfl, rfl⟩
    · rintro s ⟨i, c, hi, ht, rfl⟩
      by_cases hlt : i < a.length
      · have hw := wrap_succ (i := i) (by omega)
        have hlt' : i < b.length := by omega
        obtain ⟨x, t, hd, hx, _, _⟩ := drop_at a hlt
        obtain ⟨y, u, hd', hy, _, _⟩ := drop_at b hlt'
        simp [hlt, hw]
        refine codeOk_drawA mixed (by kernel_rfl) ?_
        simp [hlt, hlt', hd, hd']
        by_cases he : x = y
        · simp [he, hw]
          exact ⟨⟨i + 1, by omega, take_snoc_row hx hy ht he, by omega⟩, by omega⟩
        · simp [he]
          exact ne_at hx hy he
      · have e : i = a.length := by omega
        subst e
        simp
        rw [List.take_length, hl, List.take_length] at ht
        exact ht
  · have hne : a ≠ b := fun e => hl (by rw [e])
    simp [hl, hne]
def posL (s : Ca) (k w : Int) : List Int := if owF s k = 0 then idxL (podsL s.obs k w) else []
theorem a_PodsOfD (s : Ca) (k w : Int) (h1 : s.obs.length ≤ 1048576) {H : AHeap} {c : Nat} {K : AV → AHeap → Nat → Prop} (hK : K (.agg [ic (owF s k), .d (.list (posL s k w).length (rds (posL s k w)))]) H c) : ACall Try.prog 16 [s.av, kav k w] H c K := by
  unfold posL at hK
  by_cases h : owF s k = 0
  · rw [if_pos h, h] at hK
    exact acall_froze (c_PodsOf1 s k w h1 h) (by simp) (by rintro r Hn ⟨g, rfl, rfl⟩; exact ⟨_, by simp, hK⟩)
  · rw [if_neg h] at hK
    exact acall_froze (c_PodsOf0 s k w h1 h) (by simp) (by rintro r Hn ⟨rfl, rfl⟩; exact ⟨_, by simp, hK⟩)
theorem q_sPodsOf (s : Ca) (k w : Int) {H : AHeap} {K : AV → Prop} (hK : K (.agg [ic (owF s k), .d (.list (posL s k w).length (rds (posL s k w)))])) : QCall Try.prog 17 [s.av, kav k w] H K := by
  unfold posL at hK
  by_cases h : owF s k = 0
  · rw [if_pos h, h] at hK
    refine qcall _ (c_sPodsOf1 s k w h) (by simp) ?_ hK
    rintro r Hn (⟨e, rfl, rfl⟩ | ⟨_, g, rfl, rfl⟩)
    · simp [e]
    · simp
  · rw [if_neg h] at hK
    refine qcall _ (c_sPodsOf0 s k w h) (by simp) ?_ hK
    rintro r Hn ⟨rfl, rfl⟩
    simp
theorem fa_zero {s : Ca} {x : Option Wr} (h : faC s x = 0) : caFault s = 0 ∧ ∃ w, x = some w ∧ faW s x = w := by
  unfold faC at h
  split at h
  · rename_i h0
    refine ⟨h0, ?_⟩
    cases x with
    | none => simp [stCode] at h
    | some w => exact ⟨w, rfl, by unfold faW; rw [if_pos h0]; rfl⟩
  · rename_i h0; exact absurd h h0
theorem ask_set {s : Ca} {q : Int} (h : faC s (askW s 1 q setStep) = 0) : wrFault (faW s (askW s 1 q setStep)) = 0 := by
  obtain ⟨h0, w, hx, hw⟩ := fa_zero h
  rw [hw]
  unfold askW at hx
  cases hf : findOb s.obs 1 q with
  | none => rw [hf] at hx; cases hx
  | some o =>
    rw [hf] at hx
    have := setStep_when h0 hf
    rw [show setStep s.obs o = some w from hx] at this
    exact this.1
theorem ask_job {s : Ca} {q : Int} (h : faC s (askW s 2 q jobStep) = 0) : wrFault (faW s (askW s 2 q jobStep)) = 0 := by
  obtain ⟨h0, w, hx, hw⟩ := fa_zero h
  rw [hw]
  unfold askW at hx
  cases hf : findOb s.obs 2 q with
  | none => rw [hf] at hx; cases hx
  | some o =>
    rw [hf] at hx
    exact jobStep_ok h0 hf hx
theorem ask_orph {s : Ca} (h : faC s (orphan s.obs) = 0) : wrFault (faW s (orphan s.obs)) = 0 ∧ (faW s (orphan s.obs)).op = 2 := by
  obtain ⟨h0, w, hx, hw⟩ := fa_zero h
  rw [hw]
  exact orphan_ok h0 hx
def fcC (s : Ca) (a b : Int) : Int := if caFault s = 0 then (if (findOb s.obs a b).isSome then 0 else 4) else caFault s
def fcO (s : Ca) (a b : Int) : Ob := if caFault s = 0 then (findOb s.obs a b).getD ob0 else ob0
theorem ask_no {s : Ca} {q : Int} (h : fcC s 1 q ≠ 0) : faC s (askW s 1 q setStep) = fcC s 1 q := by
  unfold faC fcC at *
  by_cases h0 : caFault s = 0
  · rw [if_pos h0] at h ⊢
    rw [if_pos h0]
    cases hf : findOb s.obs 1 q with
    | none => simp [askW, hf, stCode]
    | some o => rw [hf] at h; exact absurd rfl h
  · rw [if_neg h0, if_neg h0]
theorem ask_yes {s : Ca} {q : Int} (h : fcC s 1 q = 0) : (faC s (askW s 1 q setStep) = 4 ∧ lvV s 1 q = (fcO s 1 q).a ∧ lvV s 1 q = (posL s 1 q).length) ∨
    (faC s (askW s 1 q setStep) = 0 ∧ ((faW s (askW s 1 q setStep)).op = 1 ∧ lvV s 1 q < (fcO s 1 q).a ∨ (faW s (askW s 1 q setStep)).op = 2 ∧ ((fcO s 1 q).a < lvV s 1 q ∨ lvV s 1 q < (posL s 1 q).length))) := by
  unfold fcC at h
  split at h
  · rename_i h0
    have ho : owF s 1 = 0 := by unfold owF; rw [if_pos h0]; rfl
    cases hf : findOb s.obs 1 q with
    | none => rw [hf] at h; simp at h
    | some o =>
      have hw := setStep_when h0 hf
      have e1 : fcO s 1 q = o := by unfold fcO; rw [if_pos h0, hf]; rfl
      have e2 : lvV s 1 q = liveN (podsL s.obs 1 q) := by unfold lvV; rw [if_pos ho]
      have e3 : posL s 1 q = idxL (podsL s.obs 1 q) := by unfold posL; rw [if_pos ho]
      have e4 : askW s 1 q setStep = setStep s.obs o := by unfold askW; rw [hf]; rfl
      rw [e1, e2, e3, e4, idxL_len]
      unfold faC faW
      rw [if_pos h0, if_pos h0]
      cases hx : setStep s.obs o with
      | none =>
        rw [hx] at hw
        exact .inl ⟨rfl, hw.1, hw.1.trans hw.2⟩
      | some w =>
        rw [hx] at hw
        exact .inr ⟨rfl, hw.2⟩
  · rename_i h0; exact absurd h h0
set_option maxRecDepth 100000 in
set_option maxHeartbeats 2000000 in
theorem law_FnSteps (a : List UInt8) : FCall Try.prog 3 [blist a] TT := by
  refine fcall_gather [] id fun clk => acall_of_aw Try.func3 rfl ?_
  by_cases ha : a.length ≤ 1048576
  · have ha' : ¬ (1048576 : Int) < a.length := by omega
    simp
    refine acall_val (c_lwBig a) (by simp) (by simp) ?_
    simp [ha']
    refine a_DrawNextForSet a ha fun s q hs => ?_
    have h1 : s.obs.length ≤ 1048576 := by omega
    simp
    have cS := c_NextForSet s q h1
    have cS' := c_sNextForSet s q
    have cJ := c_NextForJob s q h1
    have cJ' := c_sNextForJob s q
    have cO := c_NextOrphan s h1
    have cO' := c_sNextOrphan s
    have cL := c_LiveOf s 1 q h1
    have cL' := c_sLiveOf s 1 q
    have cD := c_DoneOf s q h1
    have cD' := c_sDoneOf s q
    have cF := c_sFindCached s 1 q
    have cP := fun {H : AHeap} {c : Nat} {K : AV → AHeap → Nat → Prop} => a_PodsOfD s 1 q h1 (H := H) (c := c) (K := K)
    have cP' := fun {H : AHeap} {K : AV → Prop} => q_sPodsOf s 1 q (H := H) (K := K)
    have f1 := ask_set (s := s) (q := q)
    have f2 := ask_job (s := s) (q := q)
    have f3 := ask_orph (s := s)
    have f4 := ask_no (s := s) (q := q)
    have f5 := ask_yes (s := s) (q := q)
    simp only [faR_eq] at cS cS' cJ cJ' cO cO'
    have hp : (posL s 1 q).length ≤ 1048576 := by
      unfold posL
      split
      · rw [idxL_len]; exact Nat.le_trans (podsL_len _ _ _) h1
      · simp
    change FCall _ _ _ (fun r H => r = .agg (ic (fcC s 1 q) :: (fcO s 1 q).cells) ∧ H = []) at cF
    generalize faC s (askW s 1 q setStep) = xS at *
    generalize faW s (askW s 1 q setStep) = wS at *
    generalize faC s (askW s 2 q jobStep) = xJ at *
    generalize faW s (askW s 2 q jobStep) = wJ at *
    generalize faC s (orphan s.obs) = xO at *
    generalize faW s (orphan s.obs) = wO at *
    generalize fcC s 1 q = xF at *
    generalize fcO s 1 q = oF at *
    generalize owF s 1 = xL at *
    generalize lvV s 1 q = vL at *
    generalize posL s 1 q = L at *
    refine acall_val cS (by simp) (by simp) ?_
    simp
    refine acall_val cJ (by simp) (by simp) ?_
    simp
    refine acall_val cO (by simp) (by simp) ?_
    simp
    refine codeOk_drawA mixed (by kernel_rfl) ?_
    simp
    refine qcall_val cS' (by simp) (by simp) ?_
    simp
    refine qcall_val cJ' (by simp) (by simp) ?_
    simp
    refine qcall_val cO' (by simp) (by simp) ?_
    simp
    refine qcall_val cL (by simp) (by simp) ?_
    simp
    refine qcall_val cL' (by simp) (by simp) ?_
    simp
    refine qcall_val cD (by simp) (by simp) ?_
    simp
    refine qcall_val cD' (by simp) (by simp) ?_
    simp
    refine cP ?_
    simp
    refine codeOk_drawA mixed (by kernel_rfl) ?_
    simp
    refine cP' ?_
    simp
    refine cP' ?_
    simp
    refine qcall_val (c_lwNums L L hp) (by simp) (by simp) ?_
    have hW2 : xJ = 0 → FCall Try.prog 19 [wJ.av] fun r H => r = iv .i64 0 ∧ H = [] := fun z => by have := c_WriteFault wJ; rwa [f2 z] at this
    have hW3 : xO = 0 → (FCall Try.prog 19 [wO.av] fun r H => r = iv .i64 0 ∧ H = []) ∧ wO.op = 2 := fun z => by have := c_WriteFault wO; rw [(f3 z).1] at this; exact ⟨this, (f3 z).2⟩
    by_cases zF : xF = 0
    · rcases f5 zF with ⟨zS, e1, e2⟩ | ⟨zS, hS⟩
      · by_cases zJ : xJ = 0
        · by_cases zO : xO = 0
          · simp [zS, zJ, zO]
            refine acall_val (hW2 zJ) (by simp) (by simp) ?_
            simp [zS, zJ, zO]
            refine acall_val (hW3 zO).1 (by simp) (by simp) ?_
            simp [zS, zJ, zO, (hW3 zO).2]
            refine acall_val cF (by simp) (by simp) ?_
            simp [zF]
            refine acall_val cL (by simp) (by simp) ?_
            simp [zS, e1, e2]
            omega
          · simp [zS, zJ, zO]
            refine acall_val (hW2 zJ) (by simp) (by simp) ?_
            simp [zS, zJ, zO]
            refine acall_val cF (by simp) (by simp) ?_
            simp [zF]
            refine acall_val cL (by simp) (by simp) ?_
            simp [zS, e1, e2]
            omega
        · by_cases zO : xO = 0
          · simp [zS, zJ, zO]
            refine acall_val (hW3 zO).1 (by simp) (by simp) ?_
            simp [zS, zJ, zO, (hW3 zO).2]
            refine acall_val cF (by simp) (by simp) ?_
            simp [zF]
            refine acall_val cL (by simp) (by simp) ?_
            simp [zS, e1, e2]
            omega
          · simp [zS, zJ, zO]
            refine acall_val cF (by simp) (by simp) ?_
            simp [zF]
            refine acall_val cL (by simp) (by simp) ?_
            simp [zS, e1, e2]
            omega
      · have hW1 := c_WriteFault wS
        rw [f1 zS] at hW1
        rcases hS with ⟨e1, e2⟩ | ⟨e1, e2⟩
        · by_cases zJ : xJ = 0
          · by_cases zO : xO = 0
            · simp [zS, zJ, zO]
              refine acall_val hW1 (by simp) (by simp) ?_
              simp [zS, zJ, zO]
              refine acall_val (hW2 zJ) (by simp) (by simp) ?_
              simp [zS, zJ, zO]
              refine acall_val (hW3 zO).1 (by simp) (by simp) ?_
              simp [zS, zJ, zO, (hW3 zO).2]
              refine acall_val cF (by simp) (by simp) ?_
              simp [zF]
              refine acall_val cL (by simp) (by simp) ?_
              simp [zS, e1, e2]
            · simp [zS, zJ, zO]
              refine acall_val hW1 (by simp) (by simp) ?_
              simp [zS, zJ, zO]
              refine acall_val (hW2 zJ) (by simp) (by simp) ?_
              simp [zS, zJ, zO]
              refine acall_val cF (by simp) (by simp) ?_
              simp [zF]
              refine acall_val cL (by simp) (by simp) ?_
              simp [zS, e1, e2]
          · by_cases zO : xO = 0
            · simp [zS, zJ, zO]
              refine acall_val hW1 (by simp) (by simp) ?_
              simp [zS, zJ, zO]
              refine acall_val (hW3 zO).1 (by simp) (by simp) ?_
              simp [zS, zJ, zO, (hW3 zO).2]
              refine acall_val cF (by simp) (by simp) ?_
              simp [zF]
              refine acall_val cL (by simp) (by simp) ?_
              simp [zS, e1, e2]
            · simp [zS, zJ, zO]
              refine acall_val hW1 (by simp) (by simp) ?_
              simp [zS, zJ, zO]
              refine acall_val cF (by simp) (by simp) ?_
              simp [zF]
              refine acall_val cL (by simp) (by simp) ?_
              simp [zS, e1, e2]
        · by_cases zJ : xJ = 0
          · by_cases zO : xO = 0
            · simp [zS, zJ, zO]
              refine acall_val hW1 (by simp) (by simp) ?_
              simp [zS, zJ, zO]
              refine acall_val (hW2 zJ) (by simp) (by simp) ?_
              simp [zS, zJ, zO]
              refine acall_val (hW3 zO).1 (by simp) (by simp) ?_
              simp [zS, zJ, zO, (hW3 zO).2]
              refine acall_val cF (by simp) (by simp) ?_
              simp [zF]
              refine acall_val cL (by simp) (by simp) ?_
              by_cases g : oF.a < vL
              · simp [zS, e1, g]
              · have g2 : vL < (L.length : Int) := e2.resolve_left g
                simp [zS, e1, g, g2]
            · simp [zS, zJ, zO]
              refine acall_val hW1 (by simp) (by simp) ?_
              simp [zS, zJ, zO]
              refine acall_val (hW2 zJ) (by simp) (by simp) ?_
              simp [zS, zJ, zO]
              refine acall_val cF (by simp) (by simp) ?_
              simp [zF]
              refine acall_val cL (by simp) (by simp) ?_
              by_cases g : oF.a < vL
              · simp [zS, e1, g]
              · have g2 : vL < (L.length : Int) := e2.resolve_left g
                simp [zS, e1, g, g2]
          · by_cases zO : xO = 0
            · simp [zS, zJ, zO]
              refine acall_val hW1 (by simp) (by simp) ?_
              simp [zS, zJ, zO]
              refine acall_val (hW3 zO).1 (by simp) (by simp) ?_
              simp [zS, zJ, zO, (hW3 zO).2]
              refine acall_val cF (by simp) (by simp) ?_
              simp [zF]
              refine acall_val cL (by simp) (by simp) ?_
              by_cases g : oF.a < vL
              · simp [zS, e1, g]
              · have g2 : vL < (L.length : Int) := e2.resolve_left g
                simp [zS, e1, g, g2]
            · simp [zS, zJ, zO]
              refine acall_val hW1 (by simp) (by simp) ?_
              simp [zS, zJ, zO]
              refine acall_val cF (by simp) (by simp) ?_
              simp [zF]
              refine acall_val cL (by simp) (by simp) ?_
              by_cases g : oF.a < vL
              · simp [zS, e1, g]
              · have g2 : vL < (L.length : Int) := e2.resolve_left g
                simp [zS, e1, g, g2]
    · have zS := f4 zF
      have zS0 : ¬ xS = 0 := by omega
      by_cases zJ : xJ = 0
      · by_cases zO : xO = 0
        · simp [zS0, zJ, zO]
          refine acall_val (hW2 zJ) (by simp) (by simp) ?_
          simp [zS0, zJ, zO]
          refine acall_val (hW3 zO).1 (by simp) (by simp) ?_
          simp [zS0, zJ, zO, (hW3 zO).2]
          refine acall_val cF (by simp) (by simp) ?_
          simp [zF]
          simp [zS, zF]
        · simp [zS0, zJ, zO]
          refine acall_val (hW2 zJ) (by simp) (by simp) ?_
          simp [zS0, zJ, zO]
          refine acall_val cF (by simp) (by simp) ?_
          simp [zF]
          simp [zS, zF]
      · by_cases zO : xO = 0
        · simp [zS0, zJ, zO]
          refine acall_val (hW3 zO).1 (by simp) (by simp) ?_
          simp [zS0, zJ, zO, (hW3 zO).2]
          refine acall_val cF (by simp) (by simp) ?_
          simp [zF]
          simp [zS, zF]
        · simp [zS0, zJ, zO]
          refine acall_val cF (by simp) (by simp) ?_
          simp [zF]
          simp [zS, zF]
  · have ha' : (1048576 : Int) < a.length := by omega
    simp
    refine acall_val (c_lwBig a) (by simp) (by simp) ?_
    simp [ha']
theorem walk_FnSteps {x : AV} (h : OkAV false [.slice [.int .u8]] x) : FCall Try.prog 3 [x] TT := by
  obtain ⟨bs, rfl⟩ := av_bytes h; exact law_FnSteps bs
end Go.Proofs.Ytiogdfliailenaa
