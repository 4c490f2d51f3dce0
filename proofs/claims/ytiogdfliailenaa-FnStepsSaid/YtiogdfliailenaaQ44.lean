/-
  How many pods live, how many indexes are done: on both sides; their laws.
-/
import Derived.Test.YtiogdfliailenaaQ43
namespace Go.Proofs.Ytiogdfliailenaa
set_option maxRecDepth 100000
set_option linter.unusedSimpArgs false
set_option linter.unusedVariables false
set_option linter.unnecessarySimpa false
open Go Go.Abs Go.Proofs
def owF (s : Ca) (k : Int) : Int := if caFault s = 0 then (if k = 1 ∨ k = 2 then 0 else 1) else caFault s
theorem owF_zero {s : Ca} {k : Int} (h : owF s k = 0) : caFault s = 0 := by
  unfold owF at h
  split at h
  · rename_i g; exact g
  · exact h
set_option maxRecDepth 100000 in
theorem c_ownerFault (s : Ca) (k w : Int) (h1 : s.obs.length ≤ 1048576) : FCall Try.prog 36 [s.av, kav k w] fun r H => r = iv .i64 (owF s k) ∧ H = [] := by
  refine fcall_gather [] id fun clk => acall_of_aw Try.func36 rfl ?_
  simp
  refine acall_val (c_CacheFault s h1) (by simp) (by simp) ?_
  unfold owF
  by_cases h : caFault s = 0
  · by_cases k1 : k = 1
    · simp [h, k1]
    · by_cases k2 : k = 2 <;> simp [h, k1, k2]
  · simp [h]
def lvV (s : Ca) (k w : Int) : Int := if owF s k = 0 then liveN (podsL s.obs k w) else 0
theorem a_live (l : List Ob) (hl : l.length ≤ 60) {H : AHeap} {c : Nat} {K : AV → AHeap → Nat → Prop} (hK : K (rlist (l.filter fun o => decide (o.d = 0))) H c) : ACall Try.prog 26 [rlist l, .one (.d (.fn 63 [.rptr [dc 0]]))] H c K :=
  a_those l _ _ (fun o => decide (o.d = 0)) (by omega) (by decide) rfl (fun o ho => c_isIn1 o 0) rfl hK
set_option maxRecDepth 100000 in
theorem c_LiveOf (s : Ca) (k w : Int) (h1 : s.obs.length ≤ 1048576) : FCall Try.prog 12 [s.av, kav k w] fun r H => r = .agg [ic (owF s k), ic (lvV s k w)] ∧ H = [] := by
  refine fcall_gather [] id fun clk => acall_of_aw Try.func12 rfl ?_
  simp
  refine acall_val (c_ownerFault s k w h1) (by simp) (by simp) ?_
  unfold lvV
  by_cases h : owF s k = 0
  · have hl60 := (caFault_obs (owF_zero h)).len
    have hlen := podsL_len s.obs k w
    simp [h]
    refine codeOk_drawA mixed (by kernel_rfl) ?_
    simp
    refine qcall_data (d_isPodOf k w) rfl rfl ?_
    simp
    refine q_podsP s.obs k w hl60 ?_
    obtain ⟨L, hL⟩ : ∃ L, L = podsL s.obs k w := ⟨_, rfl⟩
    rw [← hL] at hlen ⊢
    simp
    refine acall_data (d_isIn 0) rfl rfl ?_
    simp
    refine a_live L (by omega) ?_
    simp [liveN]
  · simp [h]
set_option maxRecDepth 100000 in
theorem c_sLiveOf (s : Ca) (k w : Int) : FCall Try.prog 13 [s.av, kav k w] fun r H => r = .agg [ic (owF s k), ic (lvV s k w)] ∧ H = [] := by
  refine fcall_gather [] id fun clk => acall_of_aw Try.func13 rfl ?_
  simp
  refine acall_val (c_sCacheFault s) (by simp) (by simp) ?_
  unfold lvV owF
  by_cases h : caFault s = 0
  · have hl60 := (caFault_obs h).len
    have hlen := podsL_len s.obs k w
    simp [h]
    refine acall_val (c_l6Owner k w) (by simp) (by simp) ?_
    by_cases hk : k = 1 ∨ k = 2
    · simp [hk]
      refine a_l6Pods s.obs k w (by omega) ?_
      obtain ⟨L, hL⟩ : ∃ L, L = podsL s.obs k w := ⟨_, rfl⟩
      rw [← hL] at hlen ⊢
      simp
      refine acall_val (c_l6Live L (by omega)) (by simp) (by simp) ?_
      simp
      intro a b; omega
    · simp [hk]
      intro a; omega
  · simp [h]
def dnO (s : Ca) (q : Int) : Option Ob := if caFault s = 0 then findOb s.obs 2 q else none
def dnC (s : Ca) (q : Int) : Int := if caFault s = 0 then (if (findOb s.obs 2 q).isSome then 0 else 4) else caFault s
def dnV (s : Ca) (q : Int) : Int := match dnO s q with | some j => doneN (podsL s.obs j.kind j.id) j.a.toNat | none => 0
set_option maxRecDepth 100000 in
theorem c_DoneOf (s : Ca) (q : Int) (h1 : s.obs.length ≤ 1048576) : FCall Try.prog 14 [s.av, iv .i64 q] fun r H => r = .agg [ic (dnC s q), ic (dnV s q)] ∧ H = [] := by
  refine fcall_gather [] id fun clk => acall_of_aw Try.func14 rfl ?_
  unfold dnC dnV dnO
  by_cases h : caFault s = 0
  · have hl := caFault_obs h
    have hl60 := hl.len
    simp
    cases hf : findOb s.obs 2 q with
    | none =>
      refine acall_val (cached_none h1 h hf) (by simp) (by simp) ?_
      simp [h]
    | some o =>
      obtain ⟨hm, hk, hid, _⟩ := find_in hl hf
      refine acall_val (cached_some h1 h hf) (by simp) (by simp) ?_
      simp [h]
      have hp := podsL_ok hl o.kind o.id
      have hlen := podsL_len s.obs o.kind o.id
      refine codeOk_drawA mixed (by kernel_rfl) ?_
      simp
      refine qcall_val (c_keyOf o) (by simp) (by simp) ?_
      simp
      refine qcall_data (d_isPodOf o.kind o.id) rfl rfl ?_
      simp
      refine q_podsP s.obs o.kind o.id hl60 ?_
      obtain ⟨L, hL⟩ : ∃ L, L = podsL s.obs o.kind o.id := ⟨_, rfl⟩
      rw [← hL] at hlen hp ⊢
      simp
      refine acall_val (c_doneIndexes L o.a hp (by omega) (hl.job hm hk)) (by simp) (by simp) ?_
      simp
  · simp
    refine acall_val (cached_bad (a := 2) (b := q) h1 h) (by simp) (by simp) ?_
    simp [h]
set_option maxRecDepth 100000 in
theorem c_sDoneOf (s : Ca) (q : Int) : FCall Try.prog 15 [s.av, iv .i64 q] fun r H => r = .agg [ic (dnC s q), ic (dnV s q)] ∧ H = [] := by
  refine fcall_gather [] id fun clk => acall_of_aw Try.func15 rfl ?_
  unfold dnC dnV dnO
  simp
  refine acall_val (c_sCacheFault s) (by simp) (by simp) ?_
  by_cases h : caFault s = 0
  · have hl := caFault_obs h
    have hl60 := hl.len
    simp [h]
    refine acall_val (c_l3Find s.obs 2 q (by omega)) (by simp) (by simp) ?_
    cases hf : findOb s.obs 2 q with
    | none =>
      simp [find_out hl hf, idxVal]
    | some o =>
      obtain ⟨hm, hk, hid, i, t, hi, hlt, hd⟩ := find_in hl hf
      have hn : ¬ (i : Int) < 0 := by omega
      simp [hi, idxVal_some, hn]
      refine codeOk_drawA mixed (by kernel_rfl) ?_
      simp [hlt, hd]
      refine qcall_val (c_l6Done s.obs o (rds t) hl (hl.job hm hk)) (by simp) (by simp) ?_
      simp
  · simp [h]
end Go.Proofs.Ytiogdfliailenaa
