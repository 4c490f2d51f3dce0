/-
  The functions that are asked of a cache what is to be done: on both sides; their laws.
-/
import Derived.Test.YtiogdfliailenaaQ40
namespace Go.Proofs.Ytiogdfliailenaa
set_option maxRecDepth 100000
set_option linter.unusedSimpArgs false
set_option linter.unusedVariables false
set_option linter.unnecessarySimpa false
open Go Go.Abs Go.Proofs
theorem find_in {l : List Ob} (hl : ObsOk l) {a b : Int} {o : Ob} (h : findOb l a b = some o) : o ∈ l ∧ o.kind = a ∧ o.id = b ∧ ∃ i t, idxOb l a b = some i ∧ i < l.length ∧ l.drop i = o :: t := by
  rw [findOb_idx hl.rise] at h
  cases hi : idxOb l a b with
  | none => rw [hi] at h; cases h
  | some i =>
    rw [hi] at h
    obtain ⟨o', ho, h1, h2, hlt⟩ := idx_some hi
    have : some o' = some o := ho.symm.trans h
    cases this
    obtain ⟨o2, t, hd, ho2, _, _⟩ := drop_at l hlt
    rw [ho] at ho2; cases ho2
    exact ⟨List.mem_of_getElem? ho, h1, h2, i, t, rfl, hlt, hd⟩
theorem find_out {l : List Ob} (hl : ObsOk l) {a b : Int} (h : findOb l a b = none) : idxOb l a b = none := by
  rw [findOb_idx hl.rise] at h
  cases hi : idxOb l a b with
  | none => rfl
  | some i =>
    rw [hi] at h
    obtain ⟨o', ho, h1, h2, hlt⟩ := idx_some hi
    exact absurd (ho.symm.trans h) (by simp)
theorem cached_some {s : Ca} {a b : Int} {o : Ob} (h1 : s.obs.length ≤ 1048576) (h : caFault s = 0) (hf : findOb s.obs a b = some o) : FCall Try.prog 22 [s.av, kav a b] fun r H => r = .agg (ic 0 :: o.cells) ∧ H = [] := by
  have k := c_FindCached s a b h1
  simpa [h, hf] using k
theorem cached_none {s : Ca} {a b : Int} (h1 : s.obs.length ≤ 1048576) (h : caFault s = 0) (hf : findOb s.obs a b = none) : FCall Try.prog 22 [s.av, kav a b] fun r H => r = .agg (ic 4 :: ob0.cells) ∧ H = [] := by
  have k := c_FindCached s a b h1
  simpa [h, hf] using k
theorem cached_bad {s : Ca} {a b : Int} (h1 : s.obs.length ≤ 1048576) (h : ¬ caFault s = 0) : FCall Try.prog 22 [s.av, kav a b] fun r H => r = .agg (ic (caFault s) :: ob0.cells) ∧ H = [] := by
  have k := c_FindCached s a b h1
  simpa [h] using k
def faC (s : Ca) (x : Option Wr) : Int := if caFault s = 0 then stCode x else caFault s
def faW (s : Ca) (x : Option Wr) : Wr := if caFault s = 0 then x.getD wr0 else wr0
theorem faR_eq (s : Ca) (x : Option Wr) : faR s x = .agg (ic (faC s x) :: (faW s x).cells) := by
  unfold faR faC faW stR
  by_cases h : caFault s = 0 <;> simp [h]
def askW (s : Ca) (k q : Int) (f : List Ob → Ob → Option Wr) : Option Wr := (findOb s.obs k q).bind (f s.obs)
set_option maxRecDepth 100000 in
theorem c_NextForSet (s : Ca) (q : Int) (h1 : s.obs.length ≤ 1048576) : FCall Try.prog 6 [s.av, iv .i64 q] fun r H => r = faR s (askW s 1 q setStep) ∧ H = [] := by
  refine fcall_gather [] id fun clk => acall_of_aw Try.func6 rfl ?_
  unfold askW
  by_cases h : caFault s = 0
  · have hl := caFault_obs h
    rw [faR_zero h]
    simp
    cases hf : findOb s.obs 1 q with
    | none =>
      refine acall_val (cached_none h1 h hf) (by simp) (by simp) ?_
      simp [stR, stCode, wr0, ob0]
    | some o =>
      obtain ⟨hm, hk, hid, _⟩ := find_in hl hf
      refine acall_val (cached_some h1 h hf) (by simp) (by simp) ?_
      simp
      refine acall_val (c_stepForSet s.obs o hl hk (hl.set hm hk)) (by simp) rfl ?_
      simp [stR]
  · simp
    refine acall_val (cached_bad (a := 1) (b := q) h1 h) (by simp) (by simp) ?_
    simp [h, faR, wr0, ob0]
set_option maxRecDepth 100000 in
theorem c_sNextForSet (s : Ca) (q : Int) : FCall Try.prog 9 [s.av, iv .i64 q] fun r H => r = faR s (askW s 1 q setStep) ∧ H = [] := by
  refine fcall_gather [] id fun clk => acall_of_aw Try.func9 rfl ?_
  unfold askW
  simp
  refine acall_val (c_sCacheFault s) (by simp) (by simp) ?_
  by_cases h : caFault s = 0
  · have hl := caFault_obs h
    have hl60 := hl.len
    rw [faR_zero h]
    simp [h]
    refine acall_val (c_l3Find s.obs 1 q (by omega)) (by simp) (by simp) ?_
    cases hf : findOb s.obs 1 q with
    | none =>
      simp [find_out hl hf, idxVal, stR, stCode, wr0, ob0]
    | some o =>
      obtain ⟨hm, hk, hid, i, t, hi, hlt, hd⟩ := find_in hl hf
      have hn : ¬ (i : Int) < 0 := by omega
      simp [hi, idxVal_some, hn]
      refine codeOk_drawS [(.n, 0), (.n, 1), (.n, 2), (.n, 3), (.n, 4), (.n, 5), (.q, 6), (.s, 7), (.s, 8), (.s, 9), (.n, 10), (.n, 11), (.n, 12)] mixed rfl rfl (by kernel_rfl) ?_
      simp [hlt, hd]
      refine qcall_tup (c_l6Set s.obs o (rds t) hl hk (hl.set hm hk)) rfl rfl ?_
      simp
      cases setStep s.obs o with
      | none => simp [stR, stCode, wr0, ob0]
      | some w => simp [stR, stCode]
  · simp [h, faR, wr0, ob0]
set_option maxRecDepth 100000 in
theorem c_NextForJob (s : Ca) (q : Int) (h1 : s.obs.length ≤ 1048576) : FCall Try.prog 7 [s.av, iv .i64 q] fun r H => r = faR s (askW s 2 q jobStep) ∧ H = [] := by
  refine fcall_gather [] id fun clk => acall_of_aw Try.func7 rfl ?_
  unfold askW
  by_cases h : caFault s = 0
  · have hl := caFault_obs h
    rw [faR_zero h]
    simp
    cases hf : findOb s.obs 2 q with
    | none =>
      refine acall_val (cached_none h1 h hf) (by simp) (by simp) ?_
      simp [stR, stCode, wr0, ob0]
    | some o =>
      obtain ⟨hm, hk, hid, _⟩ := find_in hl hf
      refine acall_val (cached_some h1 h hf) (by simp) (by simp) ?_
      simp
      refine acall_val (c_stepForJob s.obs o hl hk (hl.job hm hk)) (by simp) rfl ?_
      simp [stR]
  · simp
    refine acall_val (cached_bad (a := 2) (b := q) h1 h) (by simp) (by simp) ?_
    simp [h, faR, wr0, ob0]
set_option maxRecDepth 100000 in
theorem c_sNextForJob (s : Ca) (q : Int) : FCall Try.prog 10 [s.av, iv .i64 q] fun r H => r = faR s (askW s 2 q jobStep) ∧ H = [] := by
  refine fcall_gather [] id fun clk => acall_of_aw Try.func10 rfl ?_
  unfold askW
  simp
  refine acall_val (c_sCacheFault s) (by simp) (by simp) ?_
  by_cases h : caFault s = 0
  · have hl := caFault_obs h
    have hl60 := hl.len
    rw [faR_zero h]
    simp [h]
    refine acall_val (c_l3Find s.obs 2 q (by omega)) (by simp) (by simp) ?_
    cases hf : findOb s.obs 2 q with
    | none =>
      simp [find_out hl hf, idxVal, stR, stCode, wr0, ob0]
    | some o =>
      obtain ⟨hm, hk, hid, i, t, hi, hlt, hd⟩ := find_in hl hf
      have hn : ¬ (i : Int) < 0 := by omega
      simp [hi, idxVal_some, hn]
      refine codeOk_drawS [(.n, 0), (.n, 1), (.n, 2), (.n, 3), (.n, 4), (.n, 5), (.q, 6), (.s, 7), (.s, 8), (.s, 9), (.n, 10), (.n, 11), (.n, 12)] mixed rfl rfl (by kernel_rfl) ?_
      simp [hlt, hd]
      refine qcall_tup (c_l6Job s.obs o (rds t) hl hk (hl.job hm hk)) rfl rfl ?_
      simp
      cases jobStep s.obs o with
      | none => simp [stR, stCode, wr0, ob0]
      | some w => simp [stR, stCode]
  · simp [h, faR, wr0, ob0]
set_option maxRecDepth 100000 in
theorem c_sNextOrphan (s : Ca) : FCall Try.prog 11 [s.av] fun r H => r = faR s (orphan s.obs) ∧ H = [] := by
  refine fcall_gather [] id fun clk => acall_of_aw Try.func11 rfl ?_
  simp
  refine acall_val (c_sCacheFault s) (by simp) (by simp) ?_
  by_cases h : caFault s = 0
  · have hl := caFault_obs h
    rw [faR_zero h]
    simp [h]
    refine acall_tup (c_l6Orphan s.obs hl) rfl rfl ?_
    simp
    cases orphan s.obs with
    | none => simp [stR, stCode, wr0, ob0]
    | some w => simp [stR, stCode]
  · simp [h, faR, wr0, ob0]
end Go.Proofs.Ytiogdfliailenaa
