/-
  The next write of all: on both sides; the functions that are asked of a cache.
-/
import Derived.Test.YtcminohhdbhikaaN8
namespace Go.Proofs.Ytcminohhdbhikaa
set_option maxRecDepth 100000
set_option linter.unusedSimpArgs false
set_option linter.unusedVariables false
set_option linter.unnecessarySimpa false
open Go Go.Abs Go.Proofs
theorem nextW_orphan {l : List Ob} {w : Wr} (h : orphan l = some w) : nextW l = some w := by unfold nextW; rw [h]
theorem nextW_set {l : List Ob} {w : Wr} (hr : rises l = true) (h : orphan l = none) (hs : l.findSome? (setOf l) = some w) : nextW l = some w := by unfold nextW; rw [h, next_kinds hr, hs]
theorem nextW_job {l : List Ob} (hr : rises l = true) (h : orphan l = none) (hs : l.findSome? (setOf l) = none) : nextW l = l.findSome? (jobOf l) := by unfold nextW; rw [h, next_kinds hr, hs]
theorem nextW_step {l : List Ob} (h : orphan l = none) : nextW l = l.findSome? (stepOf l) := by unfold nextW; rw [h]
theorem ObsOk.set {l : List Ob} (hl : ObsOk l) {o : Ob} (ho : o ∈ l) (hk : o.kind = 1) : 0 ≤ o.a ∧ o.a ≤ 8 := (ob_set (hl.each o ho) hk).2.1
theorem ObsOk.job {l : List Ob} (hl : ObsOk l) {o : Ob} (ho : o ∈ l) (hk : o.kind = 2) : 0 ≤ o.a ∧ o.a ≤ 8 := (ob_job (hl.each o ho) hk).2.1
set_option maxRecDepth 100000 in
theorem c_l6Next (l : List Ob) (hl : ObsOk l) : FCall Try.prog 66 [rlist l] fun r H => r = .tup [((nextW l).getD wr0).av, bv (nextW l).isSome] ∧ H = [] := by
  have hl60 := hl.len
  refine fcall_gather [] id fun clk => acall_of_aw Try.func66 rfl ?_
  simp
  refine acall_tup (c_l6Orphan l hl) rfl rfl ?_
  cases horp : orphan l with
  | some w =>
    simp [nextW_orphan horp, bodyA, ressA]
  | none =>
    simp
    refine codeOk_loop [true, false, true, false, false, false, true] 1 (fun z => ∃ (i c : Nat), i ≤ l.length ∧ (∀ (j : Nat) (a : Ob), j < i → l[j]? = some a → setOf l a = none) ∧ z = ⟨[rlist l, unknown, .one (.ptr 0 clk 0), unknown, unknown, unknown, iv .i64 i] ++ List.replicate 57 unknown, [some ⟨clk, 52, 10, wr0.cells⟩], c⟩)
      (fun z => match z.tmps.getD 6 unknown with | .one (.d (.s (.int _ i))) => l.length - i.toNat | _ => 0) ?_ ?_
    · simp
      exact ⟨0, by omega, fun j a h => absurd h (by omega), by simp [wr0, ob0]⟩
    · rintro z ⟨i, c0, hi, hno, rfl⟩
      by_cases hlt : i < l.length
      · have hw := wrap_succ (i := i) (by omega)
        obtain ⟨o, t, hd, ho, _, htk⟩ := drop_at l hlt
        by_cases hk : o.kind = 1
        · have hso : setOf l o = setStep l o := if_pos hk
          simp [hlt, hd, eq_true hk]
          refine acall_tup (c_l6Set l o (rds t) hl hk (hl.set (List.mem_of_getElem? ho) hk)) rfl rfl ?_
          cases hs : setStep l o with
          | some w =>
            have hf := find_at hno ho (hso.trans hs)
            simp [nextW_set hl.rise horp hf, bodyA, ressA]
          | none =>
            simp [hw]
            exact ⟨⟨i + 1, by omega, lt_succ_cases hno ho (hso.trans hs), by omega⟩, by omega⟩
        · have hso : setOf l o = none := if_neg hk
          simp [hlt, hd, hk, hw]
          exact ⟨⟨i + 1, by omega, lt_succ_cases hno ho hso, by omega⟩, by omega⟩
      · have e : i = l.length := by omega
        have hsn : l.findSome? (setOf l) = none := find_no (by rw [e] at hno; exact hno)
        have hnw := nextW_job hl.rise horp hsn
        simp [hlt]
        refine codeOk_loop [true, false, true, false, false, false, false, false, false, true] 1 (fun z => ∃ (i c : Nat), i ≤ l.length ∧ (∀ (j : Nat) (a : Ob), j < i → l[j]? = some a → jobOf l a = none) ∧ z = ⟨[rlist l, unknown, .one (.ptr 0 clk 0), unknown, unknown, unknown, unknown, unknown, unknown, iv .i64 i] ++ List.replicate 54 unknown, [some ⟨clk, 52, 10, wr0.cells⟩], c⟩)
          (fun z => match z.tmps.getD 9 unknown with | .one (.d (.s (.int _ i))) => l.length - i.toNat | _ => 0) ?_ ?_
        · simp
          exact ⟨0, by omega, fun j a h => absurd h (by omega), by simp [wr0, ob0]⟩
        · rintro z ⟨i, c0, hi, hno, rfl⟩
          by_cases hlt : i < l.length
          · have hw := wrap_succ (i := i) (by omega)
            obtain ⟨o, t, hd, ho, _, htk⟩ := drop_at l hlt
            by_cases hk : o.kind = 2
            · have hso : jobOf l o = jobStep l o := if_pos hk
              simp [hlt, hd, eq_true hk]
              refine acall_tup (c_l6Job l o (rds t) hl hk (hl.job (List.mem_of_getElem? ho) hk)) rfl rfl ?_
              cases hs : jobStep l o with
              | some w =>
                have hf := find_at hno ho (hso.trans hs)
                simp [hnw, hf, bodyA, ressA]
              | none =>
                simp [hw]
                exact ⟨⟨i + 1, by omega, lt_succ_cases hno ho (hso.trans hs), by omega⟩, by omega⟩
            · have hso : jobOf l o = none := if_neg hk
              simp [hlt, hd, hk, hw]
              exact ⟨⟨i + 1, by omega, lt_succ_cases hno ho hso, by omega⟩, by omega⟩
          · have e : i = l.length := by omega
            have hjn : l.findSome? (jobOf l) = none := find_no (by rw [e] at hno; exact hno)
            simp [hlt, hnw, hjn, bodyA, ressA, wr0, ob0]
theorem faR_zero {s : Ca} {x : Option Wr} (h : caFault s = 0) : faR s x = stR x := if_pos h
set_option maxRecDepth 100000 in
theorem c_NextWrite (s : Ca) (h1 : s.obs.length ≤ 1048576) : FCall Try.prog 34 [s.av] fun r H => r = faR s (nextW s.obs) ∧ H = [] := by
  have hno := c_NextOrphan s h1
  have hin := caFault_in s
  refine fcall_gather [] id fun clk => acall_of_aw Try.func34 rfl ?_
  by_cases h : caFault s = 0
  · have hl := caFault_obs h
    have hl60 := hl.len
    rw [faR_zero h] at hno ⊢
    obtain ⟨v, l⟩ := s
    simp only at hl hl60 h1 hno ⊢
    simp
    refine acall_val hno rfl rfl ?_
    cases horp : orphan l with
    | some w =>
      simp [nextW_orphan horp, stR, stCode]
    | none =>
      rw [nextW_step horp]
      obtain ⟨N, hN⟩ : ∃ N, N = l.findSome? (stepOf l) := ⟨_, rfl⟩
      rw [← hN]
      simp [stR, stCode]
      refine codeOk_loop [false, true, true, true, false, false, false, false, false, false, false, false, false, true, true, true] 3 (fun z => ∃ (i c g : Nat), i ≤ l.length ∧ (∀ (j : Nat) (a : Ob), j < i → l[j]? = some a → stepOf l a = none) ∧ z = ⟨[unknown, .one (.ptr 0 clk 0), .one (.ptr 1 (clk + 1) 0), .one (.ptr 2 g 0), unknown, unknown, unknown, unknown, unknown, unknown, unknown, unknown, unknown, rlist l, iv .i64 l.length, iv .i64 i] ++ List.replicate 22 unknown, [some ⟨clk, 34, 2, [ic v, .d (.list l.length (rds l))]⟩, some ⟨clk + 1, 54, 11, ic 0 :: wr0.cells⟩, some ⟨g, 54, 11, ic 4 :: wr0.cells⟩], c⟩)
        (fun z => match z.tmps.getD 15 unknown with | .one (.d (.s (.int _ i))) => l.length - i.toNat | _ => 0) ?_ ?_
      · simp
        exact ⟨0, by omega, fun j a h => absurd h (by omega), _, _, ⟨rfl, rfl⟩, ⟨by simp [wr0, ob0], rfl⟩, rfl⟩
      · rintro z ⟨i, c0, g, hi, hno, rfl⟩
        by_cases hlt : i < l.length
        · have hw : IntKind.i64.wrap ((i : Int) + 1) = (i : Int) + 1 := wrap_i64 (by omega) (by omega)
          obtain ⟨o, t, hd, ho, _, _⟩ := drop_at l hlt
          by_cases hk : o.kind = 1
          · have hso : stepOf l o = setStep l o := if_pos hk
            simp [hlt, hd, eq_true hk]
            refine acall_val (c_stepForSet l o hl hk (hl.set (List.mem_of_getElem? ho) hk)) (by simp) rfl ?_
            cases hs : setStep l o with
            | some w =>
              have hf := hN.trans (find_at hno ho (hso.trans hs))
              simp [hf, stR, stCode]
            | none =>
              simp [hw, stR, stCode]
              exact ⟨⟨i + 1, by omega, lt_succ_cases hno ho (hso.trans hs), _, _, ⟨rfl, by omega⟩, rfl, rfl⟩, by omega⟩
          · by_cases hk2 : o.kind = 2
            · have hso : stepOf l o = jobStep l o := by unfold stepOf; rw [if_neg hk, if_pos hk2]
              simp [hlt, hd, hk, eq_true hk2]
              refine acall_val (c_stepForJob l o hl hk2 (hl.job (List.mem_of_getElem? ho) hk2)) (by simp) rfl ?_
              cases hs : jobStep l o with
              | some w =>
                have hf := hN.trans (find_at hno ho (hso.trans hs))
                simp [hf, stR, stCode]
              | none =>
                simp [hw, stR, stCode]
                exact ⟨⟨i + 1, by omega, lt_succ_cases hno ho (hso.trans hs), _, _, ⟨rfl, by omega⟩, rfl, rfl⟩, by omega⟩
            · have hso : stepOf l o = none := by unfold stepOf; rw [if_neg hk, if_neg hk2]
              simp [hlt, hd, hk, hk2, hw]
              exact ⟨⟨i + 1, by omega, lt_succ_cases hno ho hso, _, _, ⟨rfl, by omega⟩, rfl, rfl⟩, by omega⟩
        · have e : i = l.length := by omega
          have hf : N = none := hN.trans (find_no (by rw [e] at hno; exact hno))
          simp [hlt, hf, stR, stCode]
  · have h4 : ¬ caFault s = 4 := by omega
    simp
    refine acall_val hno (by simp) (by simp [faR, h]) ?_
    simp [faR, h, h4]
end Go.Proofs.Ytcminohhdbhikaa
