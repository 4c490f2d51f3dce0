/-
  The next write of all: on both sides; the functions that are asked of a cache.
-/
import Derived.Test.YtiogdfliailenaaQ39
namespace Go.Proofs.Ytiogdfliailenaa
set_option maxRecDepth 100000
set_option linter.unusedSimpArgs false
set_option linter.unusedVariables false
set_option linter.unnecessarySimpa false
open Go Go.Abs Go.Proofs
theorem nextW_orphan {l : List Ob} {w : Wr} (h : orphan l = some w) : nextW l = some w := by unfold nextW; rw [h]
theorem nextW_set {l : List Ob} {w : Wr} (hr : rises l = true) (h : orphan l = none) (hs : l.findSome? (setOf l) = some w) : nextW l = some w := by unfold nextW; rw [h, next_kinds hr, hs]
theorem nextW_job {l : List Ob} (hr : rises l = true) (h : orphan l = none) (hs : l.findSome? (setOf l) = none) : nextW l = l.findSome? (jobOf l) := by unfold nextW; rw [h, next_kinds hr, hs]
theorem nextW_step {l : List Ob} (h : orphan l = none) : nextW l = l.findSome? (stepOf l) := by unfold nextW; rw [h]
theorem ObsOk.set {l : List Ob} (hl : ObsOk l) {o : Ob} (ho : o ∈ l) (hk : o.kind = 1) : 0 ≤ o.a ∧ o.a ≤ 8 := (ob_set (hl.each o ho) hk).2.1
theorem ObsOk.job {l : List Ob} (hl : ObsOk l) {o : Ob} (ho : o ∈ l) (hk : o.kind = 2) : 0 ≤ o.a ∧ o.a ≤ 8 := (ob_job (hl.each o ho) hk).2.1
set_option maxRecDepth 100000 in
theorem c_l6Next (l : List Ob) (hl : ObsOk l) : FCall Try.prog 81 [rlist l] fun r H => r = .tup [((nextW l).getD wr0).av, bv (nextW l).isSome] ∧ H = [] := by
  have hl60 := hl.len
  refine fcall_gather [] id fun clk => acall_of_aw Try.func81 rfl ?_
  simp
  refine acall_tup (c_l6Orphan l hl) rfl rfl ?_
  cases horp : orphan l with
  | some w =>
    simp [nextW_orphan horp, bodyA, ressA]
  | none =>
    simp
    refine codeOk_loop [true, false, true, false, false, false, true] 1 (fun z => ∃ (i c : Nat), i ≤ l.length ∧ (∀ (j : Nat) (a : Ob), j < i → l[j]? = some a → setOf l a = none) ∧ z = ⟨[rlist l, unknown, .one (.ptr 0 clk 0), unknown, unknown, unknown, iv .i64 i] ++ List.replicate 57 unknown, [some ⟨clk, 32, 10, wr0.cells⟩], c⟩)
      (fun z => match z.tmps.getD 6 unknown with | .one (.d (.s (.int _ i))) => l.length - i.toNat | _ => 0) ?_ ?_
    · simp
      exact ⟨0, by omega, fun j a h => absurd h (by omega), by simp [wr0, ob0]⟩
    · rintro z ⟨i, c0, hi, hno, rfl⟩
      by_cases hlt : i < l.length
      · have hw := wrap_succ (i := i) (by omega)
        obtain ⟨o, t, hd, ho, _, htk⟩ := drop_at l hlt
        by_cases hk : o.kind = 1
        · have hso : setOf l o = setStep l o := if_pos hk
          simp [hlt, hd, eq_true hk]
          refine acall_tup (c_l6Set l o (rds t) hl hk (hl.set (List.mem_of_getElem? ho) hk)) rfl rfl ?_
          cases hs : setStep l o with
          | some w =>
            have hf := find_at hno ho (hso.trans hs)
            simp [nextW_set hl.rise horp hf, bodyA, ressA]
          | none =>
            simp [hw]
            exact ⟨⟨i + 1, by omega, lt_succ_cases hno ho (hso.trans hs), by omega⟩, by omega⟩
        · have hso : setOf l o = none := if_neg hk
          simp [hlt, hd, hk, hw]
          exact ⟨⟨i + 1, by omega, lt_succ_cases hno ho hso, by omega⟩, by omega⟩
      · have e : i = l.length := by omega
        have hsn : l.findSome? (setOf l) = none := find_no (by rw [e] at hno; exact hno)
        have hnw := nextW_job hl.rise horp hsn
        simp [hlt]
        refine codeOk_loop [true, false, true, false, false, false, false, false, false, true] 1 (fun z => ∃ (i c : Nat), i ≤ l.length ∧ (∀ (j : Nat) (a : Ob), j < i → l[j]? = some a → jobOf l a = none) ∧ z = ⟨[rlist l, unknown, .one (.ptr 0 clk 0), unknown, unknown, unknown, unknown, unknown, unknown, iv .i64 i] ++ List.replicate 54 unknown, [some ⟨clk, 32, 10, wr0.cells⟩], c⟩)
          (fun z => match z.tmps.getD 9 unknown with | .one (.d (.s (.int _ i))) => l.length - i.toNat | _ => 0) ?_ ?_
        · simp
          exact ⟨0, by omega, fun j a h => absurd h (by omega), by simp [wr0, ob0]⟩
        · rintro z ⟨i, c0, hi, hno, rfl⟩
          by_cases hlt : i < l.length
          · have hw := wrap_succ (i := i) (by omega)
            obtain ⟨o, t, hd, ho, _, htk⟩ := drop_at l hlt
            by_cases hk : o.kind = 2
            · have hso : jobOf l o = jobStep l o := if_pos hk
              simp [hlt, hd, eq_true hk]
              refine acall_tup (c_l6Job l o (rds t) hl hk (hl.job (List.mem_of_getElem? ho) hk)) rfl rfl ?_
              cases hs : jobStep l o with
              | some w =>
                have hf := find_at hno ho (hso.trans hs)
                simp [hnw, hf, bodyA, ressA]
              | none =>
                simp [hw]
                exact ⟨⟨i + 1, by omega, lt_succ_cases hno ho (hso.trans hs), by omega⟩, by omega⟩
            · have hso : jobOf l o = none := if_neg hk
              simp [hlt, hd, hk, hw]
              exact ⟨⟨i + 1, by omega, lt_succ_cases hno ho hso, by omega⟩, by omega⟩
          · have e : i = l.length := by omega
            have hjn : l.findSome? (jobOf l) = none := find_no (by rw [e] at hno; exact hno)
            simp [hlt, hnw, hjn, bodyA, ressA, wr0, ob0]
theorem faR_zero {s : Ca} {x : Option Wr} (h : caFault s = 0) : faR s x = stR x := if_pos h
end Go.Proofs.Ytiogdfliailenaa
