/-
  Tries of a job's index, what is done, which index is free: on both sides.
-/
import Derived.Test.YtiogdfliailenaaQ34
namespace Go.Proofs.Ytiogdfliailenaa
set_option maxRecDepth 100000
set_option linter.unusedSimpArgs false
set_option linter.unusedVariables false
set_option linter.unnecessarySimpa false
open Go Go.Abs Go.Proofs
theorem idxVal_some (i : Nat) : idxVal (some i) = (i : Int) := rfl
set_option maxRecDepth 100000 in
theorem c_l6Index (l : List Ob) (n : Int) (hp : Pods 0 l) (hl : l.length ≤ 60) (hn : 0 ≤ n ∧ n ≤ 7) : FCall Try.prog 62 [rlist l, iv .i64 n] fun r H => r = .tup [bv (isDone l n), iv .i64 ((jobAt l n).getD (-1))] ∧ H = [] := by
  have w3 : IntKind.i64.wrap (3 * n) = 3 * n := wrap_i64 (by omega) (by omega)
  have w1 : IntKind.i64.wrap (n + 1) = n + 1 := wrap_i64 (by omega) (by omega)
  have w4 : IntKind.i64.wrap (3 * (n + 1)) = 3 * (n + 1) := wrap_i64 (by omega) (by omega)
  have hT := tryL_betw hp hn.1
  refine fcall_gather [] id fun clk => acall_of_aw Try.func62 rfl ?_
  simp [w3]
  refine codeOk_loop [true, true, false, false, false, false, true, true] 0 (fun z => ∃ (t c : Nat) (q : Int × Bool), t ≤ 3 ∧ runTry (betw l (3 * n) (3 * n + t)) (3 * n) true = some q ∧ z = ⟨[rlist l, iv .i64 n, unknown, unknown, unknown, unknown, iv .i64 (if q.2 then q.1 else -1), iv .i64 t] ++ List.replicate 37 unknown, [], c⟩)
    (fun z => match z.tmps.getD 7 unknown with | .one (.d (.s (.int _ i))) => 3 - i.toNat | _ => 0) ?_ ?_
  · simp [-Bool.exists_bool]
    exact ⟨0, by omega, _, 3 * n, true, by simp [betw_empty, runTry], ⟨by simp, rfl⟩, rfl⟩
  · rintro z ⟨t, c0, q, ht, hq, rfl⟩
    obtain ⟨N, hN⟩ : ∃ N, N = (if q.2 = true then q.1 else -1) := ⟨_, rfl⟩
    rw [← hN]
    have hstep := betw_step hp (lo := 3 * n) (x := 3 * n + t) (by omega)
    by_cases hlt : t < 3
    · have hw : IntKind.i64.wrap ((t : Int) + 1) = ((t + 1 : Nat) : Int) := wrap_succ (by omega)
      have wt : IntKind.i64.wrap (3 * n + t) = 3 * n + t := wrap_i64 (by omega) (by omega)
      have wt1 : IntKind.i64.wrap (3 * n + t + 1) = 3 * n + t + 1 := wrap_i64 (by omega) (by omega)
      have hlt' : (t : Int) < 3 := by omega
      simp [hlt', w3, wt]
      refine acall_val (c_l6At l (3 * n + t) (by omega)) (by simp) (by simp) ?_
      cases ha : atC l (3 * n + t) with
      | none =>
        rw [getC_none ha] at hstep
        simp at hstep
        simp [-Bool.exists_bool, idxVal, hw]
        have hq' : runTry (betw l (3 * n) (3 * n + ((t + 1 : Nat) : Int))) (3 * n) true = some q := by
          rw [show 3 * n + ((t + 1 : Nat) : Int) = 3 * n + t + 1 by omega, hstep]; exact hq
        obtain ⟨nx, go⟩ := q
        cases go with
        | false => exact ⟨⟨t + 1, by omega, _, nx, .inl ⟨hq', ⟨by simpa using hN, by omega⟩, rfl⟩⟩, by omega⟩
        | true => exact ⟨⟨t + 1, by omega, _, nx, .inr ⟨hq', ⟨by simpa using hN, by omega⟩, rfl⟩⟩, by omega⟩
      | some i =>
        obtain ⟨p, hpi, hpc, hil, hg⟩ := atC_some ha
        rw [hg] at hstep
        obtain ⟨o, tl, hd, ho, _, _⟩ := drop_at l hil
        rw [hpi] at ho; cases ho
        have hmem : p ∈ l := List.mem_of_getElem? hpi
        have hpd := (hp.ge p hmem).2.2
        have hrun : runTry (betw l (3 * n) (3 * n + t + 1)) (3 * n) true = if p.d = 1 then none else some (p.c + 1, decide (p.d = 2)) := by
          rw [hstep, runTry_append, hq]
          simp [runTry]
        have hnn : ¬ ((i : Int) < 0) := by omega
        by_cases h1 : p.d = 1
        · rw [if_pos h1] at hrun
          have hdone : isDone l n = true := by
            obtain ⟨x, hx, hxd⟩ := (runTry_none _ _ _).1 hrun
            unfold isDone
            rw [List.any_eq_true]
            refine ⟨x, ?_, by simpa using hxd⟩
            rw [hT]
            unfold betw at hx ⊢
            simp at hx ⊢
            refine ⟨hx.1, hx.2.1, by omega⟩
          have hjob : jobAt l n = none := by
            unfold jobAt; rw [(isDone_run l n _ _).1 hdone]
          simp [idxVal_some, hnn, hil, hd, h1, hdone, hjob, bodyA, ressA]
        · rw [if_neg h1] at hrun
          by_cases h0 : p.d = 0
          · simp [-Bool.exists_bool, idxVal_some, hnn, hil, hd, h0, hw]
            refine ⟨⟨t + 1, by omega, _, p.c + 1, .inl ⟨?_, by omega, rfl⟩⟩, by omega⟩
            rw [show 3 * n + ((t + 1 : Nat) : Int) = 3 * n + t + 1 by omega, hrun]; simp [h0]
          · have h2 : p.d = 2 := by omega
            simp [-Bool.exists_bool, idxVal_some, hnn, hil, hd, h2, hw, w3, wt, wt1]
            refine ⟨⟨t + 1, by omega, _, p.c + 1, .inr ⟨?_, ⟨by omega, by omega⟩, rfl⟩⟩, by omega⟩
            rw [show 3 * n + ((t + 1 : Nat) : Int) = 3 * n + t + 1 by omega, hrun]; simp [h2]
    · have e : t = 3 := by omega
      subst e
      have hT' : tryL l n = betw l (3 * n) (3 * n + (3 : Nat)) := hT
      rw [← hT'] at hq
      have hnd : isDone l n = false := by
        rw [Bool.eq_false_iff]; intro h
        rw [(isDone_run l n (3 * n) true).1 h] at hq; cases hq
      have hle : q.1 ≤ 3 * n + 3 := runTry_le (hp.filter _) (fun p hp2 => by
        have : p ∈ tryL l n := hp2
        rw [hT] at this
        unfold betw at this
        simp at this; omega) hq (by omega)
      obtain ⟨nx, go⟩ := q
      cases go with
      | false =>
        have hjob : jobAt l n = none := by unfold jobAt; rw [hq]
        simp at hN
        subst hN
        have : ¬ ((-1 : Int) = 3 * (n + 1)) := by omega
        simp [w1, w4, this, hnd, hjob, bodyA, ressA]
      | true =>
        simp at hN hle
        subst hN
        by_cases h3 : N = 3 * (n + 1)
        · have hjob : jobAt l n = none := by unfold jobAt; rw [hq]; simp; omega
          simp [w1, w4, h3, hnd, hjob, bodyA, ressA]
        · have hjob : jobAt l n = some N := by unfold jobAt; rw [hq]; simp; omega
          simp [w1, w4, h3, hnd, hjob, bodyA, ressA]
end Go.Proofs.Ytiogdfliailenaa
