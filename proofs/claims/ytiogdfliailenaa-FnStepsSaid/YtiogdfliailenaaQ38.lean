/-
  What is to be done for a job: on both sides.
-/
import Derived.Test.YtiogdfliailenaaQ37
namespace Go.Proofs.Ytiogdfliailenaa
set_option maxRecDepth 100000
set_option linter.unusedSimpArgs false
set_option linter.unusedVariables false
set_option linter.unnecessarySimpa false
open Go Go.Abs Go.Proofs
theorem runTry_ge {l : List Ob} {m : Int} (h : Pods m l) {nx : Int} {go : Bool} {q : Int × Bool} (hq : runTry l nx go = some q) (hm : 0 ≤ m) (hn : 0 ≤ nx) : 0 ≤ q.1 := by
  induction h generalizing nx go with
  | nil => simp [runTry] at hq; subst hq; exact hn
  | cons h1 h2 h3 h ih =>
    rw [runTry] at hq
    split at hq
    · cases hq
    · exact ih hq (by omega) (by omega)
theorem jobAt_in {l : List Ob} (h : Pods 0 l) {n x : Int} (hn : 0 ≤ n) (hx : jobAt l n = some x) : 0 ≤ x ∧ x < 3 * n + 3 := by
  unfold jobAt at hx
  split at hx
  · rename_i nx hr
    split at hx
    · rename_i hlt
      cases hx
      exact ⟨runTry_ge (h.filter _) hr (by omega) (by omega), hlt⟩
    · cases hx
  · cases hx
theorem jobNext_at {l : List Ob} {a n : Nat} {x : Int} (h : ∀ m : Nat, m < n → jobAt l m = none) (hx : jobAt l n = some x) (hn : n < a) : jobNext l a = some x := range_some h hx hn
theorem jobNext_no {l : List Ob} {a : Nat} (h : ∀ m : Nat, m < a → jobAt l m = none) : jobNext l a = none := range_none h
theorem nat_succ_cases {p : Nat → Prop} {n : Nat} (h : ∀ m, m < n → p m) (hn : p n) : ∀ m, m < n + 1 → p m := fun m hm => by
  rcases Nat.lt_or_ge m n with g | g
  · exact h m g
  · obtain rfl : m = n := by omega
    exact hn
theorem runTry_take {l : List Ob} {k : Nat} {p : Ob} {nx : Int} {go : Bool} {q : Int × Bool} (hp : l[k]? = some p) (h : runTry (l.take k) nx go = some q) : runTry (l.take (k + 1)) nx go = if p.d = 1 then none else some (p.c + 1, decide (p.d = 2)) := by
  rw [List.take_add_one, hp, Option.toList_some, runTry_append, h]
  simp [runTry]
theorem same_b (j : Ob) {n : Int} (h : j.b = n) : ({ j with b := n } : Ob) = j := by subst h; rfl
set_option maxRecDepth 100000 in
theorem c_l6Job (l : List Ob) (j : Ob) (x : List DC) (hl : ObsOk l) (hk : j.kind = 2) (ha : 0 ≤ j.a ∧ j.a ≤ 8) : FCall Try.prog 34 [rlist l, optr j x] fun r H => r = .tup [((jobStep l j).getD (mkW 1 j)).av, bv (jobStep l j).isSome] ∧ H = [] := by
  have hp := podsL_ok hl j.kind j.id
  have hlen := podsL_len l j.kind j.id
  have hl60 := hl.len
  have hdone := c_l6Done l j x hl ha
  unfold jobStep
  refine fcall_gather [] id fun clk => acall_of_aw Try.func34 rfl ?_
  simp
  refine acall_val (c_l2Key j x) (by simp) (by simp) ?_
  simp
  refine a_l6Pods l j.kind j.id (by omega) ?_
  obtain ⟨L, hL⟩ : ∃ L, L = podsL l j.kind j.id := ⟨_, rfl⟩
  rw [← hL] at hp hlen hdone ⊢
  simp
  refine codeOk_loop [true, true, false, false, true, false, true, true] 1 (fun z => ∃ (n c : Nat), (n : Int) ≤ j.a ∧ (∀ m : Nat, m < n → jobAt L m = none) ∧ z = ⟨[rlist l, optr j x, unknown, unknown, .one (.ptr 0 clk 0), unknown, rlist L, iv .i64 n] ++ List.replicate 50 unknown, [some ⟨clk, 32, 10, wr0.cells⟩], c⟩)
    (fun z => match z.tmps.getD 7 unknown with | .one (.d (.s (.int _ i))) => 9 - i.toNat | _ => 0) ?_ ?_
  · simp
    exact ⟨0, by omega, fun m h => absurd h (by omega), by simp [wr0, ob0]⟩
  · rintro z ⟨n, c0, hn, hno, rfl⟩
    by_cases hlt : (n : Int) < j.a
    · have hw : IntKind.i64.wrap ((n : Int) + 1) = ((n + 1 : Nat) : Int) := wrap_succ (by omega)
      simp [hlt]
      refine acall_pure (c_l6Index L n hp (by omega) ⟨by omega, by omega⟩) (by simp) ?_
      rintro r Hn c ⟨rfl, rfl⟩ _
      obtain ⟨D, hD⟩ : ∃ D, D = isDone L n := ⟨_, rfl⟩
      rw [← hD]
      cases hj : jobAt L n with
      | none =>
        simp [hw]
        exact ⟨⟨n + 1, by omega, nat_succ_cases hno hj, by omega⟩, by omega⟩
      | some y =>
        have hy := jobAt_in hp (by omega) hj
        have hnx := jobNext_at hno hj (a := j.a.toNat) (by omega)
        simp [hy.1]
        refine codeOk_drawA mixed (by kernel_rfl) ?_
        simp
        refine qcall_val (c_sNewPod j.kind j.id y) (by simp) (by simp) ?_
        simp
        refine qcall_val (c_l6Put (newPod j.kind j.id y)) (by simp [newPod]) (by simp) ?_
        simp [jobGo, hnx, bodyA, ressA, hk]
    · have e : j.a.toNat = n := by omega
      have hnx : jobNext L j.a.toNat = none := by rw [e]; exact jobNext_no hno
      obtain ⟨D, hD⟩ : ∃ D, D = doneN L j.a.toNat := ⟨_, rfl⟩
      rw [← hD] at hdone
      simp [hlt]
      refine acall_val hdone (by simp) (by simp) ?_
      simp
      refine codeOk_freeze 1 ?_
      simp [frzV, frzC, ofJ, snap1, blkAt, AC.dc?]
      refine codeOk_drawS [(.s, 0), (.s, 2), (.s, 3), (.s, 4), (.s, 5), (.s, 6), (.s, 7), (.s, 8), (.n, 1), (.n, 9), (.n, 10)] mixed rfl rfl (by kernel_rfl) ?_
      simp
      refine acall_val (c_l6Put { j with b := D }) rfl rfl ?_
      by_cases hb : j.b = D
      · have hb' : ¬ ¬ D = j.b := fun h => h hb.symm
        simp [jobGo, hnx, ← hD, hb, bodyA, ressA, same_b j hb]
      · have hb' : ¬ D = j.b := fun h => hb h.symm
        simp [jobGo, hnx, ← hD, hb, hb', bodyA, ressA]
set_option maxRecDepth 100000 in
theorem c_stepForJob (l : List Ob) (j : Ob) (hl : ObsOk l) (hk : j.kind = 2) (ha : 0 ≤ j.a ∧ j.a ≤ 8) : FCall Try.prog 24 [rlist l, j.av] fun r H => r = stR (jobStep l j) ∧ H = [] := by
  have hp := podsL_ok hl j.kind j.id
  have hlen := podsL_len l j.kind j.id
  have hl60 := hl.len
  unfold jobStep
  refine fcall_gather [] id fun clk => acall_of_aw Try.func24 rfl ?_
  simp
  refine acall_val (c_keyOf j) (by simp) (by simp) ?_
  simp
  refine acall_data (d_isPodOf j.kind j.id) rfl rfl ?_
  simp
  refine a_podsP l j.kind j.id (by omega) ?_
  obtain ⟨L, hL⟩ : ∃ L, L = podsL l j.kind j.id := ⟨_, rfl⟩
  rw [← hL] at hp hlen ⊢
  simp
  refine codeOk_loop [false, false, false, true, true, true, false, false, false, false, false, false, false, false, false, false, false, false, true, true] 2 (fun z => ∃ (n c : Nat), (n : Int) ≤ j.a ∧ (∀ m : Nat, m < n → jobAt L m = none) ∧ z = ⟨[unknown, unknown, unknown, .one (.ptr 0 clk 0), .one (.ptr 1 (clk + 1) 0), rlist L, unknown, unknown, unknown, unknown, unknown, unknown, unknown, unknown, unknown, unknown, unknown, unknown, iv .i64 j.a, iv .i64 n] ++ List.replicate 50 unknown, [some ⟨clk, 30, 7, j.cells⟩, some ⟨clk + 1, 34, 11, ic 0 :: wr0.cells⟩], c⟩)
    (fun z => match z.tmps.getD 19 unknown with | .one (.d (.s (.int _ i))) => 9 - i.toNat | _ => 0) ?_ ?_
  · simp
    exact ⟨0, by omega, fun m h => absurd h (by omega), by simp [wr0, ob0]⟩
  · rintro z ⟨n, c0, hn, hno, rfl⟩
    by_cases hlt : (n : Int) < j.a
    · have hw : IntKind.i64.wrap ((n : Int) + 1) = (n : Int) + 1 := wrap_i64 (by omega) (by omega)
      have hw3 : IntKind.i64.wrap (3 * (n : Int)) = 3 * (n : Int) := wrap_i64 (by omega) (by omega)
      have hw4 : IntKind.i64.wrap (3 * ((n : Int) + 1)) = 3 * ((n : Int) + 1) := wrap_i64 (by omega) (by omega)
      simp [hlt, hw3]
      refine acall_data (d_isTryOf n) rfl rfl ?_
      simp
      refine a_tries L n hp (by omega) ?_
      have hTl : (tryL L n).length ≤ L.length := List.length_filter_le _ _
      have hTp : Pods 0 (tryL L n) := hp.filter _
      have hin0 : runTry (tryL L n) (3 * n) true = none → jobAt L n = none := fun hx => by unfold jobAt; rw [hx]
      have hin : ∀ nx go, runTry (tryL L n) (3 * n) true = some (nx, go) → jobAt L n = if go = true then (if nx < 3 * n + 3 then some nx else none) else none := fun nx go hx => by
        unfold jobAt; rw [hx]; cases go <;> rfl
      obtain ⟨T, hT⟩ : ∃ T, T = tryL L n := ⟨_, rfl⟩
      rw [← hT] at hTl hTp hin hin0 ⊢
      simp
      refine codeOk_loop [false, false, false, true, true, true, true, true, true, false, false, false, false, false, false, false, false, false, true, true, false, false, false, false, false, false, false, true, true, true] 2 (fun z => ∃ (k c : Nat), k ≤ T.length ∧ (runTry (T.take k) (3 * n) true).isSome = true ∧ z = ⟨[unknown, unknown, unknown, .one (.ptr 0 clk 0), .one (.ptr 1 (clk + 1) 0), rlist L, iv .i64 n, iv .i64 ((runTry (T.take k) (3 * n) true).getD (0, true)).1, bv ((runTry (T.take k) (3 * n) true).getD (0, true)).2, unknown, unknown, unknown, unknown, unknown, unknown, unknown, unknown, unknown, iv .i64 j.a, iv .i64 n, unknown, unknown, unknown, unknown, unknown, unknown, unknown, rlist T, iv .i64 T.length, iv .i64 k] ++ List.replicate 40 unknown, [some ⟨clk, 30, 7, j.cells⟩, some ⟨clk + 1, 34, 11, ic 0 :: wr0.cells⟩], c⟩)
        (fun z => match z.tmps.getD 29 unknown with | .one (.d (.s (.int _ i))) => T.length - i.toNat | _ => 0) ?_ ?_
      · simp
        exact ⟨0, by omega, by simp [runTry]⟩
      · rintro z ⟨k, c1, hkl, hso, rfl⟩
        obtain ⟨q, hq⟩ := Option.isSome_iff_exists.1 hso
        obtain ⟨nx, go⟩ := q
        rw [hq]
        by_cases hkt : k < T.length
        · have hwk : IntKind.i64.wrap ((k : Int) + 1) = (k : Int) + 1 := wrap_i64 (by omega) (by omega)
          obtain ⟨o, t, hd, ho, _, _⟩ := drop_at T hkt
          have hrt := runTry_take ho hq
          have hoc := hTp.ge o (List.mem_of_getElem? ho)
          have hwc : IntKind.i64.wrap (o.c + 1) = o.c + 1 := wrap_i64 (by omega) (by omega)
          by_cases h : o.d = 1
          · have hrn : runTry T (3 * n) true = none := (runTry_none _ _ _).2 ⟨o, List.mem_of_getElem? ho, h⟩
            have hja := hin0 hrn
            simp [hkt, hd, h, hw]
            exact ⟨⟨n + 1, by omega, nat_succ_cases hno hja, by omega⟩, by omega⟩
          · rw [if_neg h] at hrt
            simp [hkt, hd, h]
            refine codeOk_drawA mixed (by kernel_rfl) ?_
            simp [hwk, hwc]
            refine ⟨⟨k + 1, by omega, by simp [hrt], ?_⟩, by omega⟩
            rw [hrt]; simp
            rfl
        · have e : k = T.length := by omega
          subst e
          rw [List.take_length] at hq
          have hja := hin nx go hq
          cases go with
          | false =>
            simp at hja
            simp [hw]
            exact ⟨⟨n + 1, by omega, nat_succ_cases hno hja, by omega⟩, by omega⟩
          | true =>
            by_cases h3 : nx < 3 * ((n : Int) + 1)
            · rw [if_pos rfl, if_pos (by omega)] at hja
              have hnx := jobNext_at hno hja (a := j.a.toNat) (by omega)
              simp [hw, hw4, h3]
              refine acall_val (c_NewPod 2 j.id nx) (by simp) (by simp) ?_
              simp
              refine acall_val (c_stepTo 1 (newPod 2 j.id nx)) (by simp [newPod]) (by simp) ?_
              simp [jobGo, hnx, stR, stCode]
            · rw [if_pos rfl, if_neg (by omega)] at hja
              simp [hw, hw4, h3]
              exact ⟨⟨n + 1, by omega, nat_succ_cases hno hja, by omega⟩, by omega⟩
    · have e : j.a.toNat = n := by omega
      have hnx : jobNext L j.a.toNat = none := by rw [e]; exact jobNext_no hno
      obtain ⟨D, hD⟩ : ∃ D, D = doneN L j.a.toNat := ⟨_, rfl⟩
      simp [hlt]
      refine acall_val (c_doneIndexes L j.a hp (by omega) ha) (by simp) (by simp) ?_
      rw [← hD]
      by_cases hb : j.b = D
      · simp [jobGo, hnx, ← hD, hb, stR, stCode, wr0, ob0]
      · simp [hb]
        refine acall_val (c_stepTo 1 { j with b := D }) rfl rfl ?_
        simp [jobGo, hnx, ← hD, hb, stR, stCode]
end Go.Proofs.Ytiogdfliailenaa
