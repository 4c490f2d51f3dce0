/-
  The gate: the model's CheckWrite; the law.
  ApplyWrite of the model.
-/
import Derived.Test.YtiogdfliailenaaQ19
import Derived.Test.YtiogdfliailenaaQ18
namespace Go.Proofs.Ytiogdfliailenaa
set_option maxRecDepth 100000
set_option linter.unusedSimpArgs false
set_option linter.unusedVariables false
set_option linter.unnecessarySimpa false
open Go Go.Abs Go.Proofs
set_option maxRecDepth 100000 in
set_option maxHeartbeats 1000000 in
theorem c_l3Check (s : St) (w : Wr) (x : List DC) (hs : stFault s = 0) : FCall Try.prog 83 [stPtr s, wPtr w x] fun r H => r = iv .i64 (if wrFault w ≠ 0 then wrFault w else (refuse s w).code) ∧ H = [] := by
  obtain ⟨hrev, hl, _, _, hr, _⟩ := stFault_all hs
  refine fcall_gather [] id fun clk => acall_of_aw Try.func83 rfl ?_
  simp
  refine acall_val (c_sWriteFault w) (by simp) (by simp) ?_
  by_cases hw : wrFault w = 0
  · have hG := c_l3Gate s w x hs hw
    simp [hw]
    by_cases g1 : s.rev = 100000
    · simp [g1, refuse, Rf.code]
    · have g1' : ¬ 100000 ≤ s.rev := by omega
      have g1'' : s.rev < 100000 := by omega
      have hrf : refuse s w = if w.expect ≠ (wasOb s.obs w).rev then .taken else if (sgOf s w).stepRf ≠ .none then (sgOf s w).stepRf else if thereOb s.obs w = false ∧ s.obs.length = 60 then .full else .none := if_neg g1
      rw [hrf]
      clear hrf
      unfold wasOb thereOb at hG ⊢
      have hidx := findOb_idx hr w.ob.kind w.ob.id
      simp [g1', g1'']
      refine codeOk_drawA mixed (by kernel_rfl) ?_
      simp
      refine qcall_val (c_l2Key w.ob (dc w.expect :: dc w.stamp :: x)) (by simp) (by simp) ?_
      simp
      refine qcall_val (c_l3Find s.obs w.ob.kind w.ob.id (by omega)) (by simp) (by simp) ?_
      generalize (sgOf s w).stepRf = R at hG ⊢
      cases hi : idxOb s.obs w.ob.kind w.ob.id with
      | none =>
        have hf : findOb s.obs w.ob.kind w.ob.id = none := by rw [hidx, hi]; rfl
        rw [hf] at hG ⊢
        simp [idxVal, ob0]
        refine codeOk_drawA mixed (by kernel_rfl) ?_
        by_cases g2 : w.expect = 0
        · simp [g2]
          refine acall_val hG (by simp [AC.dc?, g2, ob0]) (by simp) ?_
          simp
          cases R with
          | none =>
            by_cases g3 : s.obs.length = 60
            · have g3' : (60 : Int) ≤ s.obs.length := by omega
              simp [Rf.code, g3, g3']
            · have g3' : ¬ (60 : Int) ≤ s.obs.length := by omega
              simp [Rf.code, g3, g3']
          | stale => simp [Rf.code]
          | full => simp [Rf.code]
          | state => simp [Rf.code]
          | taken => simp [Rf.code]
        · simp [g2, Rf.code]
      | some i =>
        obtain ⟨o, ho, _, _, hlt⟩ := idx_some hi
        obtain ⟨o', t, hd, ho', _, _⟩ := drop_at s.obs hlt
        rw [ho] at ho'; cases ho'
        have hg : s.obs[i] = o := by rw [List.getElem?_eq_getElem hlt] at ho; exact Option.some.inj ho
        have hf : findOb s.obs w.ob.kind w.ob.id = some o := by rw [hidx, hi]; exact ho
        rw [hf] at hG ⊢
        simp [idxVal, hlt, hd, ho, hg]
        refine codeOk_drawA mixed (by kernel_rfl) ?_
        by_cases g2 : w.expect = o.rev
        · simp [g2]
          refine acall_val hG (by simp [AC.dc?, g2]) (by simp) ?_
          simp
          cases R with
          | none => simp [Rf.code]
          | stale => simp [Rf.code]
          | full => simp [Rf.code]
          | state => simp [Rf.code]
          | taken => simp [Rf.code]
        · simp [g2, Rf.code]
  · simp [hw]
end Go.Proofs.Ytiogdfliailenaa
namespace Go.Proofs.Ytiogdfliailenaa
set_option maxRecDepth 100000
set_option linter.unusedSimpArgs false
set_option linter.unusedVariables false
set_option linter.unnecessarySimpa false
open Go Go.Abs Go.Proofs
abbrev chPtr (c : Ch) (x : List DC) : AV := .one (.d (.rptr (c.dcs ++ x)))
theorem rcs_snoc (l : List Ob) (o : Ob) : rcs (l ++ [o]) = rcs l ++ [.d (.s (.int .i64 o.kind)), .d (.s (.int .i64 o.id)), .d (.s (.int .i64 o.a)), .d (.s (.int .i64 o.b)), .d (.s (.int .i64 o.c)), .d (.s (.int .i64 o.d)), .d (.s (.int .i64 o.rev))] := by
  rw [← rcs_append, rcs_cons, rcs_nil, List.append_nil]; rfl
set_option maxRecDepth 100000 in
set_option maxHeartbeats 1000000 in
theorem c_l3Put (l : List Ob) (c : Ch) (x : List DC) (hl : l.length ≤ 1048576) : FCall Try.prog 90 [rlist l, chPtr c x] fun r H => ∃ g, r = .one (.own 0 g 0 (turnOb c.gone c.ob l).length) ∧ H = [some ⟨g, 30, 7, rcs (turnOb c.gone c.ob l)⟩] := by
  refine fcall_gather [0] id fun clk => acall_of_aw Try.func90 rfl ?_
  unfold turnOb
  simp [-Bool.exists_bool]
  refine codeOk_loop [true, true, false, false, false, true, true, true] 1 (fun z => ∃ (i q g : Nat) (acc : List Ob) (d : Bool), i ≤ l.length ∧ (acc.length ≤ i + 1 ∧ (d = false → acc.length ≤ i)) ∧ acc ++ putL c.ob d (l.drop i) = putL c.ob c.gone l ∧
      z = ⟨[rlist l, chPtr c x, unknown, unknown, unknown, .one (.own 0 g 0 acc.length), bv d, iv .i64 i] ++ List.replicate 55 unknown, [some ⟨g, 30, 7, rcs acc⟩], q⟩)
    (fun z => match z.tmps.getD 7 unknown with | .one (.d (.s (.int _ i))) => l.length - i.toNat | _ => 0) ?_ ?_
  · simp [-Bool.exists_bool]
    exact ⟨0, by omega, _, clk, [], c.gone, ⟨by simp, fun _ => by simp⟩, by simp, ⟨⟨rfl, rfl⟩, rfl, rfl⟩, ⟨rfl, rfl⟩, rfl⟩
  · rintro z ⟨i, q, g, acc, d, hi, ⟨ha, had⟩, hp, rfl⟩
    by_cases hlt : i < l.length
    · have hw := wrap_succ (i := i) (by omega)
      obtain ⟨o, t, hd, ho, hd1, _⟩ := drop_at l hlt
      rw [hd] at hp
      simp [hlt, hd, -Bool.exists_bool]
      refine codeOk_drawA mixed (by kernel_rfl) ?_
      simp [hlt, hd, -Bool.exists_bool]
      refine qcall_val (c_l2Key o (rds t)) (by simp) (by simp) ?_
      simp [-Bool.exists_bool]
      refine qcall_val (c_l2Key c.ob x) (by simp) (by simp) ?_
      by_cases hk : sameKey o c.ob = true
      · have hk2 := sameKey_iff.1 hk
        rw [putL, if_pos hk] at hp
        simp [hk2.1, hk2.2, hw, -Bool.exists_bool]
        exact ⟨⟨i + 1, by omega, _, g, acc, d, ⟨by omega, fun h => by have := had h; omega⟩, by rw [hd1]; exact hp, ⟨⟨rfl, rfl⟩, rfl, by push_cast; rfl⟩, ⟨rfl, rfl⟩, rfl⟩, by omega⟩
      · have hk2 : ¬ (o.kind = c.ob.kind ∧ o.id = c.ob.id) := fun e => hk (sameKey_iff.2 e)
        have b1 : (acc.length + 1) * 56 ≤ 140737488355328 := by omega
        have b2 : acc.length + 1 ≤ maxLen := Nat.le_trans (m := 2000000) (by omega) (by decide)
        have b5 : acc.length + 1 + 1 ≤ 2000000 := by omega
        have b3 : (acc.length + 1 + 1) * 56 ≤ 140737488355328 := Nat.le_trans (Nat.mul_le_mul_right 56 b5) (by decide)
        have b4 : acc.length + 1 + 1 ≤ maxLen := Nat.le_trans b5 (by decide)
        rw [putL, if_neg hk] at hp
        simp [hk2, hw, -Bool.exists_bool]
        refine codeOk_drawA mixed (by kernel_rfl) ?_
        cases d with
        | true =>
          simp at hp
          simp [hlt, hd, hw, b1, b2, -Bool.exists_bool]
          exact ⟨⟨i + 1, by omega, _, _, acc ++ [o], true, ⟨by simp; omega, fun h => by cases h⟩, by rw [hd1]; simpa using hp, ⟨⟨rfl, by simp⟩, rfl, by push_cast; rfl⟩, ⟨rfl, (rcs_snoc acc o).symm⟩, rfl⟩, by omega⟩
        | false =>
          simp [hlt, hd, -Bool.exists_bool]
          refine qcall_val (c_l3Less c.ob o x (rds t)) (by simp) (by simp) ?_
          by_cases hls : less c.ob o = true
          · simp [hls] at hp
            simp [hls, hlt, hd, hw, b1, b2, b3, b4, -Bool.exists_bool]
            have hac := had rfl
            have ht : List.take ((acc.length + 1) * 7) (rcs (acc ++ [c.ob])) = rcs (acc ++ [c.ob]) := List.take_of_length_le (by rw [rcs_len7]; simp)
            rw [rcs_snoc] at ht
            refine ⟨by omega, ⟨i + 1, by omega, _, _, acc ++ [c.ob] ++ [o], true, ⟨by simp; omega, fun h => by cases h⟩, by rw [hd1]; simpa using hp, ⟨⟨rfl, by simp⟩, rfl, by push_cast; rfl⟩, ⟨rfl, ?_⟩, rfl⟩, by omega⟩
            rw [rcs_snoc, rcs_snoc]
            exact congrArg (· ++ _) ht
          · simp [hls] at hp
            simp [hls, hlt, hd, hw, b1, b2, -Bool.exists_bool]
            have hac := had rfl
            exact ⟨⟨i + 1, by omega, _, _, acc ++ [o], false, ⟨by simp; omega, fun _ => by simp; omega⟩, by rw [hd1]; simpa using hp, ⟨⟨rfl, by simp⟩, rfl, by push_cast; rfl⟩, ⟨rfl, (rcs_snoc acc o).symm⟩, rfl⟩, by omega⟩
    · have e : i = l.length := by omega
      subst e
      have b1 : (acc.length + 1) * 56 ≤ 140737488355328 := by omega
      have b2 : acc.length + 1 ≤ maxLen := Nat.le_trans (m := 2000000) (by omega) (by decide)
      rw [List.drop_length] at hp
      cases d with
      | true =>
        have hp2 : acc = putL c.ob c.gone l := by simpa [putL] using hp
        simp
        exact ⟨g, ⟨rfl, by rw [hp2]⟩, rfl, hp2⟩
      | false =>
        have hp2 : acc ++ [c.ob] = putL c.ob c.gone l := by simpa [putL] using hp
        rw [← hp2]
        simp [b1, b2]
        exact (rcs_snoc acc c.ob).symm
end Go.Proofs.Ytiogdfliailenaa
