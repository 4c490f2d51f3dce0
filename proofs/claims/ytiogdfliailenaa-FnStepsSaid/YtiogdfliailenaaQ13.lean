/-
  Caches: arguments, copies, comparison; CacheFault and FindCached on both sides.
-/
import Derived.Test.YtiogdfliailenaaQ12
namespace Go.Proofs.Ytiogdfliailenaa
set_option maxRecDepth 100000
set_option linter.unusedSimpArgs false
set_option linter.unusedVariables false
set_option linter.unnecessarySimpa false
open Go Go.Abs Go.Proofs
structure Ca where
  rev : Int
  obs : List Ob
  deriving DecidableEq
abbrev Ca.av (s : Ca) : AV := .agg [ic s.rev, .d (.list s.obs.length (rds s.obs))]
structure Ca.Fits (s : Ca) : Prop where
  rev : fits s.rev
  obs : ∀ o ∈ s.obs, o.Fits
  lo : s.obs.length ≤ 9223372036854775807
theorem av_ca {x : AV} (h : OkAV true [.int .i64, .slice [.int .i64, .int .i64, .int .i64, .int .i64, .int .i64, .int .i64, .int .i64]] x) : ∃ s : Ca, x = s.av ∧ s.Fits := by
  obtain ⟨ds, hd, rfl⟩ := h
  obtain ⟨e0, t0, rfl, c0, h⟩ := okCs_cons hd
  obtain ⟨e1, t1, rfl, c1, h⟩ := okCs_cons h
  cases okCs_nil h
  obtain ⟨n0, rfl, w0⟩ := okC_int c0
  obtain ⟨os, rfl, ho, hol⟩ := okC_rows (fun ds h => okCs_ob h) c1
  exact ⟨⟨n0, os⟩, rfl, ⟨fits_of w0, ho, hol⟩⟩
def szCa (s : Ca) (n : Int) : Int := if (s.obs.length : Int) ≤ n then n - s.obs.length else -1
theorem szCa_le {s : Ca} {n : Int} (h : ¬ szCa s n < 0) (h1 : n ≤ 1048576) : s.obs.length ≤ 1048576 ∧ 0 ≤ szCa s n ∧ szCa s n ≤ 1048576 := by
  unfold szCa at h ⊢
  split at h
  · rename_i g1
    rw [if_pos g1]
    omega
  · omega
def caFault (s : Ca) : Int :=
  if 0 ≤ s.rev ∧ s.rev ≤ 100000 then
    if s.obs.length ≤ 60 then
      if obsBad s.rev s.obs = 0 then
        if rises s.obs then 0 else 1
      else obsBad s.rev s.obs
    else 2
  else 3
theorem caFault_ok {s : Ca} (h : caFault s = 0) : s.obs.length ≤ 60 ∧ rises s.obs = true := by
  unfold caFault at h
  split at h
  · split at h
    · rename_i h2
      split at h
      · split at h
        · rename_i h4; exact ⟨h2, h4⟩
        · omega
      · rename_i h3; exact absurd h h3
    · omega
  · omega
set_option maxRecDepth 100000 in
set_option maxHeartbeats 1000000 in
theorem c_sCacheFault (s : Ca) : FCall Try.prog 31 [s.av] fun r H => r = iv .i64 (caFault s) ∧ H = [] := by
  refine fcall_gather [] id fun clk => acall_of_aw Try.func31 rfl ?_
  simp
  refine acall_val (c_l1In s.rev 0 100000) (by simp) (by simp) ?_
  by_cases g1 : 0 ≤ s.rev ∧ s.rev ≤ 100000
  · have e1 : (decide (0 ≤ s.rev) && decide (s.rev ≤ 100000)) = true := by simp [g1]
    rw [e1]
    by_cases g2 : s.obs.length ≤ 60
    · have g2' : ¬ (60 : Int) < s.obs.length := by omega
      simp [g2']
      refine codeOk_loop [false, true, false, true] 1 (fun z => ∃ (i c : Nat), i ≤ s.obs.length ∧ obsBad s.rev (s.obs.take i) = 0 ∧ z = ⟨[unknown, .one (.ptr 0 clk 0), unknown, iv .i64 i] ++ List.replicate 54 unknown, [some ⟨clk, 26, 2, [ic s.rev, .d (.list s.obs.length (rds s.obs))]⟩], c⟩)
        (fun z => match z.tmps.getD 3 unknown with | .one (.d (.s (.int _ i))) => s.obs.length - i.toNat | _ => 0) ?_ ?_
      · simp
        exact ⟨0, by omega, rfl, rfl⟩
      · rintro z ⟨i, c0, hi, hb, rfl⟩
        by_cases hlt : i < s.obs.length
        · have hw := wrap_succ (i := i) (by omega)
          obtain ⟨o, t, hd, ho, _, htk⟩ := drop_at s.obs hlt
          have hat := obsBad_at hb ho
          simp [hlt, hd]
          refine acall_val (c_sObjectFault o) (by simp) (by simp) ?_
          by_cases f1 : obFault o = 0
          · rw [if_pos f1] at hat
            simp [f1]
            refine codeOk_drawA mixed (by kernel_rfl) ?_
            simp [hlt, hd]
            refine qcall_val (c_l1In o.rev 1 s.rev) (by simp) (by simp) ?_
            by_cases f2 : 1 ≤ o.rev ∧ o.rev ≤ s.rev
            · simp [f2, hw]
              refine ⟨⟨i + 1, by omega, ?_, by omega⟩, by omega⟩
              rw [htk]; exact obsBad_snoc hb f1 f2
            · rw [if_neg f2] at hat
              have e2 : (decide (1 ≤ o.rev) && decide (o.rev ≤ s.rev)) = false := by simp; omega
              rw [e2]
              simp
              simp [caFault, g1, g2, hat]
          · rw [if_neg f1] at hat
            simp [f1]
            simp [caFault, g1, g2, hat, f1]
        · have e : i = s.obs.length := by omega
          subst e
          rw [List.take_length] at hb
          simp
          refine codeOk_loop [false, true, false, false, false, true] 1 (fun z => ∃ (k c : Nat), (∀ (j : Nat) (a b : Ob), j < k → s.obs[j]? = some a → s.obs[j + 1]? = some b → less a b = true) ∧ z = ⟨[unknown, .one (.ptr 0 clk 0), unknown, unknown, unknown, iv .i64 ((k + 1 : Nat) : Int)] ++ List.replicate 52 unknown, [some ⟨clk, 26, 2, [ic s.rev, .d (.list s.obs.length (rds s.obs))]⟩], c⟩)
            (fun z => match z.tmps.getD 5 unknown with | .one (.d (.s (.int _ i))) => s.obs.length - i.toNat | _ => 0) ?_ ?_
          · simp
            exact ⟨0, fun j a b h => absurd h (by omega), by simp⟩
          · rintro z ⟨k, c1, hk, rfl⟩
            by_cases hlt : k + 1 < s.obs.length
            · have hlt' : (k : Int) + 1 < s.obs.length := by omega
              have hw : IntKind.i64.wrap ((k : Int) + 1 + 1) = (k : Int) + 1 + 1 := wrap_i64 (by omega) (by omega)
              have hw0 : IntKind.i64.wrap (k : Int) = k := wrap_i64 (by omega) (by omega)
              obtain ⟨a, b, t, hd, hd', ha, hb'⟩ := drop_two s.obs hlt
              simp [hlt', hd, hd']
              refine codeOk_drawA mixed (by kernel_rfl) ?_
              simp [hlt, hlt', hd, hd', hw0]
              refine ⟨by omega, by omega, ?_⟩
              refine qcall_val (c_l3Less a b (b.dcs ++ rds t) (rds t)) (by simp) (by simp) ?_
              by_cases f : less a b = true
              · simp [f, hw]
                refine ⟨⟨k + 1, fun j x y hj hx hy => ?_, by omega⟩, by omega⟩
                rcases Nat.lt_or_ge j k with h1 | h1
                · exact hk j x y h1 hx hy
                · obtain rfl : j = k := by omega
                  rw [ha] at hx; rw [hb'] at hy; cases hx; cases hy; exact f
              · have f' : less a b = false := by simpa using f
                have hr := rises_not ha hb' f'
                simp [f', caFault, g1, g2, hb, hr]
            · have hlt' : ¬ (k : Int) + 1 < s.obs.length := by omega
              have hr : rises s.obs = true := (rises_iff _).2 fun j x y hx hy => hk j x y (by have := (List.getElem?_eq_some_iff.1 hy).1; omega) hx hy
              simp [hlt', caFault, g1, g2, hb, hr]
    · have g2' : (60 : Int) < s.obs.length := by omega
      simp [g2', caFault, g1, g2]
  · have e1 : (decide (0 ≤ s.rev) && decide (s.rev ≤ 100000)) = false := by simp; omega
    rw [e1]
    simp [caFault, g1]
set_option maxRecDepth 100000 in
set_option maxHeartbeats 1000000 in
theorem c_CacheFault (s : Ca) (h1 : s.obs.length ≤ 1048576) : FCall Try.prog 25 [s.av] fun r H => r = iv .i64 (caFault s) ∧ H = [] := by
  refine fcall_gather [] id fun clk => acall_of_aw Try.func25 rfl ?_
  simp
  refine acall_val (c_inBounds [⟨s.rev, 0, 100000⟩] (by simp)) (by simp [sps, AC.dc?]) (by simp) ?_
  by_cases g1 : 0 ≤ s.rev ∧ s.rev ≤ 100000
  · by_cases g2 : s.obs.length ≤ 60
    · have g2' : ¬ (60 : Int) < s.obs.length := by omega
      simp [OkAll, Sp.ok, g1, g2']
      refine acall_val (c_objectsFault s.obs s.rev h1) (by simp) (by simp) ?_
      simp [caFault, g1, g2]
    · have g2' : (60 : Int) < s.obs.length := by omega
      simp [OkAll, Sp.ok, g1, g2', caFault, g2]
  · have e2 : OkAll [⟨s.rev, 0, 100000⟩] = false := by simp [OkAll, Sp.ok]; omega
    rw [e2]
    simp [caFault, g1]
set_option maxRecDepth 100000 in
theorem c_FindCached (s : Ca) (a b : Int) (h1 : s.obs.length ≤ 1048576) : FCall Try.prog 22 [s.av, kav a b] fun r H => r = .agg (ic (if caFault s = 0 then (if (findOb s.obs a b).isSome then 0 else 4) else caFault s) :: (if caFault s = 0 then (findOb s.obs a b).getD ob0 else ob0).cells) ∧ H = [] := by
  refine fcall_gather [] id fun clk => acall_of_aw Try.func22 rfl ?_
  simp
  refine acall_val (c_CacheFault s h1) (by simp) (by simp) ?_
  by_cases h : caFault s = 0
  · have k := c_findIn s.obs a b h1
    obtain ⟨C, hC⟩ : ∃ C, C = (if (findOb s.obs a b).isSome then (0 : Int) else 4) := ⟨_, rfl⟩
    obtain ⟨O, hO⟩ : ∃ O, O = (findOb s.obs a b).getD ob0 := ⟨_, rfl⟩
    rw [← hC, ← hO] at k ⊢
    clear hC hO
    simp [h]
    refine acall_val k (by simp) (by simp) ?_
    simp
  · simp [h, ob0]
set_option maxRecDepth 100000 in
theorem c_sFindCached (s : Ca) (a b : Int) : FCall Try.prog 20 [s.av, kav a b] fun r H => r = .agg (ic (if caFault s = 0 then (if (findOb s.obs a b).isSome then 0 else 4) else caFault s) :: (if caFault s = 0 then (findOb s.obs a b).getD ob0 else ob0).cells) ∧ H = [] := by
  refine fcall_gather [] id fun clk => acall_of_aw Try.func20 rfl ?_
  simp
  refine acall_val (c_sCacheFault s) (by simp) (by simp) ?_
  by_cases h : caFault s = 0
  · obtain ⟨hlen, hr⟩ := caFault_ok h
    rw [findOb_idx hr]
    simp [h]
    refine acall_val (c_l3Find s.obs a b (by omega)) (by simp) (by simp) ?_
    cases hi : idxOb s.obs a b with
    | none => simp [idxVal, ob0]
    | some i =>
      obtain ⟨o, ho, _, _, hlt⟩ := idx_some hi
      obtain ⟨o', t, hd, ho', _, _⟩ := drop_at s.obs hlt
      rw [ho] at ho'; cases ho'
      have hg : s.obs[i] = o := by rw [List.getElem?_eq_getElem hlt] at ho; exact Option.some.inj ho
      simp [idxVal, hlt, hd, ho, hg]
  · simp [h, ob0]
end Go.Proofs.Ytiogdfliailenaa
