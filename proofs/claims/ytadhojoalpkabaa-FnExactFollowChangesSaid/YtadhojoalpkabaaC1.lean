/-
  Caches: arguments, copies, comparison; CacheFault and FindCached on both sides.
-/
import Derived.Test.YtadhojoalpkabaaS10
namespace Go.Proofs.Ytadhojoalpkabaa
set_option maxRecDepth 100000
set_option linter.unusedSimpArgs false
set_option linter.unusedVariables false
set_option linter.unnecessarySimpa false
open Go Go.Abs Go.Proofs
structure Ca where
  rev : Int
  obs : List Ob
  deriving DecidableEq
abbrev Ca.av (s : Ca) : AV := .agg [ic s.rev, .d (.list s.obs.length (rds s.obs))]
structure Ca.Fits (s : Ca) : Prop where
  rev : fits s.rev
  obs : ∀ o ∈ s.obs, o.Fits
  lo : s.obs.length ≤ 9223372036854775807
theorem av_ca {x : AV} (h : OkAV true [.int .i64, .slice [.int .i64, .int .i64, .int .i64, .int .i64, .int .i64, .int .i64, .int .i64]] x) : ∃ s : Ca, x = s.av ∧ s.Fits := by
  obtain ⟨ds, hd, rfl⟩ := h
  obtain ⟨e0, t0, rfl, c0, h⟩ := okCs_cons hd
  obtain ⟨e1, t1, rfl, c1, h⟩ := okCs_cons h
  cases okCs_nil h
  obtain ⟨n0, rfl, w0⟩ := okC_int c0
  obtain ⟨os, rfl, ho, hol⟩ := okC_rows (fun ds h => okCs_ob h) c1
  exact ⟨⟨n0, os⟩, rfl, ⟨fits_of w0, ho, hol⟩⟩
def szCa (s : Ca) (n : Int) : Int := if (s.obs.length : Int) ≤ n then n - s.obs.length else -1
theorem szCa_le {s : Ca} {n : Int} (h : ¬ szCa s n < 0) (h1 : n ≤ 1048576) : s.obs.length ≤ 1048576 ∧ 0 ≤ szCa s n ∧ szCa s n ≤ 1048576 := by
  unfold szCa at h ⊢
  split at h
  · rename_i g1
    rw [if_pos g1]
    omega
  · omega
set_option maxRecDepth 100000 in
theorem c_szCache (s : Ca) (n : Int) (hf : s.Fits) (h0 : 0 ≤ n) (h1 : n ≤ 1048576) : FCall Try.prog 4 [s.av, iv .i64 n] fun r H => r = iv .i64 (szCa s n) ∧ H = [] := by
  refine fcall_gather [] id fun clk => acall_of_aw Try.func4 rfl ?_
  simp
  refine acall_val (c_szObjectS s.obs n hf.lo h0 h1) (by simp) (by simp) ?_
  by_cases g : (s.obs.length : Int) ≤ n
  · have g' : ¬ (n - (s.obs.length : Int) < 0) := by omega
    simp [g, g', szCa]
  · simp [g, szCa]
set_option maxRecDepth 100000 in
theorem c_toCache (s : Ca) (h1 : s.obs.length ≤ 1048576) : FCall Try.prog 7 [s.av] fun r H => ∃ g, r = .agg [ic s.rev, .own 0 g 0 s.obs.length] ∧ H = [some ⟨g, 51, 7, rcs s.obs⟩] := by
  refine fcall_gather [3] (fun j => j - 3) fun clk => acall_of_aw Try.func7 rfl ?_
  simp
  refine acall_pure (c_toObjectS s.obs h1) (by simp) ?_
  rintro r Hn c ⟨g, rfl, rfl⟩ _
  simp
theorem a_toCache (s : Ca) (h1 : s.obs.length ≤ 1048576) {H : AHeap} {c : Nat} {K : AV → AHeap → Nat → Prop} (hK : K s.av H c) : ACall Try.prog 7 [s.av] H c K :=
  acall_froze (c_toCache s h1) (by simp) (by rintro r Hn ⟨g, rfl, rfl⟩; exact ⟨s.av, by simp, hK⟩)
theorem q_toCache (s : Ca) (h1 : s.obs.length ≤ 1048576) {H : AHeap} {K : AV → Prop} (hK : K s.av) : QCall Try.prog 7 [s.av] H K :=
  qcall s.av (c_toCache s h1) (by simp) (by rintro r Hn ⟨g, rfl, rfl⟩; simp) hK
set_option maxRecDepth 100000 in
theorem c_eqCache (s t : Ca) (h1 : s.obs.length ≤ 1048576) : FCall Try.prog 11 [s.av, t.av] fun r H => r = bv (decide (s = t)) ∧ H = [] := by
  have e : (s = t) ↔ (s.rev = t.rev ∧ s.obs = t.obs) := by cases s; cases t; simp
  refine fcall_gather [] id fun clk => acall_of_aw Try.func11 rfl ?_
  by_cases g1 : s.rev = t.rev
  · simp [g1]
    refine acall_val (c_eqObjectS s.obs t.obs h1) (by simp) (by simp) ?_
    simp [e, g1]
  · simp [g1, e]
def caFault (s : Ca) : Int :=
  if 0 ≤ s.rev ∧ s.rev ≤ 100000 then
    if s.obs.length ≤ 60 then
      if obsBad s.rev s.obs = 0 then
        if rises s.obs then 0 else 1
      else obsBad s.rev s.obs
    else 2
  else 3
theorem caFault_ok {s : Ca} (h : caFault s = 0) : s.obs.length ≤ 60 ∧ rises s.obs = true := by
  unfold caFault at h
  split at h
  · split at h
    · rename_i h2
      split at h
      · split at h
        · rename_i h4; exact ⟨h2, h4⟩
        · omega
      · rename_i h3; exact absurd h h3
    · omega
  · omega
set_option maxRecDepth 100000 in
set_option maxHeartbeats 1000000 in
theorem c_sCacheFault (s : Ca) : FCall Try.prog 18 [s.av] fun r H => r = iv .i64 (caFault s) ∧ H = [] := by
  refine fcall_gather [] id fun clk => acall_of_aw Try.func18 rfl ?_
  simp
  refine acall_val (c_l1In s.rev 0 100000) (by simp) (by simp) ?_
  by_cases g1 : 0 ≤ s.rev ∧ s.rev ≤ 100000
  · have e1 : (decide (0 ≤ s.rev) && decide (s.rev ≤ 100000)) = true := by simp [g1]
    rw [e1]
    by_cases g2 : s.obs.length ≤ 60
    · have g2' : ¬ (60 : Int) < s.obs.length := by omega
      simp [g2']
      refine codeOk_loop [false, true, false, true] 1 (fun z => ∃ (i c : Nat), i ≤ s.obs.length ∧ obsBad s.rev (s.obs.take i) = 0 ∧ z = ⟨[unknown, .one (.ptr 0 clk 0), unknown, iv .i64 i] ++ List.replicate 54 unknown, [some ⟨clk, 30, 2, [ic s.rev, .d (.list s.obs.length (rds s.obs))]⟩], c⟩)
        (fun z => match z.tmps.getD 3 unknown with | .one (.d (.s (.int _ i))) => s.obs.length - i.toNat | _ => 0) ?_ ?_
      · simp
        exact ⟨0, by omega, rfl, rfl⟩
      · rintro z ⟨i, c0, hi, hb, rfl⟩
        by_cases hlt : i < s.obs.length
        · have hw := wrap_succ (i := i) (by omega)
          obtain ⟨o, t, hd, ho, _, htk⟩ := drop_at s.obs hlt
          have hat := obsBad_at hb ho
          simp [hlt, hd]
          refine acall_val (c_sObjectFault o) (by simp) (by simp) ?_
          by_cases f1 : obFault o = 0
          · rw [if_pos f1] at hat
            simp [f1]
            refine codeOk_drawA mixed (by kernel_rfl) ?_
            simp [hlt, hd]
            refine qcall_val (c_l1In o.rev 1 s.rev) (by simp) (by simp) ?_
            by_cases f2 : 1 ≤ o.rev ∧ o.rev ≤ s.rev
            · simp [f2, hw]
              refine ⟨⟨i + 1, by omega, ?_, by omega⟩, by omega⟩
              rw [htk]; exact obsBad_snoc hb f1 f2
            · rw [if_neg f2] at hat
              have e2 : (decide (1 ≤ o.rev) && decide (o.rev ≤ s.rev)) = false := by simp; omega
              rw [e2]
              simp
              simp [caFault, g1, g2, hat]
          · rw [if_neg f1] at hat
            simp [f1]
            simp [caFault, g1, g2, hat, f1]
        · have e : i = s.obs.length := by omega
          subst e
          rw [List.take_length] at hb
          simp
          refine codeOk_loop [false, true, false, false, false, true] 1 (fun z => ∃ (k c : Nat), (∀ (j : Nat) (a b : Ob), j < k → s.obs[j]? = some a → s.obs[j + 1]? = some b → less a b = true) ∧ z = ⟨[unknown, .one (.ptr 0 clk 0), unknown, unknown, unknown, iv .i64 ((k + 1 : Nat) : Int)] ++ List.replicate 52 unknown, [some ⟨clk, 30, 2, [ic s.rev, .d (.list s.obs.length (rds s.obs))]⟩], c⟩)
            (fun z => match z.tmps.getD 5 unknown with | .one (.d (.s (.int _ i))) => s.obs.length - i.toNat | _ => 0) ?_ ?_
          · simp
            exact ⟨0, fun j a b h => absurd h (by omega), by simp⟩
          · rintro z ⟨k, c1, hk, rfl⟩
            by_cases hlt : k + 1 < s.obs.length
            · have hlt' : (k : Int) + 1 < s.obs.length := by omega
              have hw : IntKind.i64.wrap ((k : Int) + 1 + 1) = (k : Int) + 1 + 1 := wrap_i64 (by omega) (by omega)
              have hw0 : IntKind.i64.wrap (k : Int) = k := wrap_i64 (by omega) (by omega)
              obtain ⟨a, b, t, hd, hd', ha, hb'⟩ := drop_two s.obs hlt
              simp [hlt', hd, hd']
              refine codeOk_drawA mixed (by kernel_rfl) ?_
              simp [hlt, hlt', hd, hd', hw0]
              refine ⟨by omega, by omega, ?_⟩
              refine qcall_val (c_l3Less a b (b.dcs ++ rds t) (rds t)) (by simp) (by simp) ?_
              by_cases f : less a b = true
              · simp [f, hw]
                refine ⟨⟨k + 1, fun j x y hj hx hy => ?_, by omega⟩, by omega⟩
                rcases Nat.lt_or_ge j k with h1 | h1
                · exact hk j x y h1 hx hy
                · obtain rfl : j = k := by omega
                  rw [ha] at hx; rw [hb'] at hy; cases hx; cases hy; exact f
              · have f' : less a b = false := by simpa using f
                have hr := rises_not ha hb' f'
                simp [f', caFault, g1, g2, hb, hr]
            · have hlt' : ¬ (k : Int) + 1 < s.obs.length := by omega
              have hr : rises s.obs = true := (rises_iff _).2 fun j x y hx hy => hk j x y (by have := (List.getElem?_eq_some_iff.1 hy).1; omega) hx hy
              simp [hlt', caFault, g1, g2, hb, hr]
    · have g2' : (60 : Int) < s.obs.length := by omega
      simp [g2', caFault, g1, g2]
  · have e1 : (decide (0 ≤ s.rev) && decide (s.rev ≤ 100000)) = false := by simp; omega
    rw [e1]
    simp [caFault, g1]
set_option maxRecDepth 100000 in
set_option maxHeartbeats 1000000 in
theorem c_CacheFault (s : Ca) (h1 : s.obs.length ≤ 1048576) : FCall Try.prog 22 [s.av] fun r H => r = iv .i64 (caFault s) ∧ H = [] := by
  refine fcall_gather [] id fun clk => acall_of_aw Try.func22 rfl ?_
  simp
  refine acall_val (c_inBounds [⟨s.rev, 0, 100000⟩] (by simp)) (by simp [sps, AC.dc?]) (by simp) ?_
  by_cases g1 : 0 ≤ s.rev ∧ s.rev ≤ 100000
  · by_cases g2 : s.obs.length ≤ 60
    · have g2' : ¬ (60 : Int) < s.obs.length := by omega
      simp [OkAll, Sp.ok, g1, g2']
      refine acall_val (c_objectsFault s.obs s.rev h1) (by simp) (by simp) ?_
      simp [caFault, g1, g2]
    · have g2' : (60 : Int) < s.obs.length := by omega
      simp [OkAll, Sp.ok, g1, g2', caFault, g2]
  · have e2 : OkAll [⟨s.rev, 0, 100000⟩] = false := by simp [OkAll, Sp.ok]; omega
    rw [e2]
    simp [caFault, g1]
end Go.Proofs.Ytadhojoalpkabaa
