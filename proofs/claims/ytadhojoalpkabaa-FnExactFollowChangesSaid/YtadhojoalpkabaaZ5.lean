/-
  The law of changes followed.
-/
import Derived.Test.YtadhojoalpkabaaZ3
import Derived.Test.YtadhojoalpkabaaZ4
import Derived.Test.YtadhojoalpkabaaC3
namespace Go.Proofs.Ytadhojoalpkabaa
set_option maxRecDepth 100000
set_option linter.unusedSimpArgs false
set_option linter.unusedVariables false
set_option linter.unnecessarySimpa false
open Go Go.Abs Go.Proofs
theorem a_toChangeS (l : List Ch) (hn : l.length ≤ 1048576) {H : AHeap} {c : Nat} {K : AV → AHeap → Nat → Prop} (hK : K (rlist l) H c) : ACall Try.prog 8 [rlist l] H c K :=
  acall_froze (c_toChangeS l hn) (by simp) (by rintro r Hn ⟨g, rfl, rfl⟩; exact ⟨rlist l, by simp, hK⟩)
theorem c_FollowChanges1 (s : Ca) (cs : List Ch) (h1 : s.obs.length ≤ 1048576) (h : flF s cs = 0) : FCall Try.prog 9 [s.av, rlist cs] fun r H => ∃ g, r = .agg [ic 0, ic (flS s cs).rev, .own 0 g 0 (flS s cs).obs.length] ∧ H = [some ⟨g, 51, 7, rcs (flS s cs).obs⟩] :=
  fcall_weak (c_FollowChanges s cs h1) fun r H hp => (hp.resolve_left fun hh => hh.1 h).2
theorem c_FollowChanges0 (s : Ca) (cs : List Ch) (h1 : s.obs.length ≤ 1048576) (h : flF s cs ≠ 0) : FCall Try.prog 9 [s.av, rlist cs] fun r H => r = .agg [ic (flF s cs), ic 0, .d .nil] ∧ H = [] :=
  fcall_weak (c_FollowChanges s cs h1) fun r H hp => (hp.resolve_right fun hh => h hh.1).2
theorem folGo_len {l0 : List Ob} : ∀ (cs : List Ch) (rev : Int) (l : List Ob), l.length ≤ 60 → folGo rev cs l = 0 → (foldOb l cs).length ≤ 60
  | [], rev, l, hl, _ => hl
  | c :: t, rev, l, hl, h => by
    rw [folGo] at h
    split at h
    · rename_i h1; exact absurd h h1
    · split at h
      · omega
      · rename_i h2
        exact folGo_len (l0 := l0) t _ (turnOb c.gone c.ob l) (by omega) h
set_option maxRecDepth 100000 in
set_option maxHeartbeats 2000000 in
theorem law_FollowChanges1 (s : Ca) (cs : List Ch) (hs : s.Fits) (hl : cs.length ≤ 9223372036854775807) (g : ¬ szCa s 1048576 < 0) (g' : (cs.length : Int) ≤ szCa s 1048576) (h : flF s cs = 0) : FCall Try.prog 3 [s.av, rlist cs] TT := by
  obtain ⟨b1, b3, b4⟩ := szCa_le g (by omega)
  have hn : cs.length ≤ 1048576 := by omega
  have k1 := d_sFollowChanges s cs
  have k2 := c_FollowChanges1 s cs b1 h
  have n1 : (flS s cs).obs.length ≤ 1048576 := by
    unfold flF at h
    split at h
    · rename_i hc
      split at h
      · have := folGo_len (l0 := []) cs s.rev s.obs (caFault_ok hc).1 h
        show (foldOb s.obs cs).length ≤ _
        omega
      · omega
    · rename_i hc; exact absurd h hc
  rw [fwRes, if_pos h] at k1
  generalize flS s cs = N at *
  clear h
  have ht : List.take N.obs.length (obMarks 1 N.obs.length) = obMarks 1 N.obs.length := List.take_of_length_le (by simp)
  have q2 : ¬ (1 : Int) + 7 * N.obs.length < 0 := by omega
  obtain ⟨Z, hZ⟩ : ∃ Z, Z = szCa s 1048576 := ⟨_, rfl⟩
  have g2 : ¬ Z - (cs.length : Int) < 0 := by omega
  have g3 : ¬ Z < 0 := by omega
  have g4 : (cs.length : Int) ≤ Z := by omega
  have hZ0 : 0 ≤ Z ∧ Z ≤ 1048576 := by omega
  have q1 : ¬ (1 : Int) + 7 * s.obs.length + 9 * cs.length < 0 := by omega
  refine fcall_gather [] id fun clk => acall_of_aw Try.func3 rfl ?_
  simp
  refine acall_val (c_szCache s 1048576 hs (by omega) (by omega)) (by simp) (by simp) ?_
  rw [← hZ]
  simp [g3]
  refine acall_val (c_szChangeS cs Z hl hZ0.1 hZ0.2) (by simp) (by simp) ?_
  rw [if_pos g4]
  simp [g2]
  refine a_toCache s b1 ?_
  simp
  refine a_toChangeS cs hn ?_
  simp
  refine acall_data k1 rfl rfl ?_
  simp
  refine acall_pure (c_toCache s b1) (by simp) ?_
  rintro r Hn c ⟨g1, rfl, rfl⟩ _
  simp
  refine acall_pure (c_toChangeS cs hn) (by simp) ?_
  rintro r Hn c1 ⟨g5, rfl, rfl⟩ _
  simp
  refine acall_pure k2 (by simp) ?_
  rintro r Hn c2 ⟨g3, rfl, rfl⟩ _
  simp
  refine acall_val (c_eqCacheResult 0 0 N N n1) (by simp) (by simp) ?_
  simp
  refine codeOk_drawA mixed (by kernel_rfl) ?_
  simp
  refine q_toCache s b1 ?_
  simp
  refine qcall_val (c_eqCache s s b1) (by simp) (by simp) ?_
  simp
  refine a_toChangeS cs hn ?_
  simp
  refine acall_val (c_eqChangeS cs cs hn) (by simp) (by simp) ?_
  simp
  refine acall_ref (k := 2) (c_markCache s.rev s.obs 1 g1 b1 (by omega)) (by simp) (by simp) ?_
  rintro r B Hn c3 ⟨rfl, rfl, rfl⟩ _
  simp
  refine acall_ref (k := 4) (c_markChangeS cs (1 + 7 * s.obs.length) g5 hn (by omega)) (by simp) (by simp) ?_
  rintro r B Hn c4 ⟨rfl, ⟨m, hm, rfl⟩, rfl⟩ _
  simp [q1]
  refine acall_val (c_eqCacheResult 0 0 N N n1) (by simp) (by simp) ?_
  simp
  refine acall_ref (k := 5) (c_markCacheResult 0 N.rev N.obs 1 g3 n1 (by omega)) (by simp) (by simp) ?_
  rintro r B Hn c5 ⟨rfl, rfl, rfl⟩ _
  simp
  refine acall_val (c_heldCacheResult 0 N.rev N.obs.length 1 n1 (by omega)) (by simp [ht]) (by simp) ?_
  simp [q2]
  refine a_toCache s b1 ?_
  simp
  refine a_toChangeS cs hn ?_
  simp
  refine acall_froze k2 (by simp) fun r Hn h => ⟨.agg [ic 0, ic N.rev, .d (.list N.obs.length (rds N.obs))], by obtain ⟨g6, rfl, rfl⟩ := h; simp, ?_⟩
  simp
  refine acall_val (c_eqCacheResult 0 0 N N n1) (by simp) (by simp) ?_
  simp
  refine acall_val (c_heldCacheResult 0 N.rev N.obs.length 1 n1 (by omega)) (by simp [ht]) (by simp) ?_
  simp [q2]
set_option maxRecDepth 100000 in
set_option maxHeartbeats 2000000 in
theorem law_FollowChanges0 (s : Ca) (cs : List Ch) (hs : s.Fits) (hl : cs.length ≤ 9223372036854775807) (g : ¬ szCa s 1048576 < 0) (g' : (cs.length : Int) ≤ szCa s 1048576) (h : flF s cs ≠ 0) : FCall Try.prog 3 [s.av, rlist cs] TT := by
  obtain ⟨b1, b3, b4⟩ := szCa_le g (by omega)
  have hn : cs.length ≤ 1048576 := by omega
  have k1 := d_sFollowChanges s cs
  have k2 := c_FollowChanges0 s cs b1 h
  rw [fwRes, if_neg h] at k1
  generalize flF s cs = F at *
  clear h
  obtain ⟨Z, hZ⟩ : ∃ Z, Z = szCa s 1048576 := ⟨_, rfl⟩
  have g2 : ¬ Z - (cs.length : Int) < 0 := by omega
  have g3 : ¬ Z < 0 := by omega
  have g4 : (cs.length : Int) ≤ Z := by omega
  have hZ0 : 0 ≤ Z ∧ Z ≤ 1048576 := by omega
  have q1 : ¬ (1 : Int) + 7 * s.obs.length + 9 * cs.length < 0 := by omega
  refine fcall_gather [] id fun clk => acall_of_aw Try.func3 rfl ?_
  simp
  refine acall_val (c_szCache s 1048576 hs (by omega) (by omega)) (by simp) (by simp) ?_
  rw [← hZ]
  simp [g3]
  refine acall_val (c_szChangeS cs Z hl hZ0.1 hZ0.2) (by simp) (by simp) ?_
  rw [if_pos g4]
  simp [g2]
  refine a_toCache s b1 ?_
  simp
  refine a_toChangeS cs hn ?_
  simp
  refine acall_data k1 rfl rfl ?_
  simp
  refine acall_pure (c_toCache s b1) (by simp) ?_
  rintro r Hn c ⟨g1, rfl, rfl⟩ _
  simp
  refine acall_pure (c_toChangeS cs hn) (by simp) ?_
  rintro r Hn c1 ⟨g5, rfl, rfl⟩ _
  simp
  refine acall_pure k2 (by simp) ?_
  rintro r Hn c2 ⟨rfl, rfl⟩ _
  simp
  refine acall_val (c_eqCacheResult F F ⟨0, []⟩ ⟨0, []⟩ (by simp)) (by simp) (by simp) ?_
  simp
  refine codeOk_drawA mixed (by kernel_rfl) ?_
  simp
  refine q_toCache s b1 ?_
  simp
  refine qcall_val (c_eqCache s s b1) (by simp) (by simp) ?_
  simp
  refine a_toChangeS cs hn ?_
  simp
  refine acall_val (c_eqChangeS cs cs hn) (by simp) (by simp) ?_
  simp
  refine acall_ref (k := 2) (c_markCache s.rev s.obs 1 g1 b1 (by omega)) (by simp) (by simp) ?_
  rintro r B Hn c3 ⟨rfl, rfl, rfl⟩ _
  simp
  refine acall_ref (k := 4) (c_markChangeS cs (1 + 7 * s.obs.length) g5 hn (by omega)) (by simp) (by simp) ?_
  rintro r B Hn c4 ⟨rfl, ⟨m, hm, rfl⟩, rfl⟩ _
  simp [q1]
  refine acall_val (c_eqCacheResult F F ⟨0, []⟩ ⟨0, []⟩ (by simp)) (by simp) (by simp) ?_
  simp
  refine acall_val (c_markCacheResultn F 0 1) (by simp) (by simp) ?_
  simp
  refine acall_val (c_heldCacheResult F 0 0 1 (by omega) (by omega)) (by simp [obMarks]) (by simp) ?_
  simp
  refine a_toCache s b1 ?_
  simp
  refine a_toChangeS cs hn ?_
  simp
  refine acall_froze k2 (by simp) fun r Hn h => ⟨.agg [ic F, ic 0, .d (.list 0 [])], by obtain ⟨rfl, rfl⟩ := h; rfl, ?_⟩
  simp
  refine acall_val (c_eqCacheResult F F ⟨0, []⟩ ⟨0, []⟩ (by simp)) (by simp) (by simp) ?_
  simp
  refine acall_val (c_heldCacheResult F 0 0 1 (by omega) (by omega)) (by simp [obMarks]) (by simp) ?_
  simp
set_option maxRecDepth 100000 in
theorem law_FollowChanges (s : Ca) (cs : List Ch) (hs : s.Fits) (hl : cs.length ≤ 9223372036854775807) : FCall Try.prog 3 [s.av, rlist cs] TT := by
  by_cases g : szCa s 1048576 < 0
  · refine fcall_gather [] id fun clk => acall_of_aw Try.func3 rfl ?_
    simp
    refine acall_val (c_szCache s 1048576 hs (by omega) (by omega)) (by simp) (by simp) ?_
    simp [g]
  · by_cases g' : (cs.length : Int) ≤ szCa s 1048576
    · by_cases h : flF s cs = 0
      · exact law_FollowChanges1 s cs hs hl g g' h
      · exact law_FollowChanges0 s cs hs hl g g' h
    · obtain ⟨b1, b3, b4⟩ := szCa_le g (by omega)
      refine fcall_gather [] id fun clk => acall_of_aw Try.func3 rfl ?_
      simp
      refine acall_val (c_szCache s 1048576 hs (by omega) (by omega)) (by simp) (by simp) ?_
      simp [g]
      refine acall_val (c_szChangeS cs _ hl b3 b4) (by simp) (by simp) ?_
      rw [if_neg g']
      simp
theorem av_chs {x : AV} (h : OkAV false [.slice [.int .i64, .bool, .int .i64, .int .i64, .int .i64, .int .i64, .int .i64, .int .i64, .int .i64]] x) : ∃ l : List Ch, x = rlist l ∧ l.length ≤ 9223372036854775807 := by
  obtain ⟨d, hd, rfl⟩ := h
  obtain ⟨_, _, h1, c0, _⟩ := okCs_cons hd
  cases h1
  obtain ⟨os, rfl, ho, hol⟩ := okC_rows (fun ds h => okCs_ch h) c0
  exact ⟨os, rfl, hol⟩
theorem walk_FnExactFollowChanges {x y : AV} (h : OkAV true [.int .i64, .slice [.int .i64, .int .i64, .int .i64, .int .i64, .int .i64, .int .i64, .int .i64]] x) (h1 : OkAV false [.slice [.int .i64, .bool, .int .i64, .int .i64, .int .i64, .int .i64, .int .i64, .int .i64, .int .i64]] y) : FCall Try.prog 3 [x, y] TT := by
  obtain ⟨s, rfl, hs⟩ := av_ca h; obtain ⟨l, rfl, hl⟩ := av_chs h1; exact law_FollowChanges s l hs hl
end Go.Proofs.Ytadhojoalpkabaa
