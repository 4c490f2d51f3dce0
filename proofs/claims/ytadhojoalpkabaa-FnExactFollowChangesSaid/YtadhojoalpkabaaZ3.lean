/-
  Changes followed by the program.
-/
import Derived.Test.YtadhojoalpkabaaZ2
namespace Go.Proofs.Ytadhojoalpkabaa
set_option maxRecDepth 100000
set_option linter.unusedSimpArgs false
set_option linter.unusedVariables false
set_option linter.unnecessarySimpa false
open Go Go.Abs Go.Proofs
/-- What holds ahead of each round. -/
def FlI (s : Ca) (clk g g2 : Nat) (pre : List (Ch × Int)) (H' : AHeap) (_ : Nat) : Prop := folX pre s.obs = 0 ∧ rises (foldOb s.obs (pre.map (·.1))) = true ∧ (foldOb s.obs (pre.map (·.1))).length ≤ 60 ∧
  ∃ (p : List MapEntry × Nat) (m : List Ob), ObMap p m ∧ (∀ q, q ∈ m ↔ q ∈ foldOb s.obs (pre.map (·.1))) ∧
  H' = [some ⟨clk, 30, 2, [ic s.rev, .d (.list s.obs.length (rds s.obs))]⟩, some ⟨clk + 1, 32, 3, [ic 0, ic 0, .d .nil]⟩, some ⟨g, 0, 0, [.obj p.1 p.2]⟩, some ⟨g2, 58, 1, [.mp 2 g]⟩]
def FlX (s : Ca) (clk : Nat) (c : Code) (pre : List (Ch × Int)) (H' : AHeap) (_ : Nat) : Prop := c = .ret ∧ folX pre s.obs ≠ 0 ∧ ∃ b0 t, H' = b0 :: some ⟨clk + 1, 32, 3, [ic (folX pre s.obs), ic 0, .d .nil]⟩ :: t
set_option maxRecDepth 100000 in
set_option maxHeartbeats 1000000 in
theorem c_FollowChanges (s : Ca) (cs : List Ch) (h1 : s.obs.length ≤ 1048576) : FCall Try.prog 9 [s.av, rlist cs] fun r H => (flF s cs ≠ 0 ∧ r = .agg [ic (flF s cs), ic 0, .d .nil] ∧ H = []) ∨ (flF s cs = 0 ∧ ∃ g, r = .agg [ic 0, ic (flS s cs).rev, .own 0 g 0 (flS s cs).obs.length] ∧ H = [some ⟨g, 51, 7, rcs (flS s cs).obs⟩]) := by
  refine fcall_gatherE fun clk => acall_of_aw Try.func9 rfl ?_
  simp
  refine acall_val (c_CacheFault s h1) (by simp) (by simp) ?_
  by_cases h : caFault s = 0
  · have hr := (caFault_ok h).2
    have hl60 := (caFault_ok h).1
    have hrev : 0 ≤ s.rev ∧ s.rev ≤ 100000 := by
      unfold caFault at h
      split at h
      · rename_i g; exact g
      · omega
    by_cases hm : cs.length ≤ 12
    · have hF : flF s cs = folGo s.rev cs s.obs := by unfold flF; rw [if_pos h, if_pos hm]
      have hm' : ¬ (12 : Int) < cs.length := by omega
      simp [h, hm']
      refine acall_pure (c_byKey s.obs h1) (by simp) ?_
      rintro r Hn c ⟨g, rfl, rfl⟩ _
      simp
      refine acall_data (d_changesBehind s.rev cs) rfl rfl ?_
      simp
      refine codeOk_range (fun x : Ch × Int => [x.1.av, iv .i64 x.2]) (FlI s clk g c) (FlX s clk) (by simp [ASt.eval]) (by decide) (s_changesBehind cs s.rev hm hrev) ?_ ?_ rfl rfl ?_ ?_ ?_ ?_
      · intro x W E
        refine ⟨rfl, fun j y v hy hv => ?_⟩
        match j with
        | 0 =>
          simp at hy hv; subst hy; subst hv
          have h := ofV_rel (w := W) (E := E) (v := x.1.val) rfl
          rw [Ch.ofV] at h; exact h
        | 1 => simp at hy hv; subst hy; subst hv; exact RelD.s rfl
        | j + 2 => simp at hy
      · intro x; rfl
      · exact ⟨rfl, hr, hl60, mapL s.obs, s.obs, obMap_mapL hr, fun q => Iff.rfl, by simp⟩
      · rintro pre ⟨ch, k⟩ H' c' ⟨hx0, hrs, hlen, p, m, hom, hmem, rfl⟩ hlt
        have hsn := folX_snoc pre (ch, k) s.obs
        have hfo : foldOb s.obs ((pre ++ [(ch, k)]).map (·.1)) = turnOb ch.gone ch.ob (foldOb s.obs (pre.map (·.1))) := by rw [List.map_append]; exact foldOb_snoc _ _ _
        rw [if_neg (by simp [hx0])] at hsn
        by_cases hk : k = 0
        · subst hk
          have hts := turn_same hom.apart hrs hmem ch.gone ch.ob
          have hot := hom.turn ch.gone ch.ob
          have hrt := rises_turn hrs ch.gone ch.ob
          have hll := same_len hot.apart hrt hts
          have hml := hot.is.length
          rw [hll] at hml
          rw [if_neg (by simp)] at hsn
          simp [putsA]
          refine acall_ref (k := 2) (c_turnObject p m hom ch g) (by simp) (by simp) ?_
          rintro r B Hn c2 ⟨rfl, rfl, rfl⟩ _
          obtain ⟨L2, hL2⟩ : ∃ L2, L2 = turnOb ch.gone ch.ob (foldOb s.obs (pre.map (·.1))) := ⟨_, rfl⟩
          simp only [] at hsn
          rw [← hL2] at hsn hfo hml hrt hts
          generalize turnP ch.gone ch.ob p = p2 at *
          by_cases h60 : 60 < L2.length
          · rw [if_pos h60] at hsn
            have h60' : (60 : Int) < (p2.1.length : Int) := by omega
            simp [h60', roundK]
            exact ⟨rfl, by rw [hsn]; decide, _, _, by rw [hsn]⟩
          · rw [if_neg h60] at hsn
            have h60' : ¬ (60 : Int) < (p2.1.length : Int) := by omega
            simp [h60', roundK]
            refine ⟨[some ⟨clk, 30, 2, [ic s.rev, .d (.list s.obs.length (rds s.obs))]⟩, some ⟨clk + 1, 32, 3, [ic 0, ic 0, .d .nil]⟩, some ⟨g, 0, 0, [.obj p2.1 p2.2]⟩, some ⟨c, 58, 1, [.mp 2 g]⟩], by simp, hsn, by rw [hfo]; exact hrt, by rw [hfo]; omega, p2, _, hot, by rw [hfo]; exact hts, rfl⟩
        · rw [if_pos (by simpa using hk)] at hsn
          simp [putsA, hk, roundK]
          exact ⟨rfl, by rw [hsn]; exact hk, _, _, by rw [hsn]⟩
      · rintro xs H' c' rfl ⟨hx0, hrs, hlen, p, m, hom, hmem, rfl⟩
        rw [pairsB_fst] at hrs hlen hmem
        rw [folX_pairs, ← hF] at hx0
        have hml := same_len hom.apart hrs hmem
        have hin := c_inOrder p m hom (by omega)
        have hw : IntKind.i64.wrap (s.rev + (cs.length : Int)) = s.rev + cs.length := wrap_i64 (by omega) (by omega)
        have e1 : (flS s cs).rev = s.rev + cs.length := rfl
        have e2 : (flS s cs).obs = foldOb s.obs cs := rfl
        rw [e1, e2, hx0]
        simp
        refine codeOk_drawS [(.n, 0), (.n, 1), (.n, 2), (.n, 3), (.n, 4), (.n, 5), (.n, 6), (.n, 7), (.n, 8), (.n, 9)] mixed rfl rfl (by kernel_rfl) ?_
        simp [hw]
        refine acall_pure hin (by simp) ?_
        rintro r Hn c2 ⟨d, gd, hdr, hdm, rfl, rfl⟩ _
        have hd : d = foldOb s.obs cs := rises_ext hdr hrs fun q => (hdm q).trans (hmem q)
        rw [← hd]
        simp
        refine ⟨[4], fun j => j - 4, ?_⟩
        simp
      · rintro cd pre H' c' ⟨n, hn, rfl⟩ ⟨rfl, hne, b0, t, rfl⟩
        have hst := folX_stop hne
        have hF2 : flF s cs = folX (pairsB s.rev (cs.take (n + 1))) s.obs := hF.trans hst
        rw [← hF2] at hne ⊢
        simp
        refine ⟨[], id, ?_⟩
        simp [hne]
    · have hF : flF s cs = 2 := by unfold flF; rw [if_pos h, if_neg hm]
      have hm' : (12 : Int) < cs.length := by omega
      rw [hF]
      simp [h, hm']
      refine ⟨[], id, ?_⟩
      simp
  · have hF : flF s cs = caFault s := by unfold flF; rw [if_neg h]
    rw [hF]
    simp [h]
    refine ⟨[], id, ?_⟩
    simp [h]
end Go.Proofs.Ytadhojoalpkabaa
