/-
  ChangesSince, on both sides; its law.
-/
import Derived.Test.YtckcdpocmmlniaaU11
import Derived.Test.YtckcdpocmmlniaaM3
import Derived.Test.YtckcdpocmmlniaaS10
namespace Go.Proofs.Ytckcdpocmmlniaa
set_option maxRecDepth 100000
set_option linter.unusedSimpArgs false
set_option linter.unusedVariables false
set_option linter.unnecessarySimpa false
open Go Go.Abs Go.Proofs
theorem above_drop : ∀ (l : List Ch) (next rev : Int), (∀ (j : Nat) (c : Ch), l[j]? = some c → c.rev = next + j) → aboveCh rev l = l.drop (rev + 1 - next).toNat
  | [], _, _, _ => by simp [aboveCh]
  | a :: t, next, rev, h => by
    have ha : a.rev = next := by simpa using h 0 a rfl
    have ih := above_drop t (next + 1) rev (fun j c hc => by have := h (j + 1) c (by simpa using hc); push_cast at this; omega)
    unfold aboveCh at ih ⊢
    rw [List.filter_cons, ih, ha]
    by_cases g : rev < next
    · rw [if_pos (by simpa using g), show (rev + 1 - (next + 1)).toNat = 0 by omega, show (rev + 1 - next).toNat = 0 by omega]; rfl
    · rw [if_neg (by simpa using g), show (rev + 1 - next).toNat = (rev + 1 - (next + 1)).toNat + 1 by omega]; rfl
theorem stFault_hist {s : St} (h : stFault s = 0) : ∀ (j : Nat) (c : Ch), s.hist[j]? = some c → c.rev = (s.rev - s.hist.length + 1) + j := by
  unfold stFault at h
  split at h
  · split at h
    · split at h
      · split at h
        · split at h
          · rename_i h5
            unfold histOk at h5
            rw [Bool.and_eq_true, histAll_iff] at h5
            exact fun j c hc => (h5.2 j c hc).2.2.1
          · omega
        · omega
      · rename_i h3; exact absurd h h3
    · omega
  · omega
theorem stFault_rev {s : St} (h : stFault s = 0) : 0 ≤ s.rev ∧ s.rev ≤ 100000 := by
  unfold stFault at h
  split at h
  · rename_i h1; exact h1
  · omega
def csF (s : St) (rev : Int) : Int :=
  if stFault s = 0 then (if 0 ≤ rev ∧ rev ≤ s.rev then (if rev < s.rev - s.hist.length then 4 else 0) else 3) else stFault s
def csL (s : St) (rev : Int) : List Ch := s.hist.drop (s.hist.length - (s.rev - rev)).toNat
theorem csF_ok {s : St} {rev : Int} (h : csF s rev = 0) : stFault s = 0 ∧ (0 ≤ rev ∧ rev ≤ s.rev) ∧ ¬ rev < s.rev - s.hist.length := by
  unfold csF at h
  split at h
  · rename_i h1
    split at h
    · rename_i h2
      split at h
      · omega
      · rename_i h3; exact ⟨h1, h2, h3⟩
    · omega
  · rename_i h1; exact absurd h h1
theorem csL_above {s : St} {rev : Int} (h : csF s rev = 0) : aboveCh rev s.hist = csL s rev := by
  obtain ⟨h1, h2, h3⟩ := csF_ok h
  rw [above_drop s.hist _ rev (stFault_hist h1)]
  unfold csL
  congr 1; omega
theorem csL_len (s : St) (rev : Int) : (csL s rev).length ≤ s.hist.length := by unfold csL; simp
set_option maxRecDepth 100000 in
theorem c_l4Since0 (s : St) (rev : Int) (h1 : s.hist.length ≤ 12) (h0 : 0 ≤ s.rev ∧ s.rev ≤ 100000) (h : rev < s.rev - s.hist.length) : FCall Try.prog 30 [.one (.d (.rptr [dc s.rev, .list s.obs.length (rds s.obs), .list s.hist.length (rds s.hist)])), iv .i64 rev] fun r H => r = .tup [.one (.d .nil), bv false] ∧ H = [] := by
  have w1 : IntKind.i64.wrap (s.hist.length : Int) = s.hist.length := wrap_i64 (by omega) (by omega)
  have w2 : IntKind.i64.wrap (s.rev - (s.hist.length : Int)) = s.rev - s.hist.length := wrap_i64 (by omega) (by omega)
  refine fcall_gather [] id fun clk => acall_of_aw Try.func30 rfl ?_
  simp [w1, w2, h, bodyA, ressA]
set_option maxRecDepth 100000 in
theorem c_l4Since1 (s : St) (rev : Int) (h1 : s.hist.length ≤ 12) (h0 : 0 ≤ s.rev ∧ s.rev ≤ 100000) (hr : rev ≤ s.rev) (h : ¬ rev < s.rev - s.hist.length) : FCall Try.prog 30 [.one (.d (.rptr [dc s.rev, .list s.obs.length (rds s.obs), .list s.hist.length (rds s.hist)])), iv .i64 rev] fun r H => ∃ g, r = .tup [.one (.own 0 g 0 (csL s rev).length), bv true] ∧ H = [some ⟨g, 72, 9, rcs (csL s rev)⟩] := by
  have w1 : IntKind.i64.wrap (s.hist.length : Int) = s.hist.length := wrap_i64 (by omega) (by omega)
  have w2 : IntKind.i64.wrap (s.rev - (s.hist.length : Int)) = s.rev - s.hist.length := wrap_i64 (by omega) (by omega)
  have w3 : IntKind.i64.wrap (s.rev - rev) = s.rev - rev := wrap_i64 (by omega) (by omega)
  have w4 : IntKind.i64.wrap ((s.hist.length : Int) - (s.rev - rev)) = s.hist.length - (s.rev - rev) := wrap_i64 (by omega) (by omega)
  refine fcall_gather [0] id fun clk => acall_of_aw Try.func30 rfl ?_
  simp [w1, w2, h]
  refine codeOk_drawS [(.s, 1), (.s, 2), (.s, 3), (.s, 4), (.s, 5), (.s, 6), (.s, 7), (.s, 8), (.s, 9), (.s, 10), (.s, 11), (.s, 12), (.s, 13), (.n, 0), (.n, 14), (.n, 15), (.n, 16)] mixed rfl rfl (by kernel_rfl) ?_
  simp [w3, w4]
  refine ⟨by omega, ⟨by omega, by show s.hist.length ≤ 9223372036854775807 + _; omega⟩, ?_⟩
  have hc : List.drop (((s.hist.length : Int) - (s.rev - rev)).toNat) s.hist = csL s rev := rfl
  have hn : s.hist.length - ((s.hist.length : Int) - (s.rev - rev)).toNat = (csL s rev).length := by rw [← hc, List.length_drop]
  simp [bodyA, ressA, hn]
  rw [hc, List.take_length, List.take_length]
set_option maxRecDepth 100000 in
theorem a_changesAbove (l : List Ch) (rev : Int) {B0 B1 B2 : ABlk} {c : Nat} {K : AV → AHeap → Nat → Prop} (hK : ∀ c, K (.one (.d (.fn 56 [.rptr [.list l.length (rds l)], .rptr [dc rev]]))) [some B0, some B1, some B2, none, none] c) :
    ACall Try.prog 35 [rlist l, iv .i64 rev] [some B0, some B1, some B2] c K := by
  refine acall_of_ok Try.func35 rfl (codeOk_seq (aw_sound _ _ _ ?_))
  simp
  refine codeOk_freeze 3 (codeOk_freeze 4 (aw_sound _ _ _ ?_))
  simp [frzV, frzC, ofJ, snap1, blkAt, AC.dc?]
  exact hK _
set_option maxRecDepth 100000 in
theorem c_ChangesSince0 (s : St) (rev : Int) (h1 : s.obs.length ≤ 1048576) (h2 : s.hist.length ≤ 1048576) (h : csF s rev ≠ 0) : FCall Try.prog 8 [s.av, iv .i64 rev] fun r H => r = .agg [ic (csF s rev), .d .nil] ∧ H = [] := by
  refine fcall_gather [] id fun clk => acall_of_aw Try.func8 rfl ?_
  simp
  refine acall_val (c_StoreFault s h1 h2) (by simp) (by simp) ?_
  by_cases g1 : stFault s = 0
  · have h0 := stFault_rev g1
    obtain ⟨b1, b2⟩ := stFault_ok2 g1
    have w2 : IntKind.i64.wrap (s.rev - (s.hist.length : Int)) = s.rev - s.hist.length := wrap_i64 (by omega) (by omega)
    simp [g1]
    refine acall_val (c_inBounds [⟨rev, 0, s.rev⟩] (by simp)) (by simp [sps, AC.dc?]) (by simp) ?_
    by_cases g2 : 0 ≤ rev ∧ rev ≤ s.rev
    · by_cases g3 : rev < s.rev - s.hist.length
      · simp [OkAll, Sp.ok, g2, g3, w2, csF, g1]
      · exact absurd (by simp [csF, g1, g2, g3]) h
    · simp [OkAll, Sp.ok, g2, csF, g1]
  · simp [g1, csF]
set_option maxRecDepth 100000 in
theorem c_ChangesSince1 (s : St) (rev : Int) (h : csF s rev = 0) : FCall Try.prog 8 [s.av, iv .i64 rev] fun r H => ∃ g, r = .agg [ic 0, .own 0 g 0 (csL s rev).length] ∧ H = [some ⟨g, 72, 9, rcs (csL s rev)⟩] := by
  obtain ⟨g1, g2, g3⟩ := csF_ok h
  have h0 := stFault_rev g1
  obtain ⟨b1, b2⟩ := stFault_ok2 g1
  have w2 : IntKind.i64.wrap (s.rev - (s.hist.length : Int)) = s.rev - s.hist.length := wrap_i64 (by omega) (by omega)
  have ha := csL_above h
  refine fcall_gather [5] (fun j => j - 5) fun clk => acall_of_aw Try.func8 rfl ?_
  simp
  refine acall_val (c_StoreFault s (by omega) (by omega)) (by simp) (by simp) ?_
  simp [g1]
  refine acall_val (c_inBounds [⟨rev, 0, s.rev⟩] (by simp)) (by simp [sps, AC.dc?]) (by simp) ?_
  simp [OkAll, Sp.ok, g2, g3, w2]
  refine a_changesAbove s.hist rev fun c => ?_
  simp
  refine acall_pure (c_CollectCh _ _ _ _ _ (by decide) (s_changesAbove s.hist rev (by omega)) (by omega)) (by simp) ?_
  rintro r Hn c' ⟨xs, g, hx, rfl, rfl⟩ _
  subst hx
  rw [ha]
  simp
set_option maxRecDepth 100000 in
theorem c_sChangesSince0 (s : St) (rev : Int) (h : csF s rev ≠ 0) : FCall Try.prog 6 [s.av, iv .i64 rev] fun r H => r = .agg [ic (csF s rev), .d .nil] ∧ H = [] := by
  refine fcall_gather [] id fun clk => acall_of_aw Try.func6 rfl ?_
  simp
  refine acall_val (c_sStoreFault s) (by simp) (by simp) ?_
  by_cases g1 : stFault s = 0
  · have h0 := stFault_rev g1
    obtain ⟨b1, b2⟩ := stFault_ok2 g1
    simp [g1]
    refine acall_val (c_l1In rev 0 s.rev) (by simp) (by simp) ?_
    by_cases g2 : 0 ≤ rev ∧ rev ≤ s.rev
    · by_cases g3 : rev < s.rev - s.hist.length
      · simp [g2]
        refine acall_pure (c_l4Since0 s rev b2 h0 g3) (by simp [AC.dc?]) ?_
        rintro r Hn c ⟨rfl, rfl⟩ _
        simp [csF, g1, g2, g3]
      · exact absurd (by simp [csF, g1, g2, g3]) h
    · rw [show (decide (0 ≤ rev) && decide (rev ≤ s.rev)) = false by simp; omega]
      simp [csF, g1, g2]
  · simp [g1, csF]
set_option maxRecDepth 100000 in
theorem c_sChangesSince1 (s : St) (rev : Int) (h : csF s rev = 0) : FCall Try.prog 6 [s.av, iv .i64 rev] fun r H => ∃ g, r = .agg [ic 0, .own 0 g 0 (csL s rev).length] ∧ H = [some ⟨g, 72, 9, rcs (csL s rev)⟩] := by
  obtain ⟨g1, g2, g3⟩ := csF_ok h
  have h0 := stFault_rev g1
  obtain ⟨b1, b2⟩ := stFault_ok2 g1
  refine fcall_gather [2] (fun j => j - 2) fun clk => acall_of_aw Try.func6 rfl ?_
  simp
  refine acall_val (c_sStoreFault s) (by simp) (by simp) ?_
  simp [g1]
  refine acall_val (c_l1In rev 0 s.rev) (by simp) (by simp) ?_
  simp [g2]
  refine acall_pure (c_l4Since1 s rev b2 h0 g2.2 g3) (by simp [AC.dc?]) ?_
  rintro r Hn c ⟨g, rfl, rfl⟩ _
  simp
set_option maxRecDepth 100000 in
theorem c_markChangesResult (u : Int) (l : List Ch) (k : Int) (g : Nat) (hn : l.length ≤ 1048576) (hk : 0 ≤ k ∧ k ≤ 1073741824) : RCall Try.prog 12 [.agg [ic u, .own 0 g 0 l.length], iv .i64 k] ⟨g, 72, 9, rcs l⟩ fun r B Hn =>
    r = iv .i64 (k + 9 * l.length) ∧ B = ⟨g, 72, 9, rcs (chMarks k l.length)⟩ ∧ Hn = [] := by
  refine rcall_take fun clk => acall_of_aw Try.func12 rfl ?_
  simp
  refine acall_ref (k := 0) (c_markChangeS2 l k g hn hk) (by simp) (by simp) ?_
  rintro r B Hn c ⟨rfl, rfl, rfl⟩ _
  simp
set_option maxRecDepth 100000 in
theorem c_markChangesResultn (u : Int) (k : Int) : FCall Try.prog 12 [.agg [ic u, .d (.list 0 [])], iv .i64 k] fun r H => r = iv .i64 k ∧ H = [] := by
  refine fcall_gather [] id fun clk => acall_of_aw Try.func12 rfl ?_
  simp
  refine acall_val (c_markChangeSn k) (by simp) (by simp) ?_
  simp
set_option maxRecDepth 100000 in
theorem c_heldChangesResult (u : Int) (n : Nat) (k : Int) (hn : n ≤ 1048576) (hk : 0 ≤ k ∧ k ≤ 1073741824) : FCall Try.prog 13 [.agg [ic u, .d (.list n (rds (chMarks k n)))], iv .i64 k] fun r H => r = iv .i64 (k + 9 * n) ∧ H = [] := by
  have hq : ¬ k + 9 * (n : Int) < 0 := by omega
  refine fcall_gather [] id fun clk => acall_of_aw Try.func13 rfl ?_
  simp
  refine acall_val (c_heldChangeS n k hn hk) (by simp) (by simp) ?_
  simp [hq]
set_option maxRecDepth 100000 in
theorem c_eqChangesResult (x y : Int) (s t : List Ch) (h1 : s.length ≤ 1048576) : FCall Try.prog 9 [.agg [ic x, .d (.list s.length (rds s))], .agg [ic y, .d (.list t.length (rds t))]] fun r H => r = bv (decide (x = y ∧ s = t)) ∧ H = [] := by
  refine fcall_gather [] id fun clk => acall_of_aw Try.func9 rfl ?_
  by_cases g1 : x = y
  · simp [g1]
    refine acall_val (c_eqChangeS s t h1) (by simp) (by simp) ?_
    by_cases g2 : s = t <;> simp [g2]
  · simp [g1]
set_option maxRecDepth 100000 in
set_option maxHeartbeats 1000000 in
theorem law_ChangesSince0 (s : St) (rev : Int) (hs : s.Fits) (g : ¬ szSt s 1048576 < 0) (h : csF s rev ≠ 0) : FCall Try.prog 3 [s.av, iv .i64 rev] TT := by
  have w0 : IntKind.i64.wrap 1048576 = 1048576 := rfl
  obtain ⟨b1, b2, b3, b4⟩ := szSt_le g (by omega)
  have k1 := c_sChangesSince0 s rev h
  have k2 := c_ChangesSince0 s rev b1 b2 h
  obtain ⟨F, hF⟩ : ∃ F, F = csF s rev := ⟨_, rfl⟩
  rw [← hF] at k1 k2
  clear hF h
  have q1 : ¬ (1 : Int) + 7 * s.obs.length + 9 * s.hist.length < 0 := by omega
  refine fcall_gather [] id fun clk => acall_of_aw Try.func3 rfl ?_
  simp
  refine acall_val (c_szStore s 1048576 hs (by omega) (by omega)) (by simp) (by simp) ?_
  simp [g]
  refine a_toStore s b1 b2 ?_
  simp
  refine acall_froze k1 (by simp) fun r Hn h => ⟨.agg [ic F, .d (.list 0 [])], by obtain ⟨rfl, rfl⟩ := h; rfl, ?_⟩
  simp
  refine acall_pure (c_toStore s b1 b2) (by simp) ?_
  rintro r Hn c ⟨g1, g2, rfl, rfl⟩ _
  simp
  refine acall_pure k2 (by simp) ?_
  rintro r Hn c ⟨rfl, rfl⟩ _
  simp
  refine acall_val (c_eqChangesResult F F [] [] (by simp)) (by simp) (by simp) ?_
  simp
  refine codeOk_drawA mixed (by kernel_rfl) ?_
  simp
  refine q_toStore s b1 b2 ?_
  simp
  refine qcall_val (c_eqStore s s b1 b2) (by simp) (by simp) ?_
  simp
  refine acall_refs [2, 3] (c_markStore s 1 g1 g2 b1 b2 (by omega)) (by simp) rfl (by simp [rhoS]) ?_ ?_
  · intro j k B hj hB
    match j with
    | 0 => simp at hj hB; subst hj; subst hB; simp
    | 1 => simp at hj hB; subst hj; subst hB; simp
    | j + 2 => simp at hj
  rintro r Bs Hn c ⟨rfl, ⟨l, m, rfl⟩, X, rfl⟩ _ _
  simp [setL, q1]
  refine acall_val (c_eqChangesResult F F [] [] (by simp)) (by simp) (by simp) ?_
  simp
  refine acall_val (c_markChangesResultn F 1) (by simp) (by simp) ?_
  simp
  refine acall_val (c_heldChangesResult F 0 1 (by omega) (by omega)) (by simp [chMarks]) (by simp) ?_
  simp
  refine a_toStore s b1 b2 ?_
  simp
  refine acall_froze k2 (by simp) fun r Hn h => ⟨.agg [ic F, .d (.list 0 [])], by obtain ⟨rfl, rfl⟩ := h; rfl, ?_⟩
  simp
  refine acall_val (c_eqChangesResult F F [] [] (by simp)) (by simp) (by simp) ?_
  simp
  refine acall_val (c_heldChangesResult F 0 1 (by omega) (by omega)) (by simp [chMarks]) (by simp) ?_
  simp
set_option maxRecDepth 100000 in
set_option maxHeartbeats 1000000 in
theorem law_ChangesSince1 (s : St) (rev : Int) (hs : s.Fits) (g : ¬ szSt s 1048576 < 0) (h : csF s rev = 0) : FCall Try.prog 3 [s.av, iv .i64 rev] TT := by
  have w0 : IntKind.i64.wrap 1048576 = 1048576 := rfl
  obtain ⟨b1, b2, b3, b4⟩ := szSt_le g (by omega)
  have k1 := c_sChangesSince1 s rev h
  have k2 := c_ChangesSince1 s rev h
  have hL := csL_len s rev
  obtain ⟨L, hLe⟩ : ∃ L, L = csL s rev := ⟨_, rfl⟩
  rw [← hLe] at k1 k2 hL
  clear h hLe
  have b5 : L.length ≤ 1048576 := by omega
  have q1 : ¬ (1 : Int) + 7 * s.obs.length + 9 * s.hist.length < 0 := by omega
  have q2 : ¬ (1 : Int) + 9 * L.length < 0 := by omega
  have ht : List.take L.length (chMarks 1 L.length) = chMarks 1 L.length := List.take_of_length_le (by simp)
  refine fcall_gather [] id fun clk => acall_of_aw Try.func3 rfl ?_
  simp
  refine acall_val (c_szStore s 1048576 hs (by omega) (by omega)) (by simp) (by simp) ?_
  simp [g]
  refine a_toStore s b1 b2 ?_
  simp
  refine acall_froze k1 (by simp) fun r Hn h => ⟨.agg [ic 0, .d (.list L.length (rds L))], by obtain ⟨g0, rfl, rfl⟩ := h; simp, ?_⟩
  simp
  refine acall_pure (c_toStore s b1 b2) (by simp) ?_
  rintro r Hn c ⟨g1, g2, rfl, rfl⟩ _
  simp
  refine acall_pure k2 (by simp) ?_
  rintro r Hn c ⟨g3, rfl, rfl⟩ _
  simp
  refine acall_val (c_eqChangesResult 0 0 L L b5) (by simp) (by simp) ?_
  simp
  refine codeOk_drawA mixed (by kernel_rfl) ?_
  simp
  refine q_toStore s b1 b2 ?_
  simp
  refine qcall_val (c_eqStore s s b1 b2) (by simp) (by simp) ?_
  simp
  refine acall_refs [2, 3] (c_markStore s 1 g1 g2 b1 b2 (by omega)) (by simp) rfl (by simp [rhoS]) ?_ ?_
  · intro j k B hj hB
    match j with
    | 0 => simp at hj hB; subst hj; subst hB; simp
    | 1 => simp at hj hB; subst hj; subst hB; simp
    | j + 2 => simp at hj
  rintro r Bs Hn c ⟨rfl, ⟨l, m, rfl⟩, X, rfl⟩ _ _
  simp [setL, q1]
  refine acall_val (c_eqChangesResult 0 0 L L b5) (by simp) (by simp) ?_
  simp
  refine acall_ref (k := 5) (c_markChangesResult 0 L 1 g3 b5 (by omega)) (by simp) (by simp) ?_
  rintro r B Hn c ⟨rfl, rfl, rfl⟩ _
  simp
  refine acall_val (c_heldChangesResult 0 L.length 1 b5 (by omega)) (by simp [ht]) (by simp) ?_
  simp [q2]
  refine a_toStore s b1 b2 ?_
  simp
  refine acall_froze k2 (by simp) fun r Hn h => ⟨.agg [ic 0, .d (.list L.length (rds L))], by obtain ⟨g0, rfl, rfl⟩ := h; simp, ?_⟩
  simp
  refine acall_val (c_eqChangesResult 0 0 L L b5) (by simp) (by simp) ?_
  simp
  refine acall_val (c_heldChangesResult 0 L.length 1 b5 (by omega)) (by simp [ht]) (by simp) ?_
  simp [q2]
set_option maxRecDepth 100000 in
theorem law_ChangesSince (s : St) (rev : Int) (hs : s.Fits) : FCall Try.prog 3 [s.av, iv .i64 rev] TT := by
  by_cases g : szSt s 1048576 < 0
  · refine fcall_gather [] id fun clk => acall_of_aw Try.func3 rfl ?_
    simp
    refine acall_val (c_szStore s 1048576 hs (by omega) (by omega)) (by simp) (by simp) ?_
    simp [g]
  · by_cases h : csF s rev = 0
    · exact law_ChangesSince1 s rev hs g h
    · exact law_ChangesSince0 s rev hs g h
theorem walk_FnExactChangesSince {x y : AV} (h : OkAV true [.int .i64, .slice [.int .i64, .int .i64, .int .i64, .int .i64, .int .i64, .int .i64, .int .i64], .slice [.int .i64, .bool, .int .i64, .int .i64, .int .i64, .int .i64, .int .i64, .int .i64, .int .i64]] x) (h1 : OkAV false [.int .i64] y) : FCall Try.prog 3 [x, y] TT := by
  obtain ⟨s, rfl, hs⟩ := av_st h; obtain ⟨b, rfl, _⟩ := av_int h1; exact law_ChangesSince s b hs
end Go.Proofs.Ytckcdpocmmlniaa
