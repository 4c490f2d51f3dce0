/-
  Draws of caches: one in which a leader did some.
  Draws of caches, as the laws ask for them.
-/
import Derived.Test.YtiogdfliailenaaQ31
import Derived.Test.YtiogdfliailenaaQ40
namespace Go.Proofs.Ytiogdfliailenaa
set_option maxRecDepth 100000
set_option linter.unusedSimpArgs false
set_option linter.unusedVariables false
set_option linter.unnecessarySimpa false
open Go Go.Abs Go.Proofs
theorem stFault_obsOk {s : St} (h : stFault s = 0) : ObsOk s.obs := by
  obtain ⟨hrev, l1, l2, hb, hr, _⟩ := stFault_all h
  exact ⟨l1, fun o ho => (obsBad_each hb o ho).1, hr⟩
theorem wk3 (a b c : Option ABlk) (X : AHeap) : WkH (a :: b :: c :: X) [a, b, c] := by simp
def lsW : Wr := ⟨1, mkLease 0 1, 0, 1⟩
theorem lsW_ok : chkW st0 lsW = 0 := by decide
def LcI (code : List UInt8) (g m clk : Nat) (z : ASt) : Prop := ∃ (k q c : Nat) (N : St), k ≤ 40 ∧ q + 25 * k ≤ m ∧ stFault N = 0 ∧
  z = ⟨[.one (.ptr 0 g 0), unknown, .one (.ptr 1 clk 0), .one (.ptr 2 (clk + 1) 0), unknown, iv .i64 k] ++ List.replicate 35 unknown,
    [some (srcB g code q), some ⟨clk, 26, 2, [ic 0, .d (.list 0 [])]⟩, some ⟨clk + 1, 103, 3, [ic N.rev, .d (.list N.obs.length (rds N.obs)), .d (.list N.hist.length (rds N.hist))]⟩], c⟩
set_option maxRecDepth 100000 in
set_option maxHeartbeats 1000000 in
theorem c_l6Cache (code : List UInt8) (g p : Nat) (hc : code.length ≤ 1048576) (hp : p ≤ 400000) : RCall Try.prog 69 [.one (.ptr 0 g 0)] (srcB g code p) (CaP code g (p + 1010)) := by
  refine rcall_gatherE fun clk => acall_of_ok Try.func69 rfl (codeOk_seq (aw_sound _ _ _ ?_))
  simp
  refine codeOk_seq (aw_sound _ _ _ ?_)
  simp
  refine codeOk_nil0 (aw_sound _ _ _ ?_)
  simp [nilB_src, nilB_mk, nil0]
  refine acall_val (c_sNewLease 0 1) (by simp) (by simp) ?_
  simp
  refine acall_val (c_l6Put (mkLease 0 1)) (by simp) (by simp) ?_
  simp [mkW]
  refine acall_froze (c_l3ApplyS st0 lsW [] lsW_ok) (by simp [AC.dc?, lsW, st0, mkLease]) fun r Hn hr => ⟨_, hr, ?_⟩
  simp
  refine a_l1Pick (code := code) (e := 2) (p := p) [4, 15, 40] hc (by omega) (by simp) rfl (by simp) (by simp [ids]) (by simp) ?_
  intro x hx c _
  obtain ⟨n, rfl, hn⟩ : ∃ n : Nat, x = (n : Int) ∧ n ≤ 40 := ⟨x.toNat, by simp at hx; omega, by simp at hx; omega⟩
  simp
  refine codeOk_loopW [true, false, true, true, false, true] (LcI code g (p + 1010) clk) (fun z => match z.tmps.getD 5 unknown with | .one (.d (.s (.int _ i))) => i.toNat | _ => 0) ?_ ?_
  · simp
    exact ⟨_, wk3 _ _ _ _, n, p + 1, _, nxSt st0 lsW, hn, by omega, nxSt_ok lsW_ok, rfl⟩
  · rintro z ⟨k, q, c, N, hk, hq, hN, rfl⟩
    obtain ⟨hrev, l1, l2, _, _, _⟩ := stFault_all hN
    by_cases h0 : 0 < k
    · obtain ⟨j, rfl⟩ : ∃ j, k = j + 1 := ⟨k - 1, by omega⟩
      have hw : IntKind.i64.wrap (j : Int) = (j : Int) := wrap_i64 (by omega) (by omega)
      obtain ⟨E, hE⟩ := c_l3EpochE N.obs (by omega)
      simp
      refine acall_refs [0, 2] (c_l3Next code g (clk + 1) q N hc (by omega) (by omega)) (by decide) rfl (by simp [rhoS]) ?_ ?_
      · intro j i B h1 h2
        match j with
        | 0 => simp at h1 h2; subst h1; subst h2; rw [srcB_ren]; rfl
        | 1 => simp at h1 h2; subst h1; subst h2; rw [stB_ren]; rfl
        | j + 2 => simp at h1
      rintro r Bs Hn c ⟨⟨w, rfl⟩, ⟨q', hq', rfl⟩, rfl⟩ _ _
      simp [-ABlk.ren, setL, srcB_ren, stB_ren]
      refine a_l1Chance (code := code) (p := q') 2 hc (by omega) (by omega) (by simp) ?_
      intro b c _
      cases b
      · simp
        have hC := c_l3Check N w [] hN
        rw [← chkW_l3 hN] at hC
        refine acall_val hC (by simp [stB, AC.dc?]) (by simp) ?_
        by_cases hk2 : chkW N w = 0
        · simp [hk2]
          refine acall_froze (c_l3ApplyS N w [] hk2) (by simp [stB, AC.dc?]) fun r Hn hr => ⟨_, hr, ?_⟩
          simp [stB, hw]
          exact ⟨_, wk3 _ _ _ _, j, q' + 1, _, nxSt N w, by omega, by omega, nxSt_ok hk2, rfl⟩
        · simp [hk2, stB, hw]
          exact ⟨_, wk3 _ _ _ _, j, q' + 1, _, N, by omega, by omega, hN, rfl⟩
      · simp [stB]
        refine acall_tup (c_l6Next N.obs (stFault_obsOk hN)) rfl rfl ?_
        generalize (nextW N.obs).getD wr0 = W2
        obtain ⟨op2, ⟨kd2, id2, a2, b2, c2, d2, rv2⟩, ex2, st2⟩ := W2
        simp
        refine acall_val hE (by simp) (by simp) ?_
        cases hs : (nextW N.obs).isSome
        · simp
          have hC := c_l3Check N w [] hN
          rw [← chkW_l3 hN] at hC
          refine acall_val hC (by simp [stB, AC.dc?]) (by simp) ?_
          by_cases hk2 : chkW N w = 0
          · simp [hk2]
            refine acall_froze (c_l3ApplyS N w [] hk2) (by simp [stB, AC.dc?]) fun r Hn hr => ⟨_, hr, ?_⟩
            simp [stB, hw]
            exact ⟨_, wk3 _ _ _ _, j, q' + 1, _, nxSt N w, by omega, by omega, nxSt_ok hk2, rfl⟩
          · simp [hk2, stB, hw]
            exact ⟨_, wk3 _ _ _ _, j, q' + 1, _, N, by omega, by omega, hN, rfl⟩
        · simp
          have hC := c_l3Check N ⟨op2, ⟨kd2, id2, a2, b2, c2, d2, rv2⟩, ex2, E⟩ [] hN
          rw [← chkW_l3 hN] at hC
          refine acall_val hC (by simp [stB, AC.dc?]) (by simp) ?_
          by_cases hk2 : chkW N ⟨op2, ⟨kd2, id2, a2, b2, c2, d2, rv2⟩, ex2, E⟩ = 0
          · simp [hk2]
            refine acall_froze (c_l3ApplyS N ⟨op2, ⟨kd2, id2, a2, b2, c2, d2, rv2⟩, ex2, E⟩ [] hk2) (by simp [stB, AC.dc?]) fun r Hn hr => ⟨_, hr, ?_⟩
            simp [stB, hw]
            exact ⟨_, wk3 _ _ _ _, j, q' + 1, _, nxSt N ⟨op2, ⟨kd2, id2, a2, b2, c2, d2, rv2⟩, ex2, E⟩, by omega, by omega, nxSt_ok hk2, rfl⟩
          · simp [hk2, stB, hw]
            exact ⟨_, wk3 _ _ _ _, j, q' + 1, _, N, by omega, by omega, hN, rfl⟩
    · have e : k = 0 := by omega
      subst e
      have hL := c_l4List N (by omega)
      simp
      refine acall_pure hL (by simp [AC.dc?]) ?_
      rintro r Hn c' ⟨g', rfl, rfl⟩ _
      simp
      refine ⟨[3], fun j => j - 2, ?_⟩
      simp [GPostR, gat, sig, srcB_ren]
      exact ⟨rfl, _, _, ⟨rfl, rfl⟩, N.rev, N.obs, q, g', by omega, by omega, rfl, rfl, rfl⟩
end Go.Proofs.Ytiogdfliailenaa
namespace Go.Proofs.Ytiogdfliailenaa
set_option maxRecDepth 100000
set_option linter.unusedSimpArgs false
set_option linter.unusedVariables false
set_option linter.unnecessarySimpa false
open Go Go.Abs Go.Proofs
set_option maxRecDepth 100000 in
theorem c_l6Bent (code : List UInt8) (g p : Nat) (hc : code.length ≤ 1048576) (hp : p ≤ 300000) : RCall Try.prog 46 [.one (.ptr 0 g 0)] (srcB g code p) (CaP code g (p + 1011)) := by
  refine rcall_gatherE fun clk => acall_of_aw Try.func46 rfl ?_
  simp
  refine a_l1Chance (code := code) (p := p) 12 hc (by omega) (by omega) (by simp) ?_
  intro b c _
  cases b
  · simp
    refine acall_ref (k := 0) (c_l6Cache code g (p + 1) hc (by omega)) (by simp) (by rw [srcB_ren]; simp) ?_
    rintro r B Hn c ⟨v, l, q, g1, hl, hq, rfl, rfl, rfl⟩ _
    rw [srcB_ren]
    simp
    refine ⟨[2], fun j => j - 1, ?_⟩
    simp [GPostR, gat, sig, srcB_ren]
    exact ⟨rfl, _, _, ⟨rfl, rfl⟩, v, l, q, g1, hl, by omega, rfl, rfl, rfl⟩
  · simp
    refine acall_ref (k := 0) (c_l4Bent code g (p + 1) hc (by omega)) (by simp) (by rw [srcB_ren]; simp) ?_
    rintro r B Hn c ⟨v, l, q, g1, hl, hq, rfl, rfl, rfl⟩ _
    rw [srcB_ren]
    simp
    refine ⟨[2], fun j => j - 1, ?_⟩
    simp [GPostR, gat, sig, srcB_ren]
    exact ⟨rfl, _, _, ⟨rfl, rfl⟩, v, l, q, g1, hl, by omega, rfl, rfl, rfl⟩
/-- A drawn cache and a number, as data. -/
def CaN (r : AV) : Prop := ∃ (s : Ca) (n : Int), s.obs.length ≤ 120 ∧ r = .tup [s.av, iv .i64 n]
set_option maxRecDepth 100000 in
theorem d_DrawDoneOf (code : List UInt8) (hc : code.length ≤ 1048576) : ∀ clk, ACall Try.prog 21 [blist code] [] clk fun r _ _ => CaN r := by
  intro clk
  refine acall_of_ok Try.func21 rfl (codeOk_seq (aw_sound _ _ _ ?_))
  simp
  refine codeOk_seq (aw_sound _ _ _ ?_)
  simp
  refine a_l1Source code fun c _ => ?_
  simp
  refine codeOk_seq (aw_sound _ _ _ ?_)
  simp
  refine acall_ref (k := 1) (c_l6Bent code (clk + 1) 0 hc (by omega)) (by simp) (by rw [srcB_ren]; simp) ?_
  rintro r B Hn c ⟨v, l, q, g1, hl, hq, rfl, rfl, rfl⟩ _
  rw [srcB_ren]
  simp
  refine a_l1Pick (code := code) (e := 2) (p := q) [0, 1, 19, 2] hc (by omega) (by simp) rfl (by simp) (by simp [ids]) (by simp) ?_
  intro x hx c _
  simp
  refine codeOk_freezeB 2 (aw_sound _ _ _ ?_)
  simp [frzV, frzB_src, frzB_mk, frz_rcs, frzC, ofJ, snap1, blkAt, AC.dc?, bodyA, ressA]
  exact ⟨⟨v, l⟩, x, hl, rfl⟩
theorem a_DrawDoneOf (code : List UInt8) (hc : code.length ≤ 1048576) {H : AHeap} {clk : Nat} {K : AV → AHeap → Nat → Prop} (hK : ∀ (s : Ca) (n : Int), s.obs.length ≤ 120 → K (.tup [s.av, iv .i64 n]) H clk) : ACall Try.prog 21 [blist code] H clk K :=
  acall_dataE (d_DrawDoneOf code hc) rfl (by rintro r ⟨s, n, hs, rfl⟩; exact .inr ⟨_, rfl, rfl⟩) (by rintro r ⟨s, n, hs, rfl⟩; exact hK s n hs)
set_option maxRecDepth 100000 in
theorem d_DrawNextForSet (code : List UInt8) (hc : code.length ≤ 1048576) : ∀ clk, ACall Try.prog 5 [blist code] [] clk fun r _ _ => CaN r := by
  intro clk
  refine acall_of_aw Try.func5 rfl ?_
  simp
  refine a_DrawDoneOf code hc fun s n hs => ?_
  simp [bodyA, ressA]
  exact ⟨s, n, hs, rfl⟩
theorem a_DrawNextForSet (code : List UInt8) (hc : code.length ≤ 1048576) {H : AHeap} {clk : Nat} {K : AV → AHeap → Nat → Prop} (hK : ∀ (s : Ca) (n : Int), s.obs.length ≤ 120 → K (.tup [s.av, iv .i64 n]) H clk) : ACall Try.prog 5 [blist code] H clk K :=
  acall_dataE (d_DrawNextForSet code hc) rfl (by rintro r ⟨s, n, hs, rfl⟩; exact .inr ⟨_, rfl, rfl⟩) (by rintro r ⟨s, n, hs, rfl⟩; exact hK s n hs)
end Go.Proofs.Ytiogdfliailenaa
