/-
  Draws of stores: a list of writes that a store takes.
  Draws of stores: a right store, with its arrays.
-/
import Derived.Test.YtiogdfliailenaaQ28
namespace Go.Proofs.Ytiogdfliailenaa
set_option maxRecDepth 100000
set_option linter.unusedSimpArgs false
set_option linter.unusedVariables false
set_option linter.unnecessarySimpa false
open Go Go.Abs Go.Proofs
theorem rp_snoc : ∀ (l : List Wr) (s N : St) (w : Wr), rp l s = (0, N) → chkW N w = 0 → rp (l ++ [w]) s = (0, nxSt N w)
  | [], s, N, w, h, hk => by
    rw [rp] at h
    cases h
    rw [List.nil_append, rp, if_pos hk, rp]
  | v :: t, s, N, w, h, hk => by
    rw [rp] at h
    rw [List.cons_append, rp]
    split at h
    · rename_i h0
      rw [if_pos h0]
      exact rp_snoc t _ N w h hk
    · rename_i h0
      exact absurd (congrArg Prod.fst h) h0
def WsI (code : List UInt8) (g n p clk : Nat) (z : ASt) : Prop := ∃ (m q c g3 : Nat) (l : List Wr) (N : St), m ≤ n ∧ l.length + m ≤ n ∧ q ≤ p + 20 * (n - m) ∧ rp l st0 = (0, N) ∧ stFault N = 0 ∧
  z = ⟨[.one (.ptr 0 g 0), iv .i64 m, unknown, unknown, unknown, .one (.ptr 1 clk 0), .one (.own 2 g3 0 l.length)] ++ List.replicate 17 unknown,
    [some (srcB g code q), some ⟨clk, 103, 3, [ic N.rev, .d (.list N.obs.length (rds N.obs)), .d (.list N.hist.length (rds N.hist))]⟩, some ⟨g3, 32, 10, rcs l⟩], c⟩
set_option maxRecDepth 100000 in
set_option maxHeartbeats 1000000 in
theorem c_l3Writes (code : List UInt8) (g p n : Nat) (hc : code.length ≤ 1048576) (hp : p ≤ 500000) (hn : n ≤ 300) : RCall Try.prog 96 [.one (.ptr 0 g 0), iv .i64 n] (srcB g code p) fun r B Hn =>
    ∃ (l : List Wr) (N : St) (q g3 : Nat), l.length ≤ n ∧ rp l st0 = (0, N) ∧ stFault N = 0 ∧ q ≤ p + 20 * n ∧ r = .one (.own 1 g3 0 l.length) ∧ B = srcB g code q ∧ Hn = [some ⟨g3, 32, 10, rcs l⟩] := by
  refine rcall_gather [2] (fun j => j - 1) fun clk => acall_of_aw Try.func96 rfl ?_
  simp
  refine codeOk_nil0 ?_
  simp [nilB, nil0]
  refine codeOk_loop [true, true, false, false, false, true, true] 3 (WsI code g n p clk) (fun z => match z.tmps.getD 1 unknown with | .one (.d (.s (.int _ i))) => i.toNat | _ => 0) ?_ ?_
  · simp
    exact ⟨n, p, _, _, [], st0, by omega, by simp, by omega, rfl, stFault_st0, rfl⟩
  · rintro z ⟨m, q, c, g3, l, N, hm, hlm, hq, hrp, hN, rfl⟩
    obtain ⟨hrev, l1, l2, _, _, _⟩ := stFault_all hN
    by_cases h0 : 0 < m
    · obtain ⟨k, rfl⟩ : ∃ k, m = k + 1 := ⟨m - 1, by omega⟩
      have hw : IntKind.i64.wrap (k : Int) = (k : Int) := wrap_i64 (by omega) (by omega)
      simp
      refine acall_refs [0, 1] (c_l3Next code g clk q N hc (by omega) (by omega)) (by decide) rfl (by simp [rhoS]) ?_ ?_
      · intro j i B h1 h2
        match j with
        | 0 => simp at h1 h2; subst h1; subst h2; rw [srcB_ren]; rfl
        | 1 => simp at h1 h2; subst h1; subst h2; rw [stB_ren]; rfl
        | j + 2 => simp at h1
      rintro r Bs Hn c ⟨⟨w, rfl⟩, ⟨q', hq', rfl⟩, rfl⟩ _ _
      simp [-ABlk.ren, setL, srcB_ren, stB_ren]
      have hC := c_l3Check N w [] hN
      rw [← chkW_l3 hN] at hC
      refine acall_val hC (by simp [stB, AC.dc?]) (by simp) ?_
      by_cases hk : chkW N w = 0
      · simp [hk]
        refine acall_froze (c_l3ApplyS N w [] hk) (by simp [stB, AC.dc?]) fun r Hn hr => ⟨_, hr, ?_⟩
        have hm' : l.length + 1 ≤ maxLen := Nat.le_trans (m := 2000000) (by omega) (by decide)
        have he : rcs (l ++ [w]) = rcs l ++ w.cells := by rw [← rcs_append, rcs_cons, rcs_nil, List.append_nil]; rfl
        simp [stB, hw]
        exact ⟨⟨by omega, hm'⟩, k, q', _, _, l ++ [w], nxSt N w, by omega, by simp; omega, by omega, rp_snoc l st0 N w hrp hk, nxSt_ok hk, by rw [he, List.length_append]; rfl⟩
      · simp [hk, hw]
        exact ⟨k, q', _, _, l, N, by omega, by omega, by omega, hrp, hN, rfl⟩
    · have e : m = 0 := by omega
      subst e
      simp [GPostR, gat, sig, srcB_ren]
      exact ⟨rfl, _, _, ⟨rfl, rfl⟩, l, by omega, N, hrp, hN, q, by omega, g3, ⟨rfl, rfl⟩, rfl, rfl⟩
end Go.Proofs.Ytiogdfliailenaa
namespace Go.Proofs.Ytiogdfliailenaa
set_option maxRecDepth 100000
set_option linter.unusedSimpArgs false
set_option linter.unusedVariables false
set_option linter.unnecessarySimpa false
open Go Go.Abs Go.Proofs
/-- A store as the draws make it: it lies in arrays of its own, or it is empty. -/
def StAns (S : St) (r : AV) (Hn : AHeap) : Prop :=
  (∃ g1 g2 off cells, r = .agg [ic S.rev, .own 1 g1 0 S.obs.length, .own 2 g2 off S.hist.length] ∧ Hn = [some ⟨g1, 30, 7, rcs S.obs⟩, some ⟨g2, 116, 9, rcs cells⟩] ∧
    S.hist.length ≤ cells.length ∧ off = (cells.length - S.hist.length) * 9 ∧ cells.drop (cells.length - S.hist.length) = S.hist) ∨
  (S.obs = [] ∧ S.hist = [] ∧ r = .agg [ic S.rev, .d .nil, .d .nil] ∧ Hn = [])
set_option maxRecDepth 100000 in
theorem c_sReplayWritesE : FCall Try.prog 95 [rlist ([] : List Wr)] fun r H => r = .agg [ic 0, ic 0, .d .nil, .d .nil] ∧ H = [] := by
  refine fcall_gather [] id fun clk => acall_of_aw Try.func95 rfl ?_
  simp
  refine codeOk_loopW rpMask (fun z => ∃ c, z = ⟨[rlist ([] : List Wr), unknown, .one (.ptr 0 clk 0), .one (.ptr 1 (clk + 1) 0), iv .i64 0] ++ List.replicate 26 unknown,
    [some ⟨clk, 127, 4, [ic 0, ic 0, .d .nil, .d .nil]⟩, some ⟨clk + 1, 103, 3, [ic 0, .d .nil, .d .nil]⟩], c⟩) (fun _ => 0) ?_ ?_
  · exact ⟨_, WkH.refl _, _, rfl⟩
  · rintro z ⟨c, rfl⟩
    simp
set_option maxRecDepth 100000 in
set_option maxHeartbeats 1000000 in
theorem c_l3Draw (code : List UInt8) (g p : Nat) (hc : code.length ≤ 1048576) (hp : p ≤ 400000) : RCall Try.prog 89 [.one (.ptr 0 g 0)] (srcB g code p) fun r B Hn =>
    ∃ (N : St) (q : Nat), stFault N = 0 ∧ q ≤ p + 1000 ∧ B = srcB g code q ∧ StAns N r Hn := by
  refine rcall_gatherE fun clk => acall_of_aw Try.func89 rfl ?_
  simp
  refine a_l1Pick (code := code) (e := 2) (p := p) [0, 4, 12, 30] hc (by omega) (by simp) rfl (by simp) (by simp [ids]) (by simp) ?_
  intro x hx c _
  obtain ⟨n, rfl, hn⟩ : ∃ n : Nat, x = (n : Int) ∧ n ≤ 30 := ⟨x.toNat, by simp at hx; omega, by simp at hx; omega⟩
  simp
  refine acall_ref (k := 0) (c_l3Writes code g (p + 1) n hc (by omega) (by omega)) (by simp) (by rw [srcB_ren]; simp) ?_
  rintro r B Hn c ⟨l, N, q, g3, hl, hrp, hN, hq, rfl, rfl, rfl⟩ _
  rw [srcB_ren]
  simp
  by_cases hl0 : l = []
  · subst hl0
    refine acall_pure c_sReplayWritesE (by simp) ?_
    rintro r Hn c' ⟨rfl, rfl⟩ _
    simp [EPostR]
    refine ⟨[], id, ?_⟩
    simp [GPostR, gat, sig, srcB_ren]
    exact ⟨rfl, _, _, ⟨rfl, rfl⟩, st0, stFault_st0, q, by omega, rfl, .inr ⟨rfl, rfl, rfl, rfl⟩⟩
  · have h0 : (rp l st0).1 = 0 := by rw [hrp]
    refine acall_pure (c_sReplayWritesO l (by omega) hl0 h0) (by simp) ?_
    · rintro r Hn c' ⟨g1, g2, off, cells, rfl, rfl, h1, h2, h3⟩ _
      simp [EPostR]
      refine ⟨[4, 5], fun j => j - 3, ?_⟩
      simp [GPostR, gat, sig, srcB_ren]
      exact ⟨rfl, _, _, ⟨rfl, rfl⟩, (rp l st0).2, by rw [hrp]; exact hN, q, by omega, rfl, .inl ⟨g1, g2, off, cells, rfl, rfl, by assumption, by assumption, by assumption⟩⟩
end Go.Proofs.Ytiogdfliailenaa
