/-
  Draws of stores: a store that may be bent.
-/
import Derived.Test.YtiogdfliailenaaQ29
namespace Go.Proofs.Ytiogdfliailenaa
set_option maxRecDepth 100000
set_option linter.unusedSimpArgs false
set_option linter.unusedVariables false
set_option linter.unnecessarySimpa false
open Go Go.Abs Go.Proofs
/-- So may a bent store lie, too: nothing was appended to nothing. -/
def StAnsB (S : St) (r : AV) (Hn : AHeap) : Prop := StAns S r Hn ∨ (S.obs = [] ∧ S.hist = [] ∧ ∃ g1, r = .agg [ic S.rev, .own 1 g1 0 0, .d .nil] ∧ Hn = [some ⟨g1, 30, 7, []⟩])
/-- What a bent store is: a store of at most so many rows. -/
def BentP (code : List UInt8) (g m : Nat) (r : AV) (B : ABlk) (Hn : AHeap) : Prop := ∃ (S : St) (q : Nat), S.obs.length ≤ 120 ∧ S.hist.length ≤ 12 ∧ q ≤ m ∧ B = srcB g code q ∧ StAnsB S r Hn
theorem bent_end {code : List UInt8} {g m q g1 g2 off n1 n2 c : Nat} {cells : List Ch} {O C : List AC} {X : Option ABlk} {Y : AHeap} {rev : Int} (S : St) (e1 : S.obs.length ≤ 120) (e2 : S.hist.length ≤ 12) (hq : q ≤ m)
    (hr : rev = S.rev) (hn1 : n1 = S.obs.length) (hn2 : n2 = S.hist.length) (hO : O = rcs S.obs) (hC : C = rcs cells) (h1 : S.hist.length ≤ cells.length) (h2 : off = (cells.length - S.hist.length) * 9) (h3 : cells.drop (cells.length - S.hist.length) = S.hist) :
    EPostR (BentP code g m) (.agg [ic rev, .own 2 g1 0 n1, .own 3 g2 off n2]) (some (srcB g code q) :: X :: some ⟨g1, 30, 7, O⟩ :: some ⟨g2, 116, 9, C⟩ :: Y) c := by
  subst hr hn1 hn2 hO hC
  refine ⟨[2, 3], fun j => j - 1, ?_⟩
  simp [GPostR, gat, sig, srcB_ren]
  exact ⟨rfl, _, _, ⟨rfl, rfl⟩, S, q, e1, e2, hq, rfl, .inl (.inl ⟨g1, g2, off, cells, rfl, rfl, h1, h2, h3⟩)⟩
theorem bent_nil {code : List UInt8} {g m q c : Nat} {X : AHeap} {rev : Int} (hq : q ≤ m) : EPostR (BentP code g m) (.agg [ic rev, .d .nil, .d .nil]) (some (srcB g code q) :: X) c := by
  refine ⟨[], id, ?_⟩
  simp [GPostR, gat, sig, srcB_ren]
  exact ⟨rfl, _, _, ⟨rfl, rfl⟩, ⟨rev, [], []⟩, q, by simp, by simp, hq, rfl, .inl (.inr ⟨rfl, rfl, rfl, rfl⟩)⟩
theorem bent_one {code : List UInt8} {g m q c g1 : Nat} {X Z : Option ABlk} {rev : Int} (hq : q ≤ m) : EPostR (BentP code g m) (.agg [ic rev, .own 3 g1 0 0, .d .nil]) [some (srcB g code q), X, Z, some ⟨g1, 30, 7, []⟩] c := by
  refine ⟨[3], fun j => j - 2, ?_⟩
  simp [GPostR, gat, sig, srcB_ren]
  exact ⟨rfl, _, _, ⟨rfl, rfl⟩, ⟨rev, [], []⟩, q, by simp, by simp, hq, rfl, .inr ⟨rfl, rfl, g1, rfl, rfl⟩⟩
set_option maxRecDepth 100000 in
set_option maxHeartbeats 2000000 in
theorem c_l3Bent (code : List UInt8) (g p : Nat) (hc : code.length ≤ 1048576) (hp : p ≤ 400000) : RCall Try.prog 76 [.one (.ptr 0 g 0)] (srcB g code p) (BentP code g (p + 1010)) := by
  refine rcall_gatherE fun clk => acall_of_aw Try.func76 rfl ?_
  simp
  refine acall_ref (k := 0) (c_l3Draw code g p hc (by omega)) (by simp) (by rw [srcB_ren]; simp) ?_
  rintro r B Hn cc ⟨N, q, hN, hq, rfl, hA⟩ _
  obtain ⟨hrev, l1, l2, _, _, _⟩ := stFault_all hN
  have hwr : IntKind.i64.wrap (N.rev + 1) = N.rev + 1 := wrap_i64 (by omega) (by omega)
  rw [srcB_ren]
  rcases hA with ⟨g1, g2, off, cells, rfl, rfl, h1, h2, h3⟩ | ⟨e1, e2, rfl, rfl⟩
  · simp
    refine a_l1Next (code := code) (p := q) 16 hc (by omega) (by omega) (by simp) ?_
    intro v hv c _
    by_cases v0 : v = 0
    · subst v0
      simp [hwr]
      refine a_l1Pick (code := code) (e := 2) (p := q + 1) [-1, 100001, N.rev + 1, 0] hc (by omega) (by simp) rfl (by simp) (by simp [ids]) (by simp) ?_
      intro x hx c _
      simp
      exact bent_end ⟨x, N.obs, N.hist⟩ (Nat.le_trans l1 (by omega)) l2 (by omega) rfl rfl rfl rfl rfl h1 h2 h3
    have w0 : ¬ (v : Int) = 0 := by omega
    by_cases v1 : v = 1
    · subst v1
      have b1 : N.obs.length + N.obs.length ≤ maxLen := Nat.le_trans (m := 2000000) (by omega) (by decide)
      simp [w0]
      exact ⟨⟨by omega, b1⟩, bent_end ⟨N.rev, N.obs ++ N.obs, N.hist⟩ (by simp; omega) l2 (by omega) rfl (by simp) rfl rfl rfl h1 h2 h3⟩
    have w1 : ¬ (v : Int) = 1 := by omega
    by_cases v2 : v = 2
    · subst v2
      cases ho : N.obs with
      | nil =>
        simp [w0, w1]
        exact bent_end ⟨N.rev, [], N.hist⟩ (by simp) l2 (by omega) rfl rfl rfl rfl rfl h1 h2 h3
      | cons o t =>
        have l3 : t.length + 1 ≤ 60 := by rw [ho] at l1; simpa using l1
        simp [w0, w1]
        refine codeOk_drawR [none, none, none, none, some ⟨cc, 103, 3, [ic N.rev, .own 2 g1 0 (t.length + 1), .own 3 g2 off N.hist.length]⟩] (.still 0 (.still 1 (.still 2 (.still 3 (.still 4 (.still 5 (.next 6 (.next 7 (.next 8 (.next 9 (.next 10 .nil))))))))))) mixed rfl (by kernel_rfl) ?_ ?_
        · simp
        simp [hwr]
        refine a_l1Pick (code := code) (e := 2) (p := q + 1) [0, 1, N.rev + 1] hc (by omega) (by simp) rfl (by simp) (by simp [ids]) (by simp) ?_
        intro x hx c _
        simp
        exact bent_end ⟨N.rev, ⟨o.kind, o.id, o.a, o.b, o.c, o.d, x⟩ :: t, N.hist⟩ (by simp; omega) l2 (by omega) rfl rfl rfl (by rw [rcs_cons]; rfl) rfl h1 h2 h3
    have w2 : ¬ (v : Int) = 2 := by omega
    by_cases v3 : v = 3
    · subst v3
      cases hh : N.hist with
      | nil =>
        rw [hh] at h1 h2 h3
        simp [w0, w1, w2]
        exact bent_end ⟨N.rev, N.obs, []⟩ (Nat.le_trans l1 (by omega)) (by simp) (by omega) rfl rfl rfl rfl rfl h1 h2 h3
      | cons a b =>
        rw [hh] at h1 h2 h3 l2
        simp only [List.length_cons] at h1 h2 h3 l2
        simp [w0, w1, w2]
        have h4 : cells.drop (cells.length - b.length) = b := by
          have := congrArg List.tail h3
          rw [List.tail_drop] at this
          rw [show cells.length - b.length = cells.length - (b.length + 1) + 1 by omega]
          exact this
        exact ⟨by omega, bent_end ⟨N.rev, N.obs, b⟩ (Nat.le_trans l1 (by omega)) (Nat.le_trans (Nat.le_succ _) l2) (by omega) rfl rfl rfl rfl rfl (Nat.le_trans (Nat.le_succ _) h1) (by show off + 9 = (cells.length - b.length) * 9; omega) h4⟩
    have w3 : ¬ (v : Int) = 3 := by omega
    by_cases v4 : v = 4
    · subst v4
      rcases List.eq_nil_or_concat N.hist with hh | ⟨ini, z, hh⟩
      · rw [hh] at h1 h2 h3
        simp [w0, w1, w2, w3, hh]
        exact bent_end ⟨N.rev, N.obs, []⟩ (Nat.le_trans l1 (by omega)) (by simp) (by omega) rfl rfl rfl rfl rfl h1 h2 h3
      · rw [List.concat_eq_append] at hh
        rw [hh] at h1 h2 h3 l2
        simp only [List.length_append, List.length_cons, List.length_nil, Nat.zero_add] at h1 h2 h3 l2
        simp [w0, w1, w2, w3, hh]
        obtain ⟨A, hA1, hA2⟩ : ∃ A, cells = A ++ [z] ∧ A.length + 1 = cells.length := by
          refine ⟨cells.take (cells.length - (ini.length + 1)) ++ ini, ?_, ?_⟩
          · rw [List.append_assoc, ← h3, List.take_append_drop]
          · rw [List.length_append, List.length_take]; omega
        have hwi : IntKind.i64.wrap (ini.length : Int) = ini.length := wrap_i64 (by omega) (by omega)
        have hix : off + ini.length * 9 = A.length * 9 := by omega
        have hrc : rcs cells = rcs A ++ rcs [z] := by rw [hA1, rcs_append]
        have hget : (rcs cells)[A.length * 9]? = some (ic z.rev) := by rw [hrc]; simp [rcs_cons]
        have hz : (rcs cells).set (A.length * 9) (ic (IntKind.i64.wrap (z.rev + 1))) = rcs (A ++ [(⟨IntKind.i64.wrap (z.rev + 1), z.gone, z.ob⟩ : Ch)]) := by
          rw [hrc, ← rcs_append, List.set_append_right _ _ (by rw [rcs_len9]; exact Nat.le_refl _), rcs_len9, Nat.sub_self]
          rfl
        have hd : A.drop (A.length + 1 - (ini.length + 1)) = ini := by
          rw [hA1, List.length_append, List.length_singleton, List.drop_append_of_le_length (by omega)] at h3
          exact List.append_cancel_right h3
        simp [hwi, hix, hget]
        exact ⟨by omega, by omega, bent_end ⟨N.rev, N.obs, ini ++ [⟨IntKind.i64.wrap (z.rev + 1), z.gone, z.ob⟩]⟩ (Nat.le_trans l1 (by omega)) (by simp; omega) (by omega) rfl rfl (by simp) rfl hz (by simp; omega) (by simp; omega)
          (by show List.drop _ _ = _; simp only [List.length_append, List.length_singleton]; rw [List.drop_append_of_le_length (by omega), hd])⟩
    have w4 : ¬ (v : Int) = 4 := by omega
    by_cases v5 : v = 5
    · subst v5
      cases ho : N.obs with
      | nil =>
        simp [w0, w1, w2, w3, w4]
        exact bent_end ⟨N.rev, [], N.hist⟩ (by simp) l2 (by omega) rfl rfl rfl rfl rfl h1 h2 h3
      | cons o t =>
        have l3 : t.length + 1 ≤ 60 := by rw [ho] at l1; simpa using l1
        simp [w0, w1, w2, w3, w4]
        refine codeOk_drawR [none, none, none, none, some ⟨cc, 103, 3, [ic N.rev, .own 2 g1 0 (t.length + 1), .own 3 g2 off N.hist.length]⟩] (.still 0 (.still 1 (.still 2 (.next 3 (.next 4 (.next 5 (.next 6 (.next 7 .nil)))))))) mixed rfl (by kernel_rfl) ?_ ?_
        · simp
        simp
        refine a_l1Pick (code := code) (e := 2) (p := q + 1) [-1, 3] hc (by omega) (by simp) rfl (by simp) (by simp [ids]) (by simp) ?_
        intro x hx c _
        simp
        exact bent_end ⟨N.rev, ⟨o.kind, o.id, x, o.b, o.c, o.d, o.rev⟩ :: t, N.hist⟩ (by simp; omega) l2 (by omega) rfl rfl rfl (by rw [rcs_cons]; rfl) rfl h1 h2 h3
    have w5 : ¬ (v : Int) = 5 := by omega
    simp [w0, w1, w2, w3, w4, w5, v0, v1, v2, v3, v4, v5]
    exact bent_end ⟨N.rev, N.obs, N.hist⟩ (Nat.le_trans l1 (by omega)) l2 (by omega) rfl rfl rfl rfl rfl h1 h2 h3
  · simp [e1, e2]
    refine a_l1Next (code := code) (p := q) 16 hc (by omega) (by omega) (by simp) ?_
    intro v hv c _
    by_cases v0 : v = 0
    · subst v0
      simp [hwr]
      refine a_l1Pick (code := code) (e := 2) (p := q + 1) [-1, 100001, N.rev + 1, 0] hc (by omega) (by simp) rfl (by simp) (by simp [ids]) (by simp) ?_
      intro x hx c _
      simp
      exact bent_nil (by omega)
    have w0 : ¬ (v : Int) = 0 := by omega
    by_cases v1 : v = 1
    · subst v1
      simp [w0]
      exact bent_one (by omega)
    have w1 : ¬ (v : Int) = 1 := by omega
    by_cases v2 : v = 2
    · subst v2
      simp [w0, w1]
      exact bent_nil (by omega)
    have w2 : ¬ (v : Int) = 2 := by omega
    by_cases v3 : v = 3
    · subst v3
      simp [w0, w1, w2]
      exact bent_nil (by omega)
    have w3 : ¬ (v : Int) = 3 := by omega
    by_cases v4 : v = 4
    · subst v4
      simp [w0, w1, w2, w3]
      exact bent_nil (by omega)
    have w4 : ¬ (v : Int) = 4 := by omega
    by_cases v5 : v = 5
    · subst v5
      simp [w0, w1, w2, w3, w4]
      exact bent_nil (by omega)
    have w5 : ¬ (v : Int) = 5 := by omega
    simp [w0, w1, w2, w3, w4, w5, v0, v1, v2, v3, v4, v5]
    exact bent_nil (by omega)
end Go.Proofs.Ytiogdfliailenaa
