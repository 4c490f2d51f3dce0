/-
  Rows of numbers; the indexes of an owner's pods: on both sides.
-/
import Derived.Test.YtiogdfliailenaaQ44
namespace Go.Proofs.Ytiogdfliailenaa
set_option maxRecDepth 100000
set_option linter.unusedSimpArgs false
set_option linter.unusedVariables false
set_option linter.unnecessarySimpa false
open Go Go.Abs Go.Proofs
instance : Row Int where
  w := 1
  dcs := fun n => [dc n]
  len _ := rfl
  pos := by decide
  flat a d h := by simp at h; subst h; rfl
  inj a b h := by simpa using h
@[simp] theorem dcs_int (n : Int) : Row.dcs n = [dc n] := rfl
section
variable (l : List Int) (i n : Nat)
@[simp] theorem rds_lenI : (rds l).length = l.length := by have := rds_length l; simpa [Row.w] using this
@[simp] theorem rcs_lenI : (rcs l).length = l.length := by have := rcs_length l; simpa [Row.w] using this
@[simp] theorem rds_dropI : (rds l).drop i = rds (l.drop i) := by have := rds_drop l i; simpa [Row.w] using this
@[simp] theorem rcs_dropI : (rcs l).drop i = rcs (l.drop i) := by have := rcs_drop l i; simpa [Row.w] using this
@[simp] theorem rds_takeI : (rds l).take i = rds (l.take i) := by have := rds_take l i; simpa [Row.w] using this
@[simp] theorem rcs_takeI : (rcs l).take i = rcs (l.take i) := by have := rcs_take l i; simpa [Row.w] using this
end
def idxL (l : List Ob) : List Int := l.map (·.c)
theorem idxL_len (l : List Ob) : (idxL l).length = l.length := by simp [idxL]
theorem idxL_snoc {l : List Ob} {i : Nat} {o : Ob} (ho : l[i]? = some o) : idxL (l.take (i + 1)) = idxL (l.take i) ++ [o.c] := by
  unfold idxL; rw [List.take_add_one, ho]; simp
def poL (s : Ca) (k w : Int) : List Int := if owF s k = 0 then idxL (podsL s.obs k w) else []
set_option maxRecDepth 100000 in
theorem c_PodsOf0 (s : Ca) (k w : Int) (h1 : s.obs.length ≤ 1048576) (h : ¬ owF s k = 0) : FCall Try.prog 16 [s.av, kav k w] fun r H => r = .agg [ic (owF s k), .d .nil] ∧ H = [] := by
  refine fcall_gather [] id fun clk => acall_of_aw Try.func16 rfl ?_
  simp
  refine acall_val (c_ownerFault s k w h1) (by simp) (by simp) ?_
  simp [h]
set_option maxRecDepth 100000 in
theorem c_PodsOf1 (s : Ca) (k w : Int) (h1 : s.obs.length ≤ 1048576) (h : owF s k = 0) : FCall Try.prog 16 [s.av, kav k w] fun r H => ∃ g, r = .agg [ic 0, .own 0 g 0 (idxL (podsL s.obs k w)).length] ∧ H = [some ⟨g, 2, 1, rcs (idxL (podsL s.obs k w))⟩] := by
  refine fcall_gather [3] (fun j => j - 3) fun clk => acall_of_aw Try.func16 rfl ?_
  simp
  refine acall_val (c_ownerFault s k w h1) (by simp) (by simp) ?_
  have hl60 := (caFault_obs (owF_zero h)).len
  have hlen := podsL_len s.obs k w
  simp [h]
  refine codeOk_drawA mixed (by kernel_rfl) ?_
  simp
  refine qcall_data (d_isPodOf k w) rfl rfl ?_
  simp
  refine q_podsP s.obs k w hl60 ?_
  obtain ⟨L, hL⟩ : ∃ L, L = podsL s.obs k w := ⟨_, rfl⟩
  rw [← hL] at hlen ⊢
  simp
  refine codeOk_loop [false, false, false, false, true, false, true, false, false, false, false, false, false, false, false, false, false, false, false, false, false, true, true, true] 4 (fun z => ∃ (i c g : Nat), i ≤ L.length ∧ z = ⟨[unknown, unknown, unknown, unknown, .one (.ptr 2 (clk + 2) 0), unknown, .one (.own 3 g 0 (idxL (L.take i)).length), unknown, unknown, unknown, unknown, unknown, unknown, unknown, unknown, unknown, unknown, unknown, unknown, unknown, unknown, rlist L, iv .i64 L.length, iv .i64 i] ++ List.replicate 11 unknown, [some ⟨clk, 26, 2, [ic s.rev, .d (.list s.obs.length (rds s.obs))]⟩, some ⟨clk + 1, 38, 2, [ic k, ic w]⟩, some ⟨clk + 2, 45, 2, [ic 0, .d .nil]⟩, some ⟨g, 2, 1, rcs (idxL (L.take i))⟩], c⟩)
    (fun z => match z.tmps.getD 23 unknown with | .one (.d (.s (.int _ i))) => L.length - i.toNat | _ => 0) ?_ ?_
  · simp
    exact ⟨0, by omega, by simp [idxL]⟩
  · rintro z ⟨i, c0, g, hi, rfl⟩
    by_cases hlt : i < L.length
    · have hw := wrap_succ (i := i) (by omega)
      obtain ⟨o, t, hd, ho, _, htk⟩ := drop_at L hlt
      have hsn := idxL_snoc ho
      have hfl : (idxL (L.take i)).length ≤ i := by rw [idxL_len, List.length_take]; omega
      obtain ⟨M, hM⟩ : ∃ M, M = idxL (L.take i) := ⟨_, rfl⟩
      rw [← hM] at hsn hfl ⊢
      have hm : M.length + 1 ≤ maxLen := by show M.length + 1 ≤ 9223372036854775807; omega
      have he : rcs (M ++ [o.c]) = rcs M ++ [ic o.c] := by rw [← rcs_append, rcs_cons, rcs_nil, List.append_nil]; rfl
      simp [hlt, hd, hw]
      exact ⟨⟨by omega, hm⟩, ⟨i + 1, by omega, _, _, ⟨⟨rfl, by rw [hsn]; simp⟩, by omega⟩, ⟨rfl, by rw [hsn, he]⟩, rfl⟩, by omega⟩
    · have e : i = L.length := by omega
      subst e
      simp
set_option maxRecDepth 100000 in
theorem c_sPodsOf0 (s : Ca) (k w : Int) (h : ¬ owF s k = 0) : FCall Try.prog 17 [s.av, kav k w] fun r H => r = .agg [ic (owF s k), .d .nil] ∧ H = [] := by
  refine fcall_gather [] id fun clk => acall_of_aw Try.func17 rfl ?_
  simp
  refine acall_val (c_sCacheFault s) (by simp) (by simp) ?_
  unfold owF at h ⊢
  by_cases h0 : caFault s = 0
  · simp [h0] at h ⊢
    refine acall_val (c_l6Owner k w) (by simp) (by simp) ?_
    simp [h]
  · simp [h0]
set_option maxRecDepth 100000 in
theorem c_sPodsOf1 (s : Ca) (k w : Int) (h : owF s k = 0) : FCall Try.prog 17 [s.av, kav k w] fun r H => (idxL (podsL s.obs k w) = [] ∧ r = .agg [ic 0, .d .nil] ∧ H = []) ∨ (idxL (podsL s.obs k w) ≠ [] ∧ ∃ g, r = .agg [ic 0, .own 0 g 0 (idxL (podsL s.obs k w)).length] ∧ H = [some ⟨g, 2, 1, rcs (idxL (podsL s.obs k w))⟩]) := by
  refine fcall_gatherE fun clk => acall_of_aw Try.func17 rfl ?_
  simp
  refine acall_val (c_sCacheFault s) (by simp) (by simp) ?_
  have h0 := owF_zero h
  have hk : k = 1 ∨ k = 2 := by
    unfold owF at h
    rw [if_pos h0] at h
    split at h
    · rename_i g; exact g
    · omega
  have hl60 := (caFault_obs h0).len
  have hlen := podsL_len s.obs k w
  simp [h0]
  refine acall_val (c_l6Owner k w) (by simp) (by simp) ?_
  simp [hk]
  refine a_l6Pods s.obs k w (by omega) ?_
  obtain ⟨L, hL⟩ : ∃ L, L = podsL s.obs k w := ⟨_, rfl⟩
  rw [← hL] at hlen ⊢
  simp
  obtain ⟨b0, hb0⟩ : ∃ b, b = some (⟨clk, 26, 2, [ic s.rev, .d (.list s.obs.length (rds s.obs))]⟩ : ABlk) := ⟨_, rfl⟩
  obtain ⟨b1, hb1⟩ : ∃ b, b = some (⟨clk + 1, 38, 2, [ic k, ic w]⟩ : ABlk) := ⟨_, rfl⟩
  refine codeOk_loopW [false, false, false, false, true, false, true, true, true] (fun z => ∃ (i c : Nat) (A : AC) (H' : AHeap), i ≤ L.length ∧
      z = ⟨[unknown, unknown, unknown, unknown, .one (.ptr 2 (clk + 2) 0), unknown, .one (.ptr 3 (clk + 3) 0), rlist L, iv .i64 i] ++ List.replicate 32 unknown,
        some ⟨clk, 26, 2, [ic s.rev, .d (.list s.obs.length (rds s.obs))]⟩ :: some ⟨clk + 1, 38, 2, [ic k, ic w]⟩ :: some ⟨clk + 2, 45, 2, [ic 0, .d .nil]⟩ :: some ⟨clk + 3, 45, 2, [ic 0, A]⟩ :: H', c⟩ ∧
      ((i = 0 ∧ A = .d .nil ∧ H' = []) ∨ (0 < i ∧ ∃ g, A = .own 5 g 0 i ∧ H' = [none, some ⟨g, 2, 1, rcs (idxL (L.take i))⟩])))
    (fun z => match z.tmps.getD 8 unknown with | .one (.d (.s (.int _ i))) => L.length - i.toNat | _ => 0) ?_ ?_
  · refine ⟨[some ⟨clk, 26, 2, [ic s.rev, .d (.list s.obs.length (rds s.obs))]⟩, some ⟨clk + 1, 38, 2, [ic k, ic w]⟩, some ⟨clk + 2, 45, 2, [ic 0, .d .nil]⟩, some ⟨clk + 3, 45, 2, [ic 0, .d .nil]⟩], by simp, ?_⟩
    exact ⟨0, _, .d .nil, [], Nat.zero_le _, rfl, .inl ⟨rfl, rfl, rfl⟩⟩
  · rintro z ⟨i, c, A, H', hi, rfl, hH⟩
    by_cases hlt : i < L.length
    · have hw := wrap_succ (i := i) (by omega)
      obtain ⟨o, t, hd, ho, _, htk⟩ := drop_at L hlt
      have hsn := idxL_snoc ho
      have hM : (idxL (L.take i)).length = i := by rw [idxL_len, List.length_take]; omega
      have hMt : (idxL (L.take i)).take i = idxL (L.take i) := List.take_of_length_le (by omega)
      have hm : i + 1 ≤ maxLen := by show i + 1 ≤ 9223372036854775807; omega
      have he : rcs (idxL (L.take i) ++ [o.c]) = rcs (idxL (L.take i)) ++ [ic o.c] := by rw [← rcs_append, rcs_cons, rcs_nil, List.append_nil]; rfl
      rcases hH with ⟨hi0, rfl, rfl⟩ | ⟨h0, g, rfl, rfl⟩
      · have hz : idxL (L.take i) = [] := by rw [hi0]; rfl
        rw [hz] at hsn
        simp [hlt, hd]
        refine codeOk_drawA mixed (by kernel_rfl) ?_
        simp [hlt, hd, hw]
        have hm1 : (1 : Nat) ≤ maxLen := by decide
        refine ⟨hm1, [some ⟨clk, 26, 2, [ic s.rev, .d (.list s.obs.length (rds s.obs))]⟩, some ⟨clk + 1, 38, 2, [ic k, ic w]⟩, some ⟨clk + 2, 45, 2, [ic 0, .d .nil]⟩, some ⟨clk + 3, 45, 2, [ic 0, .own 5 (c + 1 + 1) 0 1]⟩, none, some ⟨c + 1 + 1, 2, 1, rcs (idxL (L.take (i + 1)))⟩], ?_, ⟨i + 1, by omega, _, _, _, ⟨by omega, rfl, rfl⟩, .inr ⟨by omega, _, by rw [hi0], rfl⟩⟩, by omega⟩
        rw [hsn]
        simp only [WkH_cons]
        refine ⟨WkB_refl _, WkB_refl _, WkB_refl _, WkB_refl _, ?_, WkB_refl _, WkH_nil _⟩
        trivial
      · simp [hlt, hd]
        refine codeOk_drawA mixed (by kernel_rfl) ?_
        simp [hlt, hd, hM, hw, hMt]
        refine ⟨⟨by omega, hm⟩, [some ⟨clk, 26, 2, [ic s.rev, .d (.list s.obs.length (rds s.obs))]⟩, some ⟨clk + 1, 38, 2, [ic k, ic w]⟩, some ⟨clk + 2, 45, 2, [ic 0, .d .nil]⟩, some ⟨clk + 3, 45, 2, [ic 0, .own 5 (c + 1) 0 (i + 1)]⟩, none, some ⟨c + 1, 2, 1, rcs (idxL (L.take (i + 1)))⟩], ?_, ⟨i + 1, by omega, _, _, _, ⟨by omega, rfl, rfl⟩, .inr ⟨by omega, _, rfl, rfl⟩⟩, by omega⟩
        rw [hsn, he]
        simp
    · have e : i = L.length := by omega
      rcases hH with ⟨h0, rfl, rfl⟩ | ⟨h0, g, rfl, rfl⟩
      · have hz : idxL L = [] := by
          apply List.eq_nil_of_length_eq_zero
          rw [idxL_len]; omega
        simp [hlt]
        refine ⟨[], id, ?_⟩
        simp [hz]
      · rw [e, List.take_length]
        have hne : ¬ idxL L = [] := fun hh => by
          have := congrArg List.length hh
          rw [idxL_len, List.length_nil] at this; omega
        have hll := idxL_len L
        simp
        refine ⟨[5], fun j => j - 5, ?_⟩
        simp [hne, hll]
end Go.Proofs.Ytiogdfliailenaa
