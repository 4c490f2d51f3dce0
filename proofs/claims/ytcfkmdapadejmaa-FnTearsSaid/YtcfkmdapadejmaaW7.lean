/-
  Numbers in bytes: what the program lays.
-/
import Derived.Test.YtcfkmdapadejmaaW2
import Derived.Test.YtcfkmdapadejmaaW4
namespace Go.Proofs.Ytcfkmdapadejmaa
set_option maxRecDepth 100000
set_option linter.unusedSimpArgs false
set_option linter.unusedVariables false
set_option linter.unnecessarySimpa false
open Go Go.Abs Go.Proofs

theorem top_word (k : Nat) (h1 : 1 ≤ k) (h2 : k ≤ 6) : 0 ≤ IntKind.i64.wrap (8 * (k : Int)) ∧
    IntKind.i64.wrap (IntKind.i64.wrap (2 ^ min (IntKind.i64.wrap (8 * (k : Int))).toNat IntKind.i64.bits) - 1) = ((256 ^ k : Nat) : Int) - 1 := by
  have : k = 1 ∨ k = 2 ∨ k = 3 ∨ k = 4 ∨ k = 5 ∨ k = 6 := by omega
  rcases this with rfl | rfl | rfl | rfl | rfl | rfl <;> decide

theorem shr_8 (q : Nat) : ((q : Int)).fdiv (2 ^ min 8 IntKind.i64.bits) = ((q / 256 : Nat) : Int) := by
  have e : (2 : Int) ^ min 8 IntKind.i64.bits = 256 := rfl
  rw [e, Int.fdiv_eq_ediv_of_nonneg _ (by omega)]; omega
theorem and_255 (q : Nat) (hq : q ≤ 9223372036854775807) : IntKind.u8.wrap (IntKind.i64.wrap (((q % 2 ^ IntKind.i64.bits &&& 255 % 2 ^ IntKind.i64.bits : Nat)) : Int)) = ((UInt8.ofNat (q % 256)).toNat : Int) := by
  have h1 : q % 2 ^ IntKind.i64.bits = q := Nat.mod_eq_of_lt (Nat.lt_of_le_of_lt hq (by decide))
  have h2 : 255 % 2 ^ IntKind.i64.bits = 255 := by decide
  have h3 : q &&& 255 = q % 256 := Nat.and_two_pow_sub_one_eq_mod q 8
  rw [h1, h2, h3, wrap_i64 (by omega) (by omega), wrap_u8, UInt8.toNat_ofNat']
  omega

theorem c_PackWord (n size : Int) (hn : n ≤ 9223372036854775807) : FCall Try.prog 36 [iv .i64 n, iv .i64 size] (PackPost (packCode n size) (be n.toNat size.toNat)) := by
  by_cases hs : 1 ≤ size ∧ size ≤ 6
  · have h1a := hs.1
    have h1b := hs.2
    obtain ⟨k, rfl⟩ : ∃ k : Nat, size = k := ⟨size.toNat, by omega⟩
    obtain ⟨ht0, ht1⟩ := top_word k (by omega) (by omega)
    obtain ⟨M, hM⟩ : ∃ M, M = 256 ^ k := ⟨_, rfl⟩
    rw [← hM] at ht1
    by_cases h0 : 0 ≤ n ∧ n.toNat < M
    · obtain ⟨m, rfl⟩ : ∃ m : Nat, n = m := ⟨n.toNat, by omega⟩
      have hpc : packCode m k = 0 := by unfold packCode; rw [if_pos ⟨hs.1, hs.2, h0.1, by simpa [← hM] using h0.2⟩]
      have hall : OkAll [⟨m, 0, (M : Int) - 1⟩] = true := by simp [OkAll, Sp.ok]; omega
      refine fcall_gather [2] (fun j => j - 2) fun clk => acall_of_aw Try.func36 rfl ?_
      simp
      refine acall_pure (c_isWordSize k) (by simp) ?_
      rintro r Hn c ⟨rfl, rfl⟩ _
      simp [h1a, h1b, ht0, ht1]
      refine acall_pure (c_inBounds [⟨m, 0, (M : Int) - 1⟩] (by simp)) (by simp [sps, AC.dc?]) ?_
      rintro r Hn c_gosemcutinit ⟨rfl, rfl⟩ _
      have hw1 : IntKind.i64.wrap ((k : Int) - 1) = (k : Int) - 1 := wrap_i64 (by omega) (by omega)
      simp [hall, hw1]
      refine ⟨by omega, ?_⟩
      refine codeOk_loop [true, true, false, false, true, true, true] 3 (fun s => ∃ (q j g c_FnWords : Nat) (t : List UInt8), q ≤ 9223372036854775807 ∧ j + t.length = k ∧ be m k = be q j ++ t ∧
          s = ⟨[iv .i64 q, iv .i64 k, unknown, unknown, .one (.ptr 0 clk 0), .one (.own 2 g 0 k), iv .i64 ((j : Int) - 1)] ++ List.replicate 33 unknown,
            [some ⟨clk, 24, 2, [.d (.s (.int .i64 0)), .d .nil]⟩, some ⟨c, 56, 3, [.d (.s (.int .i64 m)), .d (.s (.int .i64 0)), .d (.s (.int .i64 ((M : Int) - 1)))]⟩, some ⟨g, 5, 1, bcs (List.replicate j 0 ++ t)⟩], c_FnWords⟩)
        (fun s => match s.tmps.getD 6 unknown with | .one (.d (.s (.int _ i))) => (i + 1).toNat | _ => 0) ?_ ?_
      · simp
        exact ⟨m, by omega, k, c_gosemcutinit, c_gosemcutinit + 1, [], rfl, by simp, ⟨rfl, rfl, rfl⟩, ⟨rfl, by simp⟩, rfl⟩
      · rintro s ⟨q, j, g, c_FnWords, t, hq, hj, hbe, rfl⟩
        match j with
        | 0 =>
          simp
          have e : be m k = t := hbe
          rw [hpc, ← e]
          exact .inr ⟨rfl, g, by rw [be_length], rfl⟩
        | j + 1 =>
          have h1 : (((j + 1 : Nat) : Int) - 1) = (j : Int) := by omega
          have h2 : IntKind.i64.wrap ((j : Int) - 1) = (j : Int) - 1 := wrap_i64 (by omega) (by omega)
          rw [h1]
          have h3 := shr_8 q
          have h4 := and_255 q hq
          simp [h2]
          refine ⟨by omega, q / 256, by omega, j, g, c_FnWords, UInt8.ofNat (q % 256) :: t, by simp; omega, ?_, ⟨h3, rfl, rfl⟩, ⟨rfl, ?_⟩, rfl⟩
          · rw [hbe]; simp [be]
          · rw [h4, bcs_set, zeros_set]
    · have hpc : packCode n k = 3 := by unfold packCode; rw [if_neg (fun h => h0 ⟨h.2.2.1, by rw [hM]; exact h.2.2.2⟩)]
      have hall : OkAll [⟨n, 0, (M : Int) - 1⟩] = false := by simp [OkAll, Sp.ok]; omega
      refine fcall_gather [] id fun clk => acall_of_aw Try.func36 rfl ?_
      simp
      refine acall_pure (c_isWordSize k) (by simp) ?_
      rintro r Hn c ⟨rfl, rfl⟩ _
      simp [h1a, h1b, ht0, ht1]
      refine acall_pure (c_inBounds [⟨n, 0, (M : Int) - 1⟩] (by simp)) (by simp [sps, AC.dc?]) ?_
      rintro r Hn c_gosemcutinit ⟨rfl, rfl⟩ _
      simp [hall, hpc]
      exact .inl ⟨by omega, rfl, rfl⟩
  · have hc : packCode n size = 3 := by unfold packCode; rw [if_neg (fun h => hs ⟨h.1, h.2.1⟩)]
    rw [hc]
    refine fcall_gather [] id fun clk => acall_of_aw Try.func36 rfl ?_
    simp
    refine acall_pure (c_isWordSize size) (by simp) ?_
    rintro r Hn c ⟨rfl, rfl⟩ _
    have hb : (decide (1 ≤ size) && decide (size ≤ 6)) = false := by simp; omega
    simp [hb]
    exact .inl ⟨by omega, rfl, rfl⟩
end Go.Proofs.Ytcfkmdapadejmaa
