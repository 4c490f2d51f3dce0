/-
  Numbers in bytes: what the program and the model lay.
-/
import Derived.Test.YtaeakfbpioakmaaW1
namespace Go.Proofs.Ytaeakfbpioakmaa
open Go Go.Abs Go.Proofs

/-- A number in k bytes, the highest one first. -/
def be : Nat → Nat → List UInt8
  | _, 0 => []
  | n, k + 1 => be (n / 256) k ++ [UInt8.ofNat (n % 256)]
theorem be_length (n k : Nat) : (be n k).length = k := by
  induction k generalizing n with
  | zero => rfl
  | succ k ih => simp [be, ih]

theorem zeros_set (k : Nat) (t : List UInt8) (b : UInt8) : (List.replicate (k + 1) 0 ++ t).set k b = List.replicate k 0 ++ (b :: t) := by
  rw [List.replicate_succ', List.append_assoc, List.set_append_right _ _ (by simp)]
  simp

theorem quo_256 (n : Nat) (h : n ≤ 9223372036854775807) : IntKind.i64.wrap ((n : Int) / 256) = ((n / 256 : Nat) : Int) := by
  have : (n : Int) / 256 = ((n / 256 : Nat) : Int) := by omega
  rw [this, wrap_i64 (by omega) (by omega)]
theorem byte_256 (n : Nat) : ((UInt8.ofNat (n % 256)).toNat : Int) = (n : Int) % 256 := by rw [UInt8.toNat_ofNat']; omega
theorem wrap8_256 (n : Nat) : IntKind.u8.wrap ((n : Int) % 256) = (n : Int) % 256 := by rw [wrap_u8]; omega

theorem c56 (n k : Nat) (hn : n ≤ 9223372036854775807) (hk : k ≤ 1048576) : FCall Try.prog 56 [iv .i64 n, iv .i64 k] fun r H => ∃ g, r = .one (.own 0 g 0 k) ∧ H = [some ⟨g, 5, 1, bcs (be n k)⟩] := by
  intro clk
  refine acall_of_aw Try.func56 rfl ?_
  have hw : IntKind.i64.wrap ((k : Int) - 1) = (k : Int) - 1 := wrap_i64 (by omega) (by omega)
  simp [hw]
  refine ⟨⟨by omega, by omega⟩, ?_⟩
  refine codeOk_loop [true, true, false, false, false, true, true] 1 (fun s => ∃ (m j g c : Nat) (t : List UInt8), m ≤ 9223372036854775807 ∧ j + t.length = k ∧ be n k = be m j ++ t ∧
      s = ⟨[iv .i64 m, iv .i64 k, unknown, unknown, unknown, .one (.own 0 g 0 k), iv .i64 ((j : Int) - 1)] ++ List.replicate 17 unknown, [some ⟨g, 5, 1, bcs (List.replicate j 0 ++ t)⟩], c⟩)
    (fun s => match s.tmps.getD 6 unknown with | .one (.d (.s (.int _ i))) => (i + 1).toNat | _ => 0) ?_ ?_
  · simp
    exact ⟨n, hn, k, clk, clk + 1, [], by simp, by simp, ⟨rfl, rfl, rfl⟩, ⟨rfl, by simp⟩, rfl⟩
  · rintro s ⟨m, j, g, c, t, hm, hj, hbe, rfl⟩
    match j with
    | 0 =>
      simp
      rw [hbe]; rfl
    | j + 1 =>
      have h1 : (((j + 1 : Nat) : Int) - 1) = (j : Int) := by omega
      have h2 : IntKind.i64.wrap ((j : Int) - 1) = (j : Int) - 1 := wrap_i64 (by omega) (by omega)
      have h4 := quo_256 m hm
      rw [h1]
      simp [h2, wrap8_256, h4]
      refine ⟨by omega, m / 256, by omega, j, g, c, UInt8.ofNat (m % 256) :: t, by simp; omega, ?_, ⟨by omega, rfl, rfl⟩, ⟨rfl, ?_⟩, rfl⟩
      · rw [hbe]; simp [be]
      · have h5 : IntKind.u8.wrap ((m : Int).tmod 256) = ((UInt8.ofNat (m % 256)).toNat : Int) := by rw [Int.tmod_eq_emod_of_nonneg (by omega), wrap8_256, byte_256]
        rw [h5, bcs_set, zeros_set]


/-- What PackWord tells: a code, and the bytes. -/
def packCode (n size : Int) : Int := if 1 ≤ size ∧ size ≤ 6 ∧ 0 ≤ n ∧ n.toNat < 256 ^ size.toNat then 0 else 3

def PackPost (x : Int) (bs : List UInt8) (r : AV) (H : AHeap) : Prop :=
  (x ≠ 0 ∧ r = .agg [.d (.s (.int .i64 x)), .d .nil] ∧ H = []) ∨ (x = 0 ∧ ∃ g, r = .agg [.d (.s (.int .i64 0)), .own 0 g 0 bs.length] ∧ H = [some ⟨g, 5, 1, bcs bs⟩])

def IsDiv (q m i : Nat) : Prop := q = m / 256 ^ i
theorem pow_step (n i : Nat) : n / 256 ^ i / 256 = n / 256 ^ (i + 1) := by rw [Nat.div_div_eq_div_mul, Nat.pow_succ]
theorem div_zero_iff (n k : Nat) : n / 256 ^ k = 0 ↔ n < 256 ^ k := Nat.div_eq_zero_iff_lt (Nat.pow_pos (by omega))

theorem c19 (n size : Int) (hn : n ≤ 9223372036854775807) : FCall Try.prog 19 [iv .i64 n, iv .i64 size] (PackPost (packCode n size) (be n.toNat size.toNat)) := by
  by_cases hs : 1 ≤ size ∧ size ≤ 6
  · by_cases h0 : 0 ≤ n
    · obtain ⟨m, rfl⟩ : ∃ m : Nat, n = m := ⟨n.toNat, by omega⟩
      obtain ⟨k, rfl⟩ : ∃ k : Nat, size = k := ⟨size.toNat, by omega⟩
      have hk1 : 1 ≤ k := by omega
      have hk2 : k ≤ 6 := by omega
      have hk1' : (1 : Int) ≤ (k : Int) := hs.1
      have hk2' : (k : Int) ≤ 6 := hs.2
      have hm' : ¬ ((m : Int) < 0) := by omega
      have key : ∀ (σ : List Nat) (τ : Nat → Nat), ((m < 256 ^ k ∧ σ = [1] ∧ τ = fun j => j - 1) ∨ (¬ m < 256 ^ k ∧ σ = [] ∧ τ = id)) → FCall Try.prog 19 [iv .i64 m, iv .i64 k] (PackPost (packCode m k) (be m k)) := by
        intro σ τ hστ
        refine fcall_gather σ τ fun clk => acall_of_aw Try.func19 rfl ?_
        simp
        refine acall_pure (c55 k 1 6) (by simp) ?_
        rintro r Hn c ⟨rfl, rfl⟩ _
        simp [hk1', hk2', hm']
        refine codeOk_loop [true, true, false, false, true, true, true] 1 (fun s => ∃ (i c q : Nat), i ≤ k ∧ IsDiv q m i ∧
            s = ⟨[iv .i64 m, iv .i64 k, unknown, unknown, .one (.ptr 0 clk 0), iv .i64 q, iv .i64 i] ++ List.replicate 23 unknown, [some ⟨clk, 27, 2, [.d (.s (.int .i64 0)), .d .nil]⟩], c⟩)
          (fun s => match s.tmps.getD 6 unknown with | .one (.d (.s (.int _ i))) => k - i.toNat | _ => 0) ?_ ?_
        · simp
          exact ⟨0, Nat.zero_le _, _, m, by simp [IsDiv], ⟨rfl, rfl⟩, rfl⟩
        · rintro s ⟨i, c, q, hi, hq, rfl⟩
          by_cases hlt : i < k
          · have hqn : q ≤ 9223372036854775807 := by unfold IsDiv at hq; rw [hq]; exact Nat.le_trans (Nat.div_le_self _ _) (by omega)
            have h1 := quo_256 q hqn
            have h2 := wrap_succ (i := i) (by omega)
            obtain ⟨q', hq'⟩ : ∃ q', q' = q / 256 := ⟨_, rfl⟩
            rw [← hq'] at h1
            simp [hlt, h1, h2]
            exact ⟨⟨i + 1, by omega, _, q', by unfold IsDiv at hq ⊢; rw [hq', hq, pow_step], ⟨by first | rfl | exact h1, by omega⟩, rfl⟩, by omega⟩
          · have e : i = k := by omega
            subst e
            by_cases hz : q = 0
            · have hlt2 : m < 256 ^ i := (div_zero_iff m i).1 (by unfold IsDiv at hq; rw [← hq, hz])
              rcases hστ with ⟨_, rfl, rfl⟩ | ⟨h, _⟩
              · have hpc : packCode m i = 0 := by unfold packCode; rw [if_pos ⟨hs.1, hs.2, h0, hlt2⟩]
                simp [hz]
                refine acall_pure (c56 m i (by omega) (by omega)) (by simp) ?_
                rintro r Hn c ⟨g, rfl, rfl⟩ _
                simp [hpc]
                exact .inr ⟨rfl, g, by simp [be_length], rfl⟩
              · exact absurd hlt2 h
            · have hge : ¬ m < 256 ^ i := fun h => hz (by unfold IsDiv at hq; rw [hq]; exact (div_zero_iff m i).2 h)
              rcases hστ with ⟨h, _⟩ | ⟨_, rfl, rfl⟩
              · exact absurd h hge
              · have hpc : packCode m i = 3 := by unfold packCode; rw [if_neg (fun h => hge h.2.2.2)]
                simp [hz, hpc]
                exact .inl ⟨by omega, rfl, rfl⟩
      simpa using (Classical.em (m < 256 ^ k)).elim (fun h => key [1] (fun j => j - 1) (.inl ⟨h, rfl, rfl⟩)) (fun h => key [] id (.inr ⟨h, rfl, rfl⟩))
    · refine fcall_gather [] id fun clk => acall_of_aw Try.func19 rfl ?_
      simp
      refine acall_pure (c55 size 1 6) (by simp) ?_
      rintro r Hn c ⟨rfl, rfl⟩ _
      have hneg : n < 0 := by omega
      simp [hs.1, hs.2, hneg, packCode, h0]
      exact .inl ⟨by omega, rfl, rfl⟩
  · have hc : packCode n size = 3 := by unfold packCode; rw [if_neg (fun h => hs ⟨h.1, h.2.1⟩)]
    rw [hc]
    refine fcall_gather [] id fun clk => acall_of_aw Try.func19 rfl ?_
    simp
    refine acall_pure (c55 size 1 6) (by simp) ?_
    rintro r Hn c ⟨rfl, rfl⟩ _
    have hb : (decide (1 ≤ size) && decide (size ≤ 6)) = false := by simp; omega
    simp [hb]
    exact .inl ⟨by omega, rfl, rfl⟩
end Go.Proofs.Ytaeakfbpioakmaa
