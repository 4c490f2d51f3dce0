/-
  Sums: what the program and the model add up.
-/
import Derived.Test.YtcfkmdapadejmaaW4
import Derived.Test.YtcfkmdapadejmaaW5
namespace Go.Proofs.Ytcfkmdapadejmaa
set_option maxRecDepth 100000
set_option linter.unusedSimpArgs false
set_option linter.unusedVariables false
set_option linter.unnecessarySimpa false
open Go Go.Abs Go.Proofs

def cstep (n : Nat) : Nat := if 32768 ≤ n then (2 * n - 65536) ^^^ 4129 else 2 * n
theorem cstep_lt {n : Nat} (h : n < 65536) : cstep n < 65536 := by
  unfold cstep
  split
  · exact Nat.xor_lt_two_pow (n := 16) (by omega) (by omega)
  · omega
def cbits : Nat → Nat → Nat
  | 0, n => n
  | i + 1, n => cstep (cbits i n)
theorem cbits_lt {n : Nat} (h : n < 65536) (i : Nat) : cbits i n < 65536 := by
  induction i with
  | zero => exact h
  | succ i ih => exact cstep_lt ih
def cbyte (s : Nat) (b : UInt8) : Nat := cbits 8 (s ^^^ b.toNat * 256)
theorem cbyte_lt {s : Nat} (h : s < 65536) (b : UInt8) : cbyte s b < 65536 :=
  cbits_lt (Nat.xor_lt_two_pow (n := 16) (by omega) (by have := b.toNat_lt; omega)) 8
def crc (bs : List UInt8) : Nat := bs.foldl cbyte 65535
theorem crc_snoc (bs : List UInt8) (b : UInt8) : crc (bs ++ [b]) = cbyte (crc bs) b := by simp [crc]
theorem crc_lt (bs : List UInt8) : crc bs < 65536 := by
  suffices ∀ r : List UInt8, crc r.reverse < 65536 by simpa using this bs.reverse
  intro r
  induction r with
  | nil => simp [crc]
  | cons b r ih => rw [List.reverse_cons, crc_snoc]; exact cbyte_lt ih b

def IsC (n n0 i : Nat) : Prop := n = cbits i n0

theorem shl_1 {n : Nat} (hn : n < 65536) : IntKind.i64.wrap ((n : Int) * 2 ^ min 1 IntKind.i64.bits) = ((2 * n : Nat) : Int) := by
  have e : (n : Int) * 2 ^ min 1 IntKind.i64.bits = n * 2 := rfl
  rw [e, wrap_i64 (by omega) (by omega)]; omega
theorem mul_2 {n : Nat} (hn : n < 65536) : IntKind.i64.wrap (2 * (n : Int)) = ((2 * n : Nat) : Int) := by
  rw [wrap_i64 (by omega) (by omega)]; omega
theorem xor_small {a b : Nat} (ha : a < 65536) (hb : b < 65536) : IntKind.i64.wrap ((((((a : Nat) : Int) % 2 ^ IntKind.i64.bits).toNat ^^^ b % 2 ^ IntKind.i64.bits : Nat)) : Int) = ((a ^^^ b : Nat) : Int) := by
  have h1 : (((a : Nat) : Int) % 2 ^ IntKind.i64.bits).toNat = a := by
    have : (2 : Int) ^ IntKind.i64.bits = 18446744073709551616 := by decide
    rw [this]; omega
  have h2 : b % 2 ^ IntKind.i64.bits = b := Nat.mod_eq_of_lt (Nat.lt_trans hb (by decide))
  have h3 : a ^^^ b < 65536 := Nat.xor_lt_two_pow (n := 16) (by omega) (by omega)
  rw [h1, h2, wrap_i64 (by omega) (by omega)]
theorem xor_small' {a b : Nat} (ha : a < 65536) (hb : b < 65536) : IntKind.i64.wrap (((a % 2 ^ IntKind.i64.bits ^^^ (((b : Nat) : Int) % 2 ^ IntKind.i64.bits).toNat : Nat)) : Int) = ((a ^^^ b : Nat) : Int) := by
  rw [Nat.xor_comm, xor_small hb ha, Nat.xor_comm]
theorem xor_shl {n b : Nat} (hn : n < 65536) (hb : b < 256) : IntKind.i64.wrap (((n % 2 ^ IntKind.i64.bits ^^^ (IntKind.i64.wrap ((b : Int) * 2 ^ min 8 IntKind.i64.bits) % 2 ^ IntKind.i64.bits).toNat : Nat)) : Int) = ((n ^^^ b * 256 : Nat) : Int) := by
  have e : IntKind.i64.wrap ((b : Int) * 2 ^ min 8 IntKind.i64.bits) = ((b * 256 : Nat) : Int) := by
    have e : (b : Int) * 2 ^ min 8 IntKind.i64.bits = b * 256 := rfl
    rw [e, wrap_i64 (by omega) (by omega)]; omega
  rw [e, xor_small' hn (by omega)]
theorem xor_mul {n b : Nat} (hn : n < 65536) (hb : b < 256) : IntKind.i64.wrap (((n % 2 ^ IntKind.i64.bits ^^^ (IntKind.i64.wrap (256 * (b : Int)) % 2 ^ IntKind.i64.bits).toNat : Nat)) : Int) = ((n ^^^ b * 256 : Nat) : Int) := by
  have e : IntKind.i64.wrap (256 * (b : Int)) = ((b * 256 : Nat) : Int) := by
    rw [wrap_i64 (by omega) (by omega)]; omega
  rw [e, xor_small' hn (by omega)]
theorem cstep_hi {n : Nat} (hn : n < 65536) (hb : 32768 ≤ n) : IntKind.i64.wrap (((((IntKind.i64.wrap (((2 * n : Nat) : Int) - 65536)) % 2 ^ IntKind.i64.bits).toNat ^^^ 4129 % 2 ^ IntKind.i64.bits : Nat)) : Int) = ((cstep n : Nat) : Int) := by
  have e : IntKind.i64.wrap (((2 * n : Nat) : Int) - 65536) = ((2 * n - 65536 : Nat) : Int) := by rw [wrap_i64 (by omega) (by omega)]; omega
  rw [e, xor_small (by omega) (by omega)]
  unfold cstep
  rw [if_pos hb]
theorem cstep_lo {n : Nat} (hb : ¬ 32768 ≤ n) : cstep n = 2 * n := if_neg hb
theorem IsC.next {n n0 i : Nat} (h : IsC n n0 i) : IsC (cstep n) n0 (i + 1) := by unfold IsC at *; rw [h]; rfl

theorem c_shiftSum (n0 : Nat) (h0 : n0 < 65536) : FCall Try.prog 45 [iv .i64 n0] fun r H => r = iv .i64 (cbits 8 n0 : Nat) ∧ H = [] := by
  intro clk
  refine acall_of_aw Try.func45 rfl ?_
  simp
  refine codeOk_loop [true, false, false, true] 0 (fun s => ∃ (i n c : Nat), i ≤ 8 ∧ n < 65536 ∧ IsC n n0 i ∧
      s = ⟨[iv .i64 n, unknown, unknown, iv .i64 i] ++ List.replicate 11 unknown, [], c⟩)
    (fun s => match s.tmps.getD 3 unknown with | .one (.d (.s (.int _ i))) => 8 - i.toNat | _ => 0) ?_ ?_
  · simp
    exact ⟨0, by omega, n0, h0, rfl, rfl, rfl⟩
  · rintro s ⟨i, n, c, hi, hn, hc, rfl⟩
    by_cases hlt : i < 8
    · have hw := wrap_succ (i := i) (by omega)
      have hlt' : (i : Int) < 8 := by omega
      have hlt2 : ¬ (8 : Int) ≤ i := by omega
      have h1 := shl_1 hn
      by_cases hb : 32768 ≤ n
      · have hb' : (32768 : Int) ≤ n := by omega
        have h2 := cstep_hi hn hb
        rw [← h1] at h2
        simp [hw, hb', hlt', hlt2]
        exact ⟨⟨i + 1, by omega, _, cstep_lt hn, hc.next, h2, by omega⟩, by omega⟩
      · have hb' : ¬ (32768 : Int) ≤ n := by omega
        have h2 := cstep_lo hb
        simp [hw, hb', hlt', hlt2]
        exact ⟨⟨i + 1, by omega, _, cstep_lt hn, hc.next, by rw [h2]; exact h1, by omega⟩, by omega⟩
    · have e : i = 8 := by omega
      subst e
      simp
      exact hc

def IsCrc (s : Nat) (bs : List UInt8) (i : Nat) : Prop := s = crc (bs.take i)
theorem IsCrc.next {s : Nat} {bs : List UInt8} {i : Nat} (h : IsCrc s bs i) (hi : i < bs.length) : IsCrc (cbyte s bs[i]) bs (i + 1) := by
  unfold IsCrc at *
  rw [List.take_succ_eq_append_getElem hi, crc_snoc, ← h]
theorem IsCrc.lt {s : Nat} {bs : List UInt8} {i : Nat} (h : IsCrc s bs i) : s < 65536 := by unfold IsCrc at h; rw [h]; exact crc_lt _

def SumPost (bs : List UInt8) (r : AV) (H : AHeap) : Prop :=
  ((bs.length ≤ 4000 ∧ r = .agg [.d (.s (.int .i64 0)), .d (.s (.int .i64 (crc bs : Nat)))]) ∨ (¬ bs.length ≤ 4000 ∧ r = .agg [.d (.s (.int .i64 2)), .d (.s (.int .i64 0))])) ∧ H = []

theorem c_SumOf (bs : List UInt8) : FCall Try.prog 37 [blist bs] (SumPost bs) := by
  by_cases hl : bs.length ≤ 4000
  · have hl' : ¬ (4000 : Int) < bs.length := by omega
    refine fcall_gather [] id fun clk => acall_of_aw Try.func37 rfl ?_
    simp [hl']
    refine codeOk_loop [false, false, true, true, false, false, false, false, false, false, true, true, true] 1 (fun s => ∃ (i n c : Nat), i ≤ bs.length ∧ IsCrc n bs i ∧
        s = ⟨[unknown, unknown, .one (.ptr 0 clk 0), iv .i64 n, unknown, unknown, unknown, unknown, unknown, unknown, blist bs, iv .i64 bs.length, iv .i64 i] ++ List.replicate 12 unknown,
          [some ⟨clk, 59, 2, [.d (.s (.int .i64 0)), .d (.s (.int .i64 0))]⟩], c⟩)
      (fun s => match s.tmps.getD 12 unknown with | .one (.d (.s (.int _ i))) => bs.length - i.toNat | _ => 0) ?_ ?_
    · simp
      exact ⟨0, Nat.zero_le _, 65535, rfl, rfl, rfl⟩
    · rintro s ⟨i, n, c, hi, hc, rfl⟩
      by_cases hlt : i < bs.length
      · have hw := wrap_succ (i := i) (by omega)
        have hn := hc.lt
        obtain ⟨b, hbe⟩ : ∃ b, b = bs[i] := ⟨_, rfl⟩
        have hbl := b.toNat_lt
        have h3 : IntKind.i64.wrap (b.toNat : Int) = (b.toNat : Int) := wrap_i64 (by omega) (by omega)
        have hx := xor_shl hn hbl
        have hnx := hc.next hlt
        rw [← hbe] at hnx
        simp [hlt, hw, ← hbe, h3, hx]
        refine acall_pure (c_shiftSum (n ^^^ b.toNat * 256) (Nat.xor_lt_two_pow (n := 16) (by omega) (by omega))) (by simp) ?_
        rintro r Hn c ⟨rfl, rfl⟩ _
        simp [hw]
        exact ⟨⟨i + 1, by omega, _, hnx, rfl, by omega⟩, by omega⟩
      · have e : i = bs.length := by omega
        subst e
        have hce : n = crc bs := by unfold IsCrc at hc; rwa [List.take_length] at hc
        subst hce
        simp [SumPost, hl]
  · have hl' : (4000 : Int) < bs.length := by omega
    refine fcall_gather [] id fun clk => acall_of_aw Try.func37 rfl ?_
    simp [hl', SumPost, hl]

theorem c_l1Sum (bs : List UInt8) (hl : bs.length ≤ 1048576) : FCall Try.prog 42 [blist bs] fun r H => r = iv .i64 (crc bs : Nat) ∧ H = [] := by
  intro clk
  refine acall_of_aw Try.func42 rfl ?_
  simp
  refine codeOk_loop [true, false, false, true, true] 0 (fun s => ∃ (i n c : Nat), i ≤ bs.length ∧ IsCrc n bs i ∧
      s = ⟨[blist bs, unknown, unknown, iv .i64 n, iv .i64 i] ++ List.replicate 28 unknown, [], c⟩)
    (fun s => match s.tmps.getD 4 unknown with | .one (.d (.s (.int _ i))) => bs.length - i.toNat | _ => 0) ?_ ?_
  · simp
    exact ⟨0, Nat.zero_le _, 65535, rfl, rfl, rfl⟩
  · rintro s ⟨i, n, c, hi, hc, rfl⟩
    by_cases hlt : i < bs.length
    · have hw := wrap_succ (i := i) (by omega)
      have hn := hc.lt
      obtain ⟨b, hbe⟩ : ∃ b, b = bs[i] := ⟨_, rfl⟩
      have hbl := b.toNat_lt
      have h3 : IntKind.i64.wrap (b.toNat : Int) = (b.toNat : Int) := wrap_i64 (by omega) (by omega)
      have hx := xor_mul hn hbl
      have hnx := hc.next hlt
      rw [← hbe] at hnx
      have hn2 : n ^^^ b.toNat * 256 < 65536 := Nat.xor_lt_two_pow (n := 16) (by omega) (by omega)
      obtain ⟨n2, hn2e⟩ : ∃ n2, n2 = n ^^^ b.toNat * 256 := ⟨_, rfl⟩
      rw [← hn2e] at hn2 hx
      simp [hlt, hw, ← hbe, h3, hx]
      refine codeOk_loop [true, false, false, true, true, true] 0 (fun s => ∃ (k q c : Nat), k ≤ 8 ∧ q < 65536 ∧ IsC q n2 k ∧
          s = ⟨[blist bs, unknown, unknown, iv .i64 q, iv .i64 i, iv .i64 k] ++ List.replicate 27 unknown, [], c⟩)
        (fun s => match s.tmps.getD 5 unknown with | .one (.d (.s (.int _ i))) => 8 - i.toNat | _ => 0) ?_ ?_
      · simp
        exact ⟨0, by omega, n2, hn2, rfl, rfl, rfl⟩
      · rintro s ⟨k, q, c, hk, hq, hqc, rfl⟩
        by_cases hlt : k < 8
        · have hw2 := wrap_succ (i := k) (by omega)
          have hlt' : (k : Int) < 8 := by omega
          have hlt2 : ¬ (8 : Int) ≤ k := by omega
          have h1 := mul_2 hq
          by_cases hb : 32768 ≤ q
          · have hb' : (32768 : Int) ≤ q := by omega
            have h2 := cstep_hi hq hb
            rw [← h1] at h2
            simp [hw2, hb', hlt', hlt2]
            exact ⟨⟨k + 1, by omega, _, cstep_lt hq, hqc.next, h2, by omega⟩, by omega⟩
          · have hb' : ¬ (32768 : Int) ≤ q := by omega
            have h2 := cstep_lo hb
            simp [hw2, hb', hlt', hlt2]
            exact ⟨⟨k + 1, by omega, _, cstep_lt hq, hqc.next, by rw [h2]; exact h1, by omega⟩, by omega⟩
        · have e : k = 8 := by omega
          subst e
          simp [hw]
          exact ⟨⟨i + 1, by omega, _, hnx, by unfold IsC at hqc; rw [hqc, hn2e]; rfl, by omega⟩, by omega⟩
    · have e : i = bs.length := by omega
      subst e
      simp
      have hce : n = crc bs := by unfold IsCrc at hc; rwa [List.take_length] at hc
      exact hce


def sumCode (bs : List UInt8) : Int := if bs.length ≤ 4000 then 0 else 2
def sumVal (bs : List UInt8) : Int := if bs.length ≤ 4000 then ((crc bs : Nat) : Int) else 0
theorem SumPost.eq {bs : List UInt8} {r : AV} {H : AHeap} (h : SumPost bs r H) : r = .agg [.d (.s (.int .i64 (sumCode bs))), .d (.s (.int .i64 (sumVal bs)))] ∧ H = [] := by
  refine ⟨?_, h.2⟩
  rcases h.1 with ⟨hok, rfl⟩ | ⟨hno, rfl⟩
  · rw [sumCode, sumVal, if_pos hok, if_pos hok]
  · rw [sumCode, sumVal, if_neg hno, if_neg hno]

end Go.Proofs.Ytcfkmdapadejmaa
