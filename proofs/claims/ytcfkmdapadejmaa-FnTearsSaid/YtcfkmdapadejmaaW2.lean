/-
  Numbers in bytes: what the program and the model lay.
-/
import Derived.Test.YtcfkmdapadejmaaW1
namespace Go.Proofs.Ytcfkmdapadejmaa
set_option maxRecDepth 100000
set_option linter.unusedSimpArgs false
set_option linter.unusedVariables false
set_option linter.unnecessarySimpa false
open Go Go.Abs Go.Proofs

/-- A number in k bytes, the highest one first. -/
def be : Nat → Nat → List UInt8
  | _, 0 => []
  | n, k + 1 => be (n / 256) k ++ [UInt8.ofNat (n % 256)]
theorem be_length (n k : Nat) : (be n k).length = k := by
  induction k generalizing n with
  | zero => rfl
  | succ k ih => simp [be, ih]

theorem zeros_set (k : Nat) (t : List UInt8) (b : UInt8) : (List.replicate (k + 1) 0 ++ t).set k b = List.replicate k 0 ++ (b :: t) := by
  rw [List.replicate_succ', List.append_assoc, List.set_append_right _ _ (by simp)]
  simp

theorem quo_256 (n : Nat) (h : n ≤ 9223372036854775807) : IntKind.i64.wrap ((n : Int) / 256) = ((n / 256 : Nat) : Int) := by
  have : (n : Int) / 256 = ((n / 256 : Nat) : Int) := by omega
  rw [this, wrap_i64 (by omega) (by omega)]
theorem byte_256 (n : Nat) : ((UInt8.ofNat (n % 256)).toNat : Int) = (n : Int) % 256 := by rw [UInt8.toNat_ofNat']; omega
theorem wrap8_256 (n : Nat) : IntKind.u8.wrap ((n : Int) % 256) = (n : Int) % 256 := by rw [wrap_u8]; omega

theorem c_l1Pack (n k : Nat) (hn : n ≤ 9223372036854775807) (hk : k ≤ 1048576) : FCall Try.prog 43 [iv .i64 n, iv .i64 k] fun r H => ∃ g, r = .one (.own 0 g 0 k) ∧ H = [some ⟨g, 5, 1, bcs (be n k)⟩] := by
  intro clk
  refine acall_of_aw Try.func43 rfl ?_
  have hw : IntKind.i64.wrap ((k : Int) - 1) = (k : Int) - 1 := wrap_i64 (by omega) (by omega)
  simp [hw]
  refine ⟨⟨by omega, by omega⟩, ?_⟩
  refine codeOk_loop [true, true, false, false, false, true, true] 1 (fun s => ∃ (m j g c : Nat) (t : List UInt8), m ≤ 9223372036854775807 ∧ j + t.length = k ∧ be n k = be m j ++ t ∧
      s = ⟨[iv .i64 m, iv .i64 k, unknown, unknown, unknown, .one (.own 0 g 0 k), iv .i64 ((j : Int) - 1)] ++ List.replicate 17 unknown, [some ⟨g, 5, 1, bcs (List.replicate j 0 ++ t)⟩], c⟩)
    (fun s => match s.tmps.getD 6 unknown with | .one (.d (.s (.int _ i))) => (i + 1).toNat | _ => 0) ?_ ?_
  · simp
    exact ⟨n, hn, k, clk, clk + 1, [], by simp, by simp, ⟨rfl, rfl, rfl⟩, ⟨rfl, by simp⟩, rfl⟩
  · rintro s ⟨m, j, g, c, t, hm, hj, hbe, rfl⟩
    match j with
    | 0 =>
      simp
      rw [hbe]; rfl
    | j + 1 =>
      have h1 : (((j + 1 : Nat) : Int) - 1) = (j : Int) := by omega
      have h2 : IntKind.i64.wrap ((j : Int) - 1) = (j : Int) - 1 := wrap_i64 (by omega) (by omega)
      have h4 := quo_256 m hm
      rw [h1]
      simp [h2, wrap8_256, h4]
      refine ⟨by omega, m / 256, by omega, j, g, c, UInt8.ofNat (m % 256) :: t, by simp; omega, ?_, ⟨by omega, rfl, rfl⟩, ⟨rfl, ?_⟩, rfl⟩
      · rw [hbe]; simp [be]
      · have h5 : IntKind.u8.wrap ((m : Int).tmod 256) = ((UInt8.ofNat (m % 256)).toNat : Int) := by rw [Int.tmod_eq_emod_of_nonneg (by omega), wrap8_256, byte_256]
        rw [h5, bcs_set, zeros_set]


/-- What PackWord tells: a code, and the bytes. -/
def packCode (n size : Int) : Int := if 1 ≤ size ∧ size ≤ 6 ∧ 0 ≤ n ∧ n.toNat < 256 ^ size.toNat then 0 else 3

def PackPost (x : Int) (bs : List UInt8) (r : AV) (H : AHeap) : Prop :=
  (x ≠ 0 ∧ r = .agg [.d (.s (.int .i64 x)), .d .nil] ∧ H = []) ∨ (x = 0 ∧ ∃ g, r = .agg [.d (.s (.int .i64 0)), .own 0 g 0 bs.length] ∧ H = [some ⟨g, 5, 1, bcs bs⟩])

def IsDiv (q m i : Nat) : Prop := q = m / 256 ^ i
theorem pow_step (n i : Nat) : n / 256 ^ i / 256 = n / 256 ^ (i + 1) := by rw [Nat.div_div_eq_div_mul, Nat.pow_succ]
theorem div_zero_iff (n k : Nat) : n / 256 ^ k = 0 ↔ n < 256 ^ k := Nat.div_eq_zero_iff_lt (Nat.pow_pos (by omega))

end Go.Proofs.Ytcfkmdapadejmaa
