/-
  Numbers in bytes: what the program and the model lay.
  Numbers in bytes: what the program lays.
  Writes as bytes: what the program lays and reads.
  Draws: writes, objects, pods, bytes.
-/
import Derived.Test.YtiogdfliailenaaQ1
import Derived.Test.YtiogdfliailenaaQ15
import Derived.Test.YtiogdfliailenaaQ5
import Derived.Test.YtiogdfliailenaaQ26
import Derived.Test.YtiogdfliailenaaK3
import Derived.Test.YtiogdfliailenaaK6
namespace Go.Proofs.Ytiogdfliailenaa
set_option maxRecDepth 100000
set_option linter.unusedSimpArgs false
set_option linter.unusedVariables false
set_option linter.unnecessarySimpa false
open Go Go.Abs Go.Proofs

/-- A number in k bytes, the highest one first. -/
def be : Nat → Nat → List UInt8
  | _, 0 => []
  | n, k + 1 => be (n / 256) k ++ [UInt8.ofNat (n % 256)]
theorem be_length (n k : Nat) : (be n k).length = k := by
  induction k generalizing n with
  | zero => rfl
  | succ k ih => simp [be, ih]

theorem zeros_set (k : Nat) (t : List UInt8) (b : UInt8) : (List.replicate (k + 1) 0 ++ t).set k b = List.replicate k 0 ++ (b :: t) := by
  rw [List.replicate_succ', List.append_assoc, List.set_append_right _ _ (by simp)]
  simp

theorem quo_256 (n : Nat) (h : n ≤ 9223372036854775807) : IntKind.i64.wrap ((n : Int) / 256) = ((n / 256 : Nat) : Int) := by
  have : (n : Int) / 256 = ((n / 256 : Nat) : Int) := by omega
  rw [this, wrap_i64 (by omega) (by omega)]
theorem byte_256 (n : Nat) : ((UInt8.ofNat (n % 256)).toNat : Int) = (n : Int) % 256 := by rw [UInt8.toNat_ofNat']; omega
theorem wrap8_256 (n : Nat) : IntKind.u8.wrap ((n : Int) % 256) = (n : Int) % 256 := by rw [wrap_u8]; omega



/-- What PackWord tells: a code, and the bytes. -/
def packCode (n size : Int) : Int := if 1 ≤ size ∧ size ≤ 6 ∧ 0 ≤ n ∧ n.toNat < 256 ^ size.toNat then 0 else 3

def PackPost (x : Int) (bs : List UInt8) (r : AV) (H : AHeap) : Prop :=
  (x ≠ 0 ∧ r = .agg [.d (.s (.int .i64 x)), .d .nil] ∧ H = []) ∨ (x = 0 ∧ ∃ g, r = .agg [.d (.s (.int .i64 0)), .own 0 g 0 bs.length] ∧ H = [some ⟨g, 5, 1, bcs bs⟩])

def IsDiv (q m i : Nat) : Prop := q = m / 256 ^ i
theorem pow_step (n i : Nat) : n / 256 ^ i / 256 = n / 256 ^ (i + 1) := by rw [Nat.div_div_eq_div_mul, Nat.pow_succ]
theorem div_zero_iff (n k : Nat) : n / 256 ^ k = 0 ↔ n < 256 ^ k := Nat.div_eq_zero_iff_lt (Nat.pow_pos (by omega))

end Go.Proofs.Ytiogdfliailenaa
namespace Go.Proofs.Ytiogdfliailenaa
set_option maxRecDepth 100000
set_option linter.unusedSimpArgs false
set_option linter.unusedVariables false
set_option linter.unnecessarySimpa false
open Go Go.Abs Go.Proofs

theorem top_word (k : Nat) (h1 : 1 ≤ k) (h2 : k ≤ 6) : 0 ≤ IntKind.i64.wrap (8 * (k : Int)) ∧
    IntKind.i64.wrap (IntKind.i64.wrap (2 ^ min (IntKind.i64.wrap (8 * (k : Int))).toNat IntKind.i64.bits) - 1) = ((256 ^ k : Nat) : Int) - 1 := by
  have : k = 1 ∨ k = 2 ∨ k = 3 ∨ k = 4 ∨ k = 5 ∨ k = 6 := by omega
  rcases this with rfl | rfl | rfl | rfl | rfl | rfl <;> decide

theorem shr_8 (q : Nat) : ((q : Int)).fdiv (2 ^ min 8 IntKind.i64.bits) = ((q / 256 : Nat) : Int) := by
  have e : (2 : Int) ^ min 8 IntKind.i64.bits = 256 := rfl
  rw [e, Int.fdiv_eq_ediv_of_nonneg _ (by omega)]; omega
theorem and_255 (q : Nat) (hq : q ≤ 9223372036854775807) : IntKind.u8.wrap (IntKind.i64.wrap (((q % 2 ^ IntKind.i64.bits &&& 255 % 2 ^ IntKind.i64.bits : Nat)) : Int)) = ((UInt8.ofNat (q % 256)).toNat : Int) := by
  have h1 : q % 2 ^ IntKind.i64.bits = q := Nat.mod_eq_of_lt (Nat.lt_of_le_of_lt hq (by decide))
  have h2 : 255 % 2 ^ IntKind.i64.bits = 255 := by decide
  have h3 : q &&& 255 = q % 256 := Nat.and_two_pow_sub_one_eq_mod q 8
  rw [h1, h2, h3, wrap_i64 (by omega) (by omega), wrap_u8, UInt8.toNat_ofNat']
  omega

end Go.Proofs.Ytiogdfliailenaa
namespace Go.Proofs.Ytiogdfliailenaa
set_option maxRecDepth 100000
set_option linter.unusedSimpArgs false
set_option linter.unusedVariables false
set_option linter.unnecessarySimpa false
open Go Go.Abs Go.Proofs

/-- The bytes of a write. -/
def encB (w : Wr) : List UInt8 := be w.op.toNat 1 ++ be w.ob.kind.toNat 1 ++ be w.ob.id.toNat 2 ++ be w.ob.a.toNat 2 ++ be w.ob.b.toNat 2 ++ be w.ob.c.toNat 2 ++ be w.ob.d.toNat 2 ++ be w.expect.toNat 3 ++ be w.stamp.toNat 2
theorem encLen (w : Wr) : (encB w).length = 17 := by simp [encB, be_length]
theorem pack_ok {n : Int} {k : Nat} (h1 : 1 ≤ k ∧ k ≤ 6) (h2 : 0 ≤ n) (h3 : n.toNat < 256 ^ k) : packCode n k = 0 := by
  unfold packCode
  rw [if_pos]
  exact ⟨by omega, by omega, h2, by simpa using h3⟩
def EncPost (w : Wr) (e : Nat) (r : AV) (H : AHeap) : Prop :=
  (wrFault w ≠ 0 ∧ r = .agg [ic (wrFault w), .d .nil] ∧ H = []) ∨ (wrFault w = 0 ∧ ∃ g, r = .agg [ic 0, .own 0 g 0 17] ∧ H = [some ⟨g, e, 1, bcs (encB w)⟩])
/-! The model's bytes -/
def encPostS (w : Wr) (r : AV) (H : AHeap) : Prop :=
  (wrFault w ≠ 0 ∧ r = .agg [ic (wrFault w), .d .nil] ∧ H = []) ∨ (wrFault w = 0 ∧ ∃ g, r = .agg [ic 0, .own 0 g 0 17] ∧ H = [some ⟨g, 5, 1, bcs (encB w)⟩])
theorem u8_small {n : Int} (h : 0 ≤ n ∧ n ≤ 255) : IntKind.u8.wrap n = ((UInt8.ofNat (n.toNat % 256)).toNat : Int) := by
  rw [wrap_u8, UInt8.toNat_ofNat']; omega
end Go.Proofs.Ytiogdfliailenaa
namespace Go.Proofs.Ytiogdfliailenaa
set_option maxRecDepth 100000
set_option linter.unusedSimpArgs false
set_option linter.unusedVariables false
set_option linter.unnecessarySimpa false
open Go Go.Abs Go.Proofs
theorem a_l1Source (code : List UInt8) {H : AHeap} {clk : Nat} {K : AV → AHeap → Nat → Prop} (hK : ∀ c, clk ≤ c → K (.one (.ptr H.length clk 0)) (H ++ [some (srcB clk code 0)]) c) : ACall Try.prog 45 [blist code] H clk K := by
  refine acall_of_aw Try.func45 rfl ?_
  simp
  exact hK _ (by omega)
structure WrS (w : Wr) : Prop where
  op : 0 ≤ w.op ∧ w.op ≤ 255
  ob : ObS w.ob
  expect : 0 ≤ w.expect ∧ w.expect ≤ 100000
  stamp : 0 ≤ w.stamp ∧ w.stamp ≤ 9999
theorem a_l2Draw {code : List UInt8} {k g p clk : Nat} {H : AHeap} {K : AV → AHeap → Nat → Prop} (hc : code.length ≤ 1048576) (hp : p ≤ 1000000)
    (hk : H[k]? = some (some (srcB g code p))) (hK : ∀ o : Ob, ObS o → ∀ q, q ≤ p + 5 → ∀ c, clk ≤ c → K o.av (H.set k (some (srcB g code q))) c) :
    ACall Try.prog 91 [.one (.ptr k g 0)] H clk K := by
  refine acall_ref (k := k) (c_l2Draw code g p hc hp) (by simp) (by rw [srcB_ren]; exact hk) ?_
  rintro r B Hn c ⟨⟨o, rfl, ho⟩, ⟨q, hq, rfl⟩, rfl⟩ hc
  rw [srcB_ren]
  simpa [-ABlk.ren] using hK o ho q hq c hc
end Go.Proofs.Ytiogdfliailenaa
