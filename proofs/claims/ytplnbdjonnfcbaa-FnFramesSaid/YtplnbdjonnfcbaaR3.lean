/-
  Torn frames: what of a frame comes to a disk.
-/
import Derived.Test.YtplnbdjonnfcbaaR2
namespace Go.Proofs.Ytplnbdjonnfcbaa
set_option maxRecDepth 100000
set_option linter.unusedSimpArgs false
set_option linter.unusedVariables false
set_option linter.unnecessarySimpa false
open Go Go.Abs Go.Proofs
def tears (n keep at_ mask : Int) : Prop := (0 ≤ keep ∧ keep ≤ n + 3) ∧ (0 ≤ mask ∧ mask ≤ 255) ∧ (0 ≤ at_ ∧ at_ ≤ max (keep - 1) 0)
instance (n keep at_ mask : Int) : Decidable (tears n keep at_ mask) := by unfold tears; infer_instance
def torn (f : List UInt8) (k a m : Nat) : List UInt8 := if 0 < k then (f.take k).set a (f.getD a 0 ^^^ UInt8.ofNat m) else []
theorem torn_length (f : List UInt8) {k : Nat} (a m : Nat) (h : k ≤ f.length) : (torn f k a m).length = k := by
  unfold torn
  split
  · rw [List.length_set, List.length_take]; omega
  · simp; omega
theorem xor_byte (y : UInt8) (m : Nat) (hm : m ≤ 255) : IntKind.u8.wrap (((y.toNat % 2 ^ IntKind.u8.bits ^^^ (IntKind.u8.wrap (m : Int) % 2 ^ IntKind.u8.bits).toNat : Nat)) : Int) = ((y ^^^ UInt8.ofNat m).toNat : Int) := by
  have hy := y.toNat_lt
  have e1 : y.toNat % 2 ^ IntKind.u8.bits = y.toNat := Nat.mod_eq_of_lt hy
  have e2 : IntKind.u8.wrap (m : Int) = (m : Int) := by rw [wrap_u8]; omega
  have e3 : ((m : Int) % 2 ^ IntKind.u8.bits).toNat = m := by
    have : (2 : Int) ^ IntKind.u8.bits = 256 := by decide
    rw [this]; omega
  have h : y.toNat ^^^ m < 256 := Nat.xor_lt_two_pow (n := 8) (by omega) (by omega)
  rw [e1, e2, e3, wrap_u8, UInt8.toNat_xor, UInt8.toNat_ofNat', Nat.mod_eq_of_lt (by omega : m < 2 ^ 8)]
  omega
def tearCode (d b : List UInt8) (keep at_ mask : Int) : Int := if 4000 < d.length then 2 else if 1 ≤ b.length ∧ b.length ≤ 100 then if tears b.length keep at_ mask then if 4000 < d.length + b.length + 3 then 7 else 0 else 3 else 2
def tearDisk (d b : List UInt8) (keep at_ mask : Int) : List UInt8 := d ++ torn (frame b) keep.toNat at_.toNat mask.toNat
end Go.Proofs.Ytplnbdjonnfcbaa
