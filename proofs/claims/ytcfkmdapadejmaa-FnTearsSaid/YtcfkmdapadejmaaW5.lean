/-
  Numbers out of bytes: what the program and the model read.
-/
import Derived.Test.YtcfkmdapadejmaaW4
namespace Go.Proofs.Ytcfkmdapadejmaa
set_option maxRecDepth 100000
set_option linter.unusedSimpArgs false
set_option linter.unusedVariables false
set_option linter.unnecessarySimpa false
open Go Go.Abs Go.Proofs

def rdN (l : List UInt8) : Nat := l.foldl (fun n b => n * 256 + b.toNat) 0
theorem rdN_snoc (l : List UInt8) (b : UInt8) : rdN (l ++ [b]) = rdN l * 256 + b.toNat := by simp [rdN]
theorem rdN_lt (l : List UInt8) : rdN l < 256 ^ l.length := by
  suffices ∀ r : List UInt8, rdN r.reverse < 256 ^ r.length by simpa using this l.reverse
  intro r
  induction r with
  | nil => simp [rdN]
  | cons b r ih =>
    rw [List.reverse_cons, rdN_snoc, List.length_cons, Nat.pow_succ]
    have := b.toNat_lt
    omega

/-- The number in the first i bytes from a place on. -/
def IsRd (v : Nat) (bs : List UInt8) (at_ i : Nat) : Prop := v = rdN ((bs.drop at_).take i)
theorem IsRd.zero (bs : List UInt8) (p : Nat) : IsRd 0 bs p 0 := by simp [IsRd, rdN]
theorem IsRd.next {v : Nat} {bs : List UInt8} {p i : Nat} (h : IsRd v bs p i) (hi : p + i < bs.length) : IsRd (v * 256 + bs[p + i].toNat) bs p (i + 1) := by
  unfold IsRd at *
  rw [List.take_succ_eq_append_getElem (by simp; omega), rdN_snoc, ← h]
  simp
theorem IsRd.lt {v : Nat} {bs : List UInt8} {p i : Nat} (h : IsRd v bs p i) (hi : i ≤ 6) : v < 281474976710656 := by
  unfold IsRd at h
  have h1 := rdN_lt ((bs.drop p).take i)
  have h2 : ((bs.drop p).take i).length ≤ 6 := by rw [List.length_take]; omega
  have h3 : 256 ^ ((bs.drop p).take i).length ≤ 256 ^ 6 := Nat.pow_le_pow_right (by omega) h2
  have h4 : 256 ^ 6 = 281474976710656 := by decide
  omega

theorem c_l1Read (bs : List UInt8) (p k : Nat) (hk : k ≤ 6) (hp : p + k ≤ bs.length) (hb : bs.length ≤ 1099511627776) : FCall Try.prog 41 [blist bs, iv .i64 p, iv .i64 k] fun r H => r = iv .i64 ((rdN ((bs.drop p).take k) : Nat) : Int) ∧ H = [] := by
  intro clk
  refine acall_of_aw Try.func41 rfl ?_
  simp
  refine codeOk_loop [true, true, true, false, false, false, false, true, true] 0 (fun s => ∃ (i v c : Nat), i ≤ k ∧ IsRd v bs p i ∧
      s = ⟨[blist bs, iv .i64 p, iv .i64 k, unknown, unknown, unknown, unknown, iv .i64 v, iv .i64 i] ++ List.replicate 16 unknown, [], c⟩)
    (fun s => match s.tmps.getD 8 unknown with | .one (.d (.s (.int _ i))) => k - i.toNat | _ => 0) ?_ ?_
  · simp
    exact ⟨0, Nat.zero_le _, 0, IsRd.zero _ _, rfl, rfl⟩
  · rintro s ⟨i, v, c, hi, hv, rfl⟩
    by_cases hlt : i < k
    · have hw := wrap_succ (i := i) (by omega)
      have hpl : p + i < bs.length := by omega
      have hvl := hv.lt (by omega)
      have hn := hv.next hpl
      have h1 : IntKind.i64.wrap ((p : Int) + i) = ((p + i : Nat) : Int) := by rw [wrap_i64 (by omega) (by omega)]; omega
      have h2 : IntKind.i64.wrap ((v : Int) * 256) = ((v * 256 : Nat) : Int) := by rw [wrap_i64 (by omega) (by omega)]; omega
      obtain ⟨b, hbe⟩ : ∃ b, b = bs[p + i] := ⟨_, rfl⟩
      have hbl := b.toNat_lt
      have h3 : IntKind.i64.wrap (b.toNat : Int) = (b.toNat : Int) := wrap_i64 (by omega) (by omega)
      rw [← hbe] at hn
      have ht : ((p : Int) + i).toNat = p + i := by omega
      have h4 : IntKind.i64.wrap ((v : Int) * 256 + b.toNat) = ((v * 256 + b.toNat : Nat) : Int) := by rw [wrap_i64 (by omega) (by omega)]; omega
      simp [hlt, hw, h1, h2, ht, hpl, ← hbe, h3]
      exact ⟨by omega, ⟨i + 1, by omega, _, hn, h4, by omega⟩, by omega⟩
    · have e : i = k := by omega
      subst e
      simp
      exact hv

/-- What ReadWord tells: a code, and the number. -/
def rwOk (bs : List UInt8) (p k : Int) : Prop := (1 ≤ k ∧ k ≤ 6) ∧ 0 ≤ p ∧ p ≤ (bs.length : Int) - k
def RWPost (bs : List UInt8) (p k : Int) (r : AV) (H : AHeap) : Prop :=
  ((rwOk bs p k ∧ r = .agg [.d (.s (.int .i64 0)), .d (.s (.int .i64 ((rdN ((bs.drop p.toNat).take k.toNat) : Nat) : Int)))]) ∨ (¬ rwOk bs p k ∧ r = .agg [.d (.s (.int .i64 3)), .d (.s (.int .i64 0))])) ∧ H = []


theorem or_byte (n b : Nat) (hb : b < 256) : n * 256 ||| b = n * 256 + b := by
  have := Nat.two_pow_add_eq_or_of_lt (i := 8) (b := b) (by omega) n
  have e : 2 ^ 8 * n = n * 256 := by omega
  rw [e] at this
  exact this.symm
theorem i64_bits : IntKind.i64.bits = 64 := rfl
theorem or_step (v : Nat) (b : Nat) (hv : v < 281474976710656) (hb : b < 256) :
    IntKind.i64.wrap ((((IntKind.i64.wrap ((v : Int) * 2 ^ min 8 IntKind.i64.bits) % 2 ^ IntKind.i64.bits).toNat ||| b % 2 ^ IntKind.i64.bits) : Nat) : Int) = ((v * 256 + b : Nat) : Int) := by
  have h1 : IntKind.i64.wrap ((v : Int) * 2 ^ min 8 IntKind.i64.bits) = ((v * 256 : Nat) : Int) := by
    have e : (v : Int) * 2 ^ min 8 IntKind.i64.bits = v * 256 := rfl
    rw [e, wrap_i64 (by omega) (by omega)]; omega
  have h2 : (((v * 256 : Nat) : Int) % 2 ^ 64).toNat = v * 256 := by omega
  have h3 : b % 2 ^ 64 = b := Nat.mod_eq_of_lt (by omega)
  rw [h1, i64_bits, h2, h3, or_byte v b hb, wrap_i64 (by omega) (by omega)]

end Go.Proofs.Ytcfkmdapadejmaa
