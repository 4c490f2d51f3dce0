/-
  Writes out of their bytes and back; pods that are not the same. Numbers alone.
-/
import Derived.Test.YtplnbdjonnfcbaaDoorE3
namespace Go.Proofs.YtplnbdjonnfcbaaDoor
set_option maxRecDepth 100000
set_option linter.unusedSimpArgs false
set_option linter.unusedVariables false
set_option linter.unnecessarySimpa false
open Go Go.Abs Go.Proofs
theorem be_rd2 (l : List UInt8) : be (rdN l) l.length = l := by
  suffices ∀ r : List UInt8, be (rdN r.reverse) r.length = r.reverse by simpa using this l.reverse
  intro r
  induction r with
  | nil => rfl
  | cons b r ih =>
    have hb := b.toNat_lt
    rw [List.reverse_cons, rdN_snoc, List.length_cons, be]
    have h1 : (rdN r.reverse * 256 + b.toNat) / 256 = rdN r.reverse := by omega
    have h2 : (rdN r.reverse * 256 + b.toNat) % 256 = b.toNat := by omega
    rw [h1, h2, ih]
    simp
theorem rd_be2 (n k : Nat) (h : n < 256 ^ k) : rdN (be n k) = n := by
  induction k generalizing n with
  | zero => simp at h; subst h; rfl
  | succ k ih =>
    rw [be, rdN_snoc, ih (n / 256) (by rw [Nat.pow_succ] at h; omega), UInt8.toNat_ofNat']
    omega
theorem rd_skip {n k p q m : Nat} {B : List UInt8} (h : q = k + p) : rd (be n k ++ B) q m = rd B p m := by
  subst h
  unfold rd
  rw [List.drop_append, be_length, List.drop_eq_nil_of_le (by rw [be_length]; omega), List.nil_append, Nat.add_sub_cancel_left]
theorem rd_here {n k : Nat} {B : List UInt8} (h : n < 256 ^ k) : rd (be n k ++ B) 0 k = n := by
  unfold rd
  rw [List.drop_zero, List.take_append_of_le_length (by rw [be_length]; omega), List.take_of_length_le (by rw [be_length]; omega), rd_be2 n k h]
theorem rd_last {n k : Nat} (h : n < 256 ^ k) : rd (be n k) 0 k = n := by
  have := rd_here (B := []) h
  rwa [List.append_nil] at this
theorem enc_assoc (w : Wr) : encB w = be w.op.toNat 1 ++ (be w.ob.kind.toNat 1 ++ (be w.ob.id.toNat 2 ++ (be w.ob.a.toNat 2 ++ (be w.ob.b.toNat 2 ++ (be w.ob.c.toNat 2 ++ (be w.ob.d.toNat 2 ++ (be w.expect.toNat 3 ++ be w.stamp.toNat 2))))))) := by
  simp [encB, List.append_assoc]
theorem dec_enc {w : Wr} (h : w.In) : decW (encB w) = w := by
  obtain ⟨op, ⟨kind, id, a, b, c, d, rev⟩, expect, stamp⟩ := w
  obtain ⟨h1, h2, h3, h4, h5, h6, h7, h8, h9, h10⟩ := h
  simp only at h1 h2 h3 h4 h5 h6 h7 h8 h9 h10
  rw [enc_assoc]
  unfold decW
  have e0 : (256 : Nat) ^ 1 = 256 := rfl
  have e2 : (256 : Nat) ^ 2 = 65536 := rfl
  have e3 : (256 : Nat) ^ 3 = 16777216 := rfl
  simp only
  rw [rd_here (by omega)]
  rw [rd_skip (p := 0) rfl, rd_here (by omega)]
  rw [rd_skip (p := 1) rfl, rd_skip (p := 0) rfl, rd_here (by omega)]
  rw [rd_skip (q := 4) (p := 3) rfl, rd_skip (p := 2) rfl, rd_skip (p := 0) rfl, rd_here (by omega)]
  rw [rd_skip (q := 6) (p := 5) rfl, rd_skip (p := 4) rfl, rd_skip (p := 2) rfl, rd_skip (p := 0) rfl, rd_here (by omega)]
  rw [rd_skip (q := 8) (p := 7) rfl, rd_skip (p := 6) rfl, rd_skip (p := 4) rfl, rd_skip (p := 2) rfl, rd_skip (p := 0) rfl, rd_here (by omega)]
  rw [rd_skip (q := 10) (p := 9) rfl, rd_skip (p := 8) rfl, rd_skip (p := 6) rfl, rd_skip (p := 4) rfl, rd_skip (p := 2) rfl, rd_skip (p := 0) rfl, rd_here (by omega)]
  rw [rd_skip (q := 12) (p := 11) rfl, rd_skip (p := 10) rfl, rd_skip (p := 8) rfl, rd_skip (p := 6) rfl, rd_skip (p := 4) rfl, rd_skip (p := 2) rfl, rd_skip (p := 0) rfl, rd_here (by omega)]
  rw [rd_skip (q := 15) (p := 14) rfl, rd_skip (p := 13) rfl, rd_skip (p := 11) rfl, rd_skip (p := 9) rfl, rd_skip (p := 7) rfl, rd_skip (p := 5) rfl, rd_skip (p := 3) rfl, rd_skip (p := 0) rfl, rd_last (by omega)]
  simp only [Wr.mk.injEq, Ob.mk.injEq]
  omega
theorem enc_dec {bs : List UInt8} (h : bs.length = 17) : encB (decW bs) = bs := by
  match bs, h with
  | [a0, a1, a2, a3, a4, a5, a6, a7, a8, a9, a10, a11, a12, a13, a14, a15, a16], _ =>
    have h1 : ∀ x : UInt8, be (rdN [x]) 1 = [x] := fun x => be_rd2 [x]
    have h2 : ∀ x y : UInt8, be (rdN [x, y]) 2 = [x, y] := fun x y => be_rd2 [x, y]
    have h3 : ∀ x y z : UInt8, be (rdN [x, y, z]) 3 = [x, y, z] := fun x y z => be_rd2 [x, y, z]
    have e : encB (decW [a0, a1, a2, a3, a4, a5, a6, a7, a8, a9, a10, a11, a12, a13, a14, a15, a16]) = be (rdN [a0]) 1 ++ be (rdN [a1]) 1 ++ be (rdN [a2, a3]) 2 ++ be (rdN [a4, a5]) 2 ++ be (rdN [a6, a7]) 2 ++ be (rdN [a8, a9]) 2 ++ be (rdN [a10, a11]) 2 ++ be (rdN [a12, a13, a14]) 3 ++ be (rdN [a15, a16]) 2 := rfl
    rw [e, h1, h1, h2, h2, h2, h2, h2, h3, h2]; rfl
theorem pod_ok {k w i : Int} (h : podCode k w i = 0) : (k = 1 ∨ k = 2) ∧ (0 ≤ w ∧ w ≤ 19) ∧ (0 ≤ i ∧ i ≤ podMost k) ∧ podVal k w i = podNum k w i := by
  have hv : podVal k w i = podNum k w i := if_pos h
  unfold podCode at h
  split at h
  · rename_i h1
    split at h
    · rename_i h2; exact ⟨h1, ⟨h2.1, h2.2.1⟩, ⟨h2.2.2.1, h2.2.2.2⟩, hv⟩
    · omega
  · omega
theorem newPod_ok {k w i : Int} (h : podCode k w i = 0) : obFault ⟨3, podVal k w i, k, w, i, 0, 0⟩ = 0 := by
  obtain ⟨h1, h2, h3, h4⟩ := pod_ok h
  unfold obFault
  rw [if_pos (by simp)]
  rw [if_pos]
  refine ⟨by simp, ?_⟩
  unfold kindOk
  rw [if_neg (by simp), if_neg (by simp), if_pos (by simp)]
  exact ⟨h, h4, by simp⟩
theorem most_pos (k : Int) : podMost k ≤ 23 ∧ 15 ≤ podMost k := by unfold podMost; split <;> omega
/-- Two pods of which one index, one kind or one owner is another one are not the same. -/
theorem pod_other {k w i k' w' i' : Int} (h : podCode k w i = 0) (hne : ¬ (k = k' ∧ w = w' ∧ i = i')) : ¬ (podCode k' w' i' = podCode k w i ∧ podVal k' w' i' = podVal k w i) := by
  rintro ⟨h1, h2⟩
  rw [h] at h1
  obtain ⟨a1, a2, a3, a4⟩ := pod_ok h
  obtain ⟨b1, b2, b3, b4⟩ := pod_ok h1
  rw [a4, b4] at h2
  unfold podNum at h2
  have := most_pos k
  have := most_pos k'
  omega
end Go.Proofs.YtplnbdjonnfcbaaDoor
