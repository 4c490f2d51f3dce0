/-
  The law of words.
-/
import Derived.Test.YtaeakfbpioakmaaW14
import Derived.Test.YtaeakfbpioakmaaW8
import Derived.Test.YtaeakfbpioakmaaW6
namespace Go.Proofs.Ytaeakfbpioakmaa
open Go Go.Abs Go.Proofs

@[simp] theorem be_take (n k : Nat) : (be n k).take k = be n k := List.take_of_length_le (by rw [be_length]; exact Nat.le_refl _)
theorem be_rd (l : List UInt8) : be (rdN l) l.length = l := by
  suffices ∀ r : List UInt8, be (rdN r.reverse) r.length = r.reverse by simpa using this l.reverse
  intro r
  induction r with
  | nil => rfl
  | cons b r ih =>
    have hb := b.toNat_lt
    rw [List.reverse_cons, rdN_snoc, List.length_cons, be]
    have h1 : (rdN r.reverse * 256 + b.toNat) / 256 = rdN r.reverse := by omega
    have h2 : (rdN r.reverse * 256 + b.toNat) % 256 = b.toNat := by omega
    rw [h1, h2, ih]
    simp
theorem rd_be (n k : Nat) (h : n < 256 ^ k) : rdN (be n k) = n := by
  induction k generalizing n with
  | zero => simp at h; subst h; rfl
  | succ k ih =>
    rw [be, rdN_snoc, ih (n / 256) (by rw [Nat.pow_succ] at h; omega), UInt8.toNat_ofNat']
    omega

theorem eq32 (a1 a2 b1 b2 : Int) : EqAgg Try.prog 32 [.int .i64 a1, .int .i64 a2] [.int .i64 b1, .int .i64 b2] (decide (a1 = b1) && decide (a2 = b2)) := by
  intro w
  refine ⟨fun op x y => ?_, ?_⟩
  · have hg : Try.prog.eqGuardType Try.prog.depth 32 = false := by kernel_rfl
    cases op <;> simp [eqGuard, hg]
  · have h2 : ∀ d : Nat, ∀ a b : Int, (Op.equalIn (d + 1) 2 (.int .i64 a) (.int .i64 b)).run Try.prog w = .ok (a == b) w := fun d a b => by
      simp [Op.equalIn, run_underlying Try.underlying2]
    have : (10000 : Nat) = 9998 + 1 + 1 := rfl
    unfold Op.equal Op.maxDepth
    rw [this, Op.equalIn]
    have ha : ∀ w, (isAgg 2).run Try.prog w = .ok false w := fun w => run_isAgg (by simp) w
    have h3 : ∀ a b : Int, (Op.equalIn 9999 2 (.int .i64 a) (.int .i64 b)).run Try.prog w = .ok (a == b) w := fun a b => h2 9998 a b
    simp [run_underlying Try.underlying32, part, ha, h3]
    by_cases e1 : a1 = b1 <;> by_cases e2 : a2 = b2 <;> simp [e1, e2]
theorem neq32 (a1 a2 b1 b2 : Int) (K : Value → Prop) : aggBin Try.prog .neq 32 [.d (.s (.int .i64 a1)), .d (.s (.int .i64 a2))] [.d (.s (.int .i64 b1)), .d (.s (.int .i64 b2))] K = K (.bool (!(decide (a1 = b1) && decide (a2 = b2)))) :=
  aggBin_neq (eq32 a1 a2 b1 b2)

set_option maxRecDepth 100000 in
set_option maxHeartbeats 2000000 in
theorem c3 (code : List UInt8) : FCall Try.prog 3 [blist code] fun r H => r = bv true ∧ H = [] := by
  by_cases hc : code.length ≤ 1048576
  · have hc' : ¬ (1048576 : Int) < code.length := by omega
    refine fcall_gather [] id fun clk => acall_of_aw Try.func3 rfl ?_
    simp
    refine acall_pure (c13 code) (by simp) ?_
    rintro r Hn c ⟨rfl, rfl⟩ _
    simp [hc']
    refine acall_pure (c14 code hc) (by simp) ?_
    rintro r Hn c ⟨n, size, rfl, hn, rfl⟩ _
    simp
    refine acall_pure (c15 n size hn) (by simp) ?_
    rintro r Hn c (⟨hx, rfl, rfl⟩ | ⟨hx, g, rfl, rfl⟩) _
    · simp
      refine acall_pure (c16 code hc) (by simp) ?_
      rintro r Hn c ⟨g2, data, q, k, rfl, hdl, rfl⟩ _
      simp
      refine acall_pure (c17 data q k (by omega)) (by simp) ?_
      rintro r Hn c h17 _
      obtain ⟨rfl, rfl⟩ := h17.eq
      simp
      refine acall_pure (c18 code hc) (by simp) ?_
      rintro r Hn c ⟨g3, g4, a, b, rfl, hal, hbl, rfl⟩ _
      simp
      refine codeOk_drawq [(false, 0), (false, 1), (false, 2), (false, 3), (true, 4), (false, 5), (false, 6), (false, 7), (false, 8), (false, 9), (false, 10), (false, 11), (true, 12), (false, 13), (false, 14), (false, 15), (false, 16), (false, 17), (true, 18), (false, 19), (false, 20), (true, 21), (false, 22), (false, 23)] mixed rfl rfl (by kernel_rfl) ?_
      simp
      refine qcall (.agg [.d (.s (.int .i64 (packCode n size))), .d (.list 0 [])]) (c19 n size hn) (by simp) ?_ ?_
      · rintro r Hn (⟨_, rfl, rfl⟩ | ⟨h0, _⟩)
        · simp
        · exact absurd h0 hx
      simp
      refine qcall (.agg [.d (.s (.int .i64 (rwCode data q k))), .d (.s (.int .i64 (rwVal data q k)))]) (c20 data q k (by omega)) (by simp) ?_ ?_
      · rintro r Hn h
        obtain ⟨rfl, rfl⟩ := h.eq
        simp
      simp [neq32]
      refine qcall (bv (decide (a = b))) (c21 a b) (by simp) (by rintro r Hn ⟨rfl, rfl⟩; simp) ?_
      simp
      refine qcall (bv (decide (a = b))) (c22 a b) (by simp) (by rintro r Hn ⟨rfl, rfl⟩; simp) ?_
      simp [hx]
      refine codeOk_drawq [(false, 0), (false, 1), (false, 2), (false, 3), (false, 4), (false, 5), (false, 6), (true, 7), (false, 8), (false, 9), (false, 10), (false, 11), (false, 12), (false, 13), (false, 14), (true, 15), (false, 16), (false, 17)] mixed rfl rfl (by kernel_rfl) ?_
      by_cases hok : (1 ≤ k ∧ k ≤ 6) ∧ 0 ≤ q ∧ q ≤ (data.length : Int) - k
      · have hrc : rwCode data q k = 0 := if_pos hok
        obtain ⟨p, rfl⟩ : ∃ p : Nat, q = p := ⟨q.toNat, by omega⟩
        obtain ⟨m, rfl⟩ : ∃ m : Nat, k = m := ⟨k.toNat, by omega⟩
        obtain ⟨L, hL⟩ : ∃ L, L = (data.drop p).take m := ⟨_, rfl⟩
        have hLl : L.length = m := by rw [hL, List.length_take, List.length_drop]; omega
        have hrv : rwVal data p m = (rdN L : Nat) := by unfold rwVal; rw [if_pos hok, hL]; simp
        have hlt : rdN L < 256 ^ m := by rw [← hLl]; exact rdN_lt L
        have hlt6 : rdN L < 281474976710656 := Nat.lt_of_lt_of_le hlt (Nat.le_trans (Nat.pow_le_pow_right (by omega) (by omega : m ≤ 6)) (by decide))
        have hpc : packCode (rdN L : Nat) m = 0 := by unfold packCode; rw [if_pos ⟨hok.1.1, hok.1.2, by omega, by simpa using hlt⟩]
        have hbe : be (rdN L) m = L := by rw [← hLl]; exact be_rd L
        have hwpm : IntKind.i64.wrap ((p : Int) + m) = ((p + m : Nat) : Int) := by rw [wrap_i64 (by omega) (by omega)]; omega
        have htpm : ((p : Int) + m).toNat = p + m := by omega
        simp [hrc, hrv]
        refine qcall (.agg [.d (.s (.int .i64 0)), .d (.list m (bds L))]) (c15 (rdN L : Nat) m (by omega)) (by simp) ?_ ?_
        · rintro r Hn h
          rw [hpc] at h
          rcases h with ⟨h0, _⟩ | ⟨_, g9, rfl, rfl⟩
          · exact absurd rfl h0
          · simp [hbe, hLl]
            rw [List.take_of_length_le (by omega)]
        have hpm : p + m ≤ data.length := by omega
        simp [hwpm, htpm]
        refine ⟨by omega, ?_⟩
        refine qcall (bv true) (dargs := [blist L, blist L]) (c22 L L) (by simp [hLl, ← hL, hpm]) (by rintro r Hn ⟨rfl, rfl⟩; simp) ?_
        simp
      · have hrc : rwCode data q k = 3 := if_neg hok
        simp [hrc]
    · obtain ⟨hz1, hz2, hn0, hnlt⟩ : 1 ≤ size ∧ size ≤ 6 ∧ 0 ≤ n ∧ n.toNat < 256 ^ size.toNat := by
        unfold packCode at hx
        split at hx
        · assumption
        · omega
      obtain ⟨nn, rfl⟩ : ∃ p : Nat, n = p := ⟨n.toNat, by omega⟩
      obtain ⟨sz, rfl⟩ : ∃ p : Nat, size = p := ⟨size.toNat, by omega⟩
      simp at hnlt
      simp
      refine acall_pure (c16 code hc) (by simp) ?_
      rintro r Hn c ⟨g2, data, q, k, rfl, hdl, rfl⟩ _
      simp
      refine acall_pure (c17 data q k (by omega)) (by simp) ?_
      rintro r Hn c h17 _
      obtain ⟨rfl, rfl⟩ := h17.eq
      simp
      refine acall_pure (c18 code hc) (by simp) ?_
      rintro r Hn c ⟨g3, g4, a, b, rfl, hal, hbl, rfl⟩ _
      simp
      refine codeOk_drawq [(false, 0), (false, 1), (false, 2), (false, 3), (true, 4), (false, 5), (false, 6), (false, 7), (false, 8), (false, 9), (false, 10), (false, 11), (true, 12), (false, 13), (false, 14), (false, 15), (false, 16), (false, 17), (true, 18), (false, 19), (false, 20), (true, 21), (false, 22), (false, 23)] mixed rfl rfl (by kernel_rfl) ?_
      simp
      refine qcall (.agg [.d (.s (.int .i64 0)), .d (.list sz (bds (be nn sz)))]) (c19 nn sz hn) (by simp) ?_ ?_
      · rintro r Hn (⟨h0, _⟩ | ⟨_, g8, rfl, rfl⟩)
        · exact absurd hx h0
        · simp [be_length]
      simp
      refine qcall (.agg [.d (.s (.int .i64 (rwCode data q k))), .d (.s (.int .i64 (rwVal data q k)))]) (c20 data q k (by omega)) (by simp) ?_ ?_
      · rintro r Hn h
        obtain ⟨rfl, rfl⟩ := h.eq
        simp
      simp [neq32]
      refine qcall (bv (decide (a = b))) (c21 a b) (by simp) (by rintro r Hn ⟨rfl, rfl⟩; simp) ?_
      simp
      refine qcall (bv (decide (a = b))) (c22 a b) (by simp) (by rintro r Hn ⟨rfl, rfl⟩; simp) ?_
      simp [be_length]
      refine acall_pure (dargs := [blist (be nn sz), iv .i64 0, iv .i64 sz]) (c17 (be nn sz) 0 sz (by rw [be_length]; omega)) (by simp [be_length]) ?_
      rintro r Hn c h _
      obtain ⟨rfl, rfl⟩ := h.eq
      have hcond : (1 ≤ (sz : Int) ∧ (sz : Int) ≤ 6) ∧ (0 : Int) ≤ 0 ∧ (0 : Int) ≤ ((be nn sz).length : Int) - sz := ⟨⟨hz1, hz2⟩, by omega, by rw [be_length]; omega⟩
      have hrc2 : rwCode (be nn sz) 0 sz = 0 := if_pos hcond
      have hrv2 : rwVal (be nn sz) 0 sz = (nn : Int) := by unfold rwVal; rw [if_pos hcond]; simp [rd_be nn sz hnlt]
      simp [hrc2, hrv2, neq32]
      refine codeOk_drawq [(false, 0), (false, 1), (false, 2), (false, 3), (false, 4), (false, 5), (false, 6), (true, 7), (false, 8), (false, 9), (false, 10), (false, 11), (false, 12), (false, 13), (false, 14), (true, 15), (false, 16), (false, 17)] mixed rfl rfl (by kernel_rfl) ?_
      by_cases hok : (1 ≤ k ∧ k ≤ 6) ∧ 0 ≤ q ∧ q ≤ (data.length : Int) - k
      · have hrc : rwCode data q k = 0 := if_pos hok
        obtain ⟨p, rfl⟩ : ∃ p : Nat, q = p := ⟨q.toNat, by omega⟩
        obtain ⟨m, rfl⟩ : ∃ m : Nat, k = m := ⟨k.toNat, by omega⟩
        obtain ⟨L, hL⟩ : ∃ L, L = (data.drop p).take m := ⟨_, rfl⟩
        have hLl : L.length = m := by rw [hL, List.length_take, List.length_drop]; omega
        have hrv : rwVal data p m = (rdN L : Nat) := by unfold rwVal; rw [if_pos hok, hL]; simp
        have hlt : rdN L < 256 ^ m := by rw [← hLl]; exact rdN_lt L
        have hlt6 : rdN L < 281474976710656 := Nat.lt_of_lt_of_le hlt (Nat.le_trans (Nat.pow_le_pow_right (by omega) (by omega : m ≤ 6)) (by decide))
        have hpc : packCode (rdN L : Nat) m = 0 := by unfold packCode; rw [if_pos ⟨hok.1.1, hok.1.2, by omega, by simpa using hlt⟩]
        have hbe : be (rdN L) m = L := by rw [← hLl]; exact be_rd L
        have hwpm : IntKind.i64.wrap ((p : Int) + m) = ((p + m : Nat) : Int) := by rw [wrap_i64 (by omega) (by omega)]; omega
        have htpm : ((p : Int) + m).toNat = p + m := by omega
        simp [hrc, hrv]
        refine qcall (.agg [.d (.s (.int .i64 0)), .d (.list m (bds L))]) (c15 (rdN L : Nat) m (by omega)) (by simp) ?_ ?_
        · rintro r Hn h
          rw [hpc] at h
          rcases h with ⟨h0, _⟩ | ⟨_, g9, rfl, rfl⟩
          · exact absurd rfl h0
          · simp [hbe, hLl]
            rw [List.take_of_length_le (by omega)]
        have hpm : p + m ≤ data.length := by omega
        simp [hwpm, htpm]
        refine ⟨by omega, ?_⟩
        refine qcall (bv true) (dargs := [blist L, blist L]) (c22 L L) (by simp [hLl, ← hL, hpm]) (by rintro r Hn ⟨rfl, rfl⟩; simp) ?_
        simp
      · have hrc : rwCode data q k = 3 := if_neg hok
        simp [hrc]
  · have hc' : (1048576 : Int) < code.length := by omega
    refine fcall_gather [] id fun clk => acall_of_aw Try.func3 rfl ?_
    simp
    refine acall_pure (c13 code) (by simp) ?_
    rintro r Hn c ⟨rfl, rfl⟩ _
    simp [hc']
end Go.Proofs.Ytaeakfbpioakmaa
