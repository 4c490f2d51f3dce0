/-
  Torn frames: what of a frame comes to a disk.
-/
import Derived.Test.YtcfkmdapadejmaaR2
namespace Go.Proofs.Ytcfkmdapadejmaa
set_option maxRecDepth 100000
set_option linter.unusedSimpArgs false
set_option linter.unusedVariables false
set_option linter.unnecessarySimpa false
open Go Go.Abs Go.Proofs
def tears (n keep at_ mask : Int) : Prop := (0 ≤ keep ∧ keep ≤ n + 3) ∧ (0 ≤ mask ∧ mask ≤ 255) ∧ (0 ≤ at_ ∧ at_ ≤ max (keep - 1) 0)
instance (n keep at_ mask : Int) : Decidable (tears n keep at_ mask) := by unfold tears; infer_instance
theorem c_l1Max (x y : Int) : FCall Try.prog 34 [iv .i64 x, iv .i64 y] fun r H => r = iv .i64 (max x y) ∧ H = [] := by
  intro clk
  refine acall_of_aw Try.func34 rfl ?_
  by_cases h : y < x
  · simp [h]
    omega
  · simp [h]
    omega
theorem c_l1Tears (b : List UInt8) (keep at_ mask : Int) (hb : b.length ≤ 100) : FCall Try.prog 19 [blist b, iv .i64 keep, iv .i64 at_, iv .i64 mask] fun r H => r = bv (decide (tears b.length keep at_ mask)) ∧ H = [] := by
  intro clk
  refine acall_of_aw Try.func19 rfl ?_
  have w1 : IntKind.i64.wrap (b.length : Int) = b.length := wrap_i64 (by omega) (by omega)
  have w2 : IntKind.i64.wrap ((b.length : Int) + 3) = b.length + 3 := wrap_i64 (by omega) (by omega)
  simp [w1, w2]
  refine acall_val (c_l1In keep 0 (b.length + 3)) (by simp) (by simp) ?_
  by_cases h1 : 0 ≤ keep ∧ keep ≤ b.length + 3
  · rw [show (decide (0 ≤ keep) && decide (keep ≤ (b.length : Int) + 3)) = true by simp [h1]]
    simp
    refine acall_val (c_l1In mask 0 255) (by simp) (by simp) ?_
    by_cases h2 : 0 ≤ mask ∧ mask ≤ 255
    · have w3 : IntKind.i64.wrap (keep - 1) = keep - 1 := wrap_i64 (by omega) (by omega)
      rw [show (decide (0 ≤ mask) && decide (mask ≤ 255)) = true by simp [h2]]
      simp [w3]
      refine acall_val (c_l1Max (keep - 1) 0) (by simp) (by simp) ?_
      simp
      refine acall_val (c_l1In at_ 0 (max (keep - 1) 0)) (by simp) (by simp) ?_
      simp [tears, h1, h2]
    · rw [show (decide (0 ≤ mask) && decide (mask ≤ 255)) = false by simp; omega]
      simp
      exact fun h => h2 h.2.1
  · rw [show (decide (0 ≤ keep) && decide (keep ≤ (b.length : Int) + 3)) = false by simp; omega]
    simp
    exact fun h => h1 h.1
def torn (f : List UInt8) (k a m : Nat) : List UInt8 := if 0 < k then (f.take k).set a (f.getD a 0 ^^^ UInt8.ofNat m) else []
theorem torn_length (f : List UInt8) {k : Nat} (a m : Nat) (h : k ≤ f.length) : (torn f k a m).length = k := by
  unfold torn
  split
  · rw [List.length_set, List.length_take]; omega
  · simp; omega
theorem xor_byte (y : UInt8) (m : Nat) (hm : m ≤ 255) : IntKind.u8.wrap (((y.toNat % 2 ^ IntKind.u8.bits ^^^ (IntKind.u8.wrap (m : Int) % 2 ^ IntKind.u8.bits).toNat : Nat)) : Int) = ((y ^^^ UInt8.ofNat m).toNat : Int) := by
  have hy := y.toNat_lt
  have e1 : y.toNat % 2 ^ IntKind.u8.bits = y.toNat := Nat.mod_eq_of_lt hy
  have e2 : IntKind.u8.wrap (m : Int) = (m : Int) := by rw [wrap_u8]; omega
  have e3 : ((m : Int) % 2 ^ IntKind.u8.bits).toNat = m := by
    have : (2 : Int) ^ IntKind.u8.bits = 256 := by decide
    rw [this]; omega
  have h : y.toNat ^^^ m < 256 := Nat.xor_lt_two_pow (n := 8) (by omega) (by omega)
  rw [e1, e2, e3, wrap_u8, UInt8.toNat_xor, UInt8.toNat_ofNat', Nat.mod_eq_of_lt (by omega : m < 2 ^ 8)]
  omega
theorem c_l1Torn (b : List UInt8) (k a m : Nat) (hb : b.length ≤ 100) (hk : k ≤ b.length + 3) (ha : a ≤ k - 1) (hm : m ≤ 255) : FCall Try.prog 21 [blist b, iv .i64 k, iv .i64 a, iv .i64 m] fun r H => ∃ g, r = .one (.own 0 g 0 k) ∧ H = [some ⟨g, 5, 1, bcs (torn (frame b) k a m ++ (frame b).drop k)⟩] := by
  have hf := frame_length b
  refine fcall_gather [0] id fun clk => acall_of_aw Try.func21 rfl ?_
  simp
  refine acall_pure (c_l1Frame b (by omega)) (by simp) ?_
  rintro r Hn c ⟨g, rfl, rfl⟩ _
  obtain ⟨f, hfe⟩ : ∃ f, f = frame b := ⟨_, rfl⟩
  rw [← hfe] at hf ⊢
  by_cases h0 : 0 < k
  · obtain ⟨y, hy⟩ : ∃ y, y = f[a] := ⟨_, rfl⟩
    have hx := xor_byte y m hm
    have hya : f.getD a 0 = y := by rw [hy]; simp [show a < f.length by omega]
    simp [h0, show a < f.length by omega, ← hy]
    rw [hx, bcs_set]
    refine ⟨by omega, by omega, by omega, flatL_bcs _, ?_⟩
    rw [torn, if_pos h0, hya, ← List.set_append_left a _ (by rw [List.length_take]; omega), List.take_append_drop]
  · simp [h0]
    refine ⟨by omega, ?_⟩
    rw [torn, if_neg h0, show k = 0 by omega]; rfl
def tearCode (d b : List UInt8) (keep at_ mask : Int) : Int := if 4000 < d.length then 2 else if 1 ≤ b.length ∧ b.length ≤ 100 then if tears b.length keep at_ mask then if 4000 < d.length + b.length + 3 then 7 else 0 else 3 else 2
def tearDisk (d b : List UInt8) (keep at_ mask : Int) : List UInt8 := d ++ torn (frame b) keep.toNat at_.toNat mask.toNat
set_option maxRecDepth 100000 in
theorem c_sTearDisk (d b : List UInt8) (keep at_ mask : Int) (hd : d.length ≤ 1048576) (hb : b.length ≤ 1048576) : FCall Try.prog 5 [blist d, blist b, iv .i64 keep, iv .i64 at_, iv .i64 mask] (PackPost (tearCode d b keep at_ mask) (tearDisk d b keep at_ mask)) := by
  by_cases h1 : 4000 < d.length
  · have hcode : tearCode d b keep at_ mask = 2 := by rw [tearCode, if_pos h1]
    refine fcall_gather [] id fun clk => acall_of_aw Try.func5 rfl ?_
    simp
    refine acall_pure (c_sReadFramesM d h1) (by simp) ?_
    rintro r Hn c ⟨rfl, rfl⟩ _
    simp [jc]
    rw [hcode]
    exact .inl ⟨by omega, rfl, rfl⟩
  by_cases h2 : 1 ≤ b.length ∧ b.length ≤ 100
  · have hfc : frameCode b = 0 := if_pos h2
    have w1 : IntKind.i64.wrap ((d.length : Int) + b.length) = d.length + b.length := wrap_i64 (by omega) (by omega)
    have w2 : IntKind.i64.wrap ((d.length : Int) + b.length + 3) = d.length + b.length + 3 := wrap_i64 (by omega) (by omega)
    by_cases h3 : tears b.length keep at_ mask
    · by_cases h4 : 4000 < d.length + b.length + 3
      · have hcode : tearCode d b keep at_ mask = 7 := by rw [tearCode, if_neg h1, if_pos h2, if_pos h3, if_pos h4]
        have h4' : (4000 : Int) < d.length + b.length + 3 := by omega
        refine fcall_gather [] id fun clk => acall_of_aw Try.func5 rfl ?_
        simp
        refine acall_pure (c_sReadFrames d (by omega)) (by simp) ?_
        rintro r Hn c ⟨n, g, z, rfl, rfl⟩ _
        simp [jc]
        refine acall_pure (c_sPackFrame b hb) (by simp) ?_
        rintro r Hn c h _
        rw [hfc] at h
        rcases h with ⟨h, _⟩ | ⟨_, g1, rfl, rfl⟩
        · exact absurd rfl h
        simp
        refine acall_val (c_l1Tears b keep at_ mask h2.2) (by simp) (by simp) ?_
        rw [decide_eq_true h3]
        simp [w1, w2, h4']
        rw [hcode]
        exact .inl ⟨by omega, rfl, rfl⟩
      · have hcode : tearCode d b keep at_ mask = 0 := by rw [tearCode, if_neg h1, if_pos h2, if_pos h3, if_neg h4]
        have h4' : ¬ (4000 : Int) < d.length + b.length + 3 := by omega
        have h3' := h3
        obtain ⟨⟨t1, t2⟩, ⟨t3, t4⟩, t5, t6⟩ := h3'
        obtain ⟨k, rfl⟩ := Int.eq_ofNat_of_zero_le t1
        obtain ⟨m, rfl⟩ := Int.eq_ofNat_of_zero_le t3
        obtain ⟨a, rfl⟩ := Int.eq_ofNat_of_zero_le t5
        refine fcall_gather [3] (fun j => j - 3) fun clk => acall_of_aw Try.func5 rfl ?_
        simp
        refine acall_pure (c_sReadFrames d (by omega)) (by simp) ?_
        rintro r Hn c ⟨n, g, z, rfl, rfl⟩ _
        simp [jc]
        refine acall_pure (c_sPackFrame b hb) (by simp) ?_
        rintro r Hn c h _
        rw [hfc] at h
        rcases h with ⟨h, _⟩ | ⟨_, g1, rfl, rfl⟩
        · exact absurd rfl h
        simp
        refine acall_val (c_l1Tears b k a m h2.2) (by simp) (by simp) ?_
        rw [decide_eq_true h3]
        simp [w1, w2, h4']
        refine acall_pure (c_l1Copy d (by omega)) (by simp) ?_
        rintro r Hn c ⟨g2, rfl, rfl⟩ _
        simp
        refine acall_pure (c_l1Torn b k a m h2.2 (by omega) (by omega) (by omega)) (by simp) ?_
        rintro r Hn c ⟨g3, rfl, rfl⟩ _
        have htl := torn_length (frame b) a m (k := k) (by rw [frame_length]; omega)
        simp [htl]
        rw [hcode]
        refine ⟨⟨by omega, by show d.length + k ≤ 9223372036854775807; omega⟩, .inr ⟨rfl, c, ?_, ?_⟩⟩
        · simp [tearDisk, htl]
        · simp [tearDisk]
    · have hcode : tearCode d b keep at_ mask = 3 := by rw [tearCode, if_neg h1, if_pos h2, if_neg h3]
      refine fcall_gather [] id fun clk => acall_of_aw Try.func5 rfl ?_
      simp
      refine acall_pure (c_sReadFrames d (by omega)) (by simp) ?_
      rintro r Hn c ⟨n, g, z, rfl, rfl⟩ _
      simp [jc]
      refine acall_pure (c_sPackFrame b hb) (by simp) ?_
      rintro r Hn c h _
      rw [hfc] at h
      rcases h with ⟨h, _⟩ | ⟨_, g1, rfl, rfl⟩
      · exact absurd rfl h
      simp
      refine acall_val (c_l1Tears b keep at_ mask h2.2) (by simp) (by simp) ?_
      rw [decide_eq_false h3]
      simp
      rw [hcode]
      exact .inl ⟨by omega, rfl, rfl⟩
  · have hfc : frameCode b = 2 := if_neg h2
    have hcode : tearCode d b keep at_ mask = 2 := by rw [tearCode, if_neg h1, if_neg h2]
    refine fcall_gather [] id fun clk => acall_of_aw Try.func5 rfl ?_
    simp
    refine acall_pure (c_sReadFrames d (by omega)) (by simp) ?_
    rintro r Hn c ⟨n, g, z, rfl, rfl⟩ _
    simp [jc]
    refine acall_pure (c_sPackFrame b hb) (by simp) ?_
    rintro r Hn c h _
    rw [hfc] at h
    rcases h with ⟨_, rfl, rfl⟩ | ⟨h, _⟩
    rotate_left
    · exact absurd h (by omega)
    simp
    rw [hcode]
    exact .inl ⟨by omega, rfl, rfl⟩
end Go.Proofs.Ytcfkmdapadejmaa
