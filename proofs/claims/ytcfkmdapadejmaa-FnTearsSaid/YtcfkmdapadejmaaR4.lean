/-
  Torn frames: what the program lays.
-/
import Derived.Test.YtcfkmdapadejmaaR3
import Derived.Test.YtcfkmdapadejmaaW4
namespace Go.Proofs.Ytcfkmdapadejmaa
set_option maxRecDepth 100000
set_option linter.unusedSimpArgs false
set_option linter.unusedVariables false
set_option linter.unnecessarySimpa false
open Go Go.Abs Go.Proofs
def fits' (n : Int) : Prop := -9223372036854775808 ≤ n ∧ n ≤ 9223372036854775807
theorem tears_iff (b : List UInt8) (keep at_ mask : Int) : OkAll [⟨keep, 0, b.length + 3⟩, ⟨mask, 0, 255⟩, ⟨at_, 0, max keep 1 - 1⟩] = decide (tears b.length keep at_ mask) := by
  by_cases h : tears b.length keep at_ mask
  · rw [decide_eq_true h]
    unfold tears at h
    simp [OkAll, Sp.ok]
    omega
  · rw [decide_eq_false h]
    unfold tears at h
    simp [OkAll, Sp.ok]
    omega
set_option maxRecDepth 100000 in
theorem c_isTearN (keep at_ mask n : Int) (hk : -9223372036854775808 ≤ keep ∧ keep ≤ 9223372036854775807) : FCall Try.prog 23 [iv .i64 keep, iv .i64 at_, iv .i64 mask, iv .i64 n] fun r H => r = bv (OkAll [⟨keep, 0, n⟩, ⟨mask, 0, 255⟩, ⟨at_, 0, max keep 1 - 1⟩]) ∧ H = [] := by
  have hw : IntKind.i64.wrap (max keep 1 - 1) = max keep 1 - 1 := wrap_i64 (by omega) (by omega)
  refine fcall_gather [] id fun clk => acall_of_aw Try.func23 rfl ?_
  simp [hw]
  refine acall_val (c_inBounds [⟨keep, 0, n⟩, ⟨mask, 0, 255⟩, ⟨at_, 0, max keep 1 - 1⟩] (by simp)) (by simp [sps, AC.dc?]) (by simp) ?_
  simp
set_option maxRecDepth 100000 in
set_option maxHeartbeats 4000000 in
theorem c_TearDisk (d b : List UInt8) (keep at_ mask : Int) (hd : d.length ≤ 1048576) (hb : b.length ≤ 1048576) (hkeep : fits' keep) : FCall Try.prog 7 [blist d, blist b, iv .i64 keep, iv .i64 at_, iv .i64 mask] (PackPost (tearCode d b keep at_ mask) (tearDisk d b keep at_ mask)) := by
  by_cases h1 : 4000 < d.length
  · have hcode : tearCode d b keep at_ mask = 2 := by rw [tearCode, if_pos h1]
    refine fcall_gather [] id fun clk => acall_of_aw Try.func7 rfl ?_
    simp
    refine acall_pure (c_ReadFramesM d h1) (by simp) ?_
    rintro r Hn c ⟨rfl, rfl⟩ _
    simp [jc]
    rw [hcode]
    exact .inl ⟨by omega, rfl, rfl⟩
  by_cases h2 : 1 ≤ b.length ∧ b.length ≤ 100
  · have hfc : frameCode b = 0 := if_pos h2
    have hfl := frame_length b
    have wl : IntKind.i64.wrap ((b.length : Int) + 3) = b.length + 3 := wrap_i64 (by omega) (by omega)
    have wm : IntKind.i64.wrap (max keep 1 - 1) = max keep 1 - 1 := by unfold fits' at hkeep; exact wrap_i64 (by omega) (by omega)
    have w2 : IntKind.i64.wrap ((d.length : Int) + (b.length + 3)) = d.length + (b.length + 3) := wrap_i64 (by omega) (by omega)
    by_cases h3 : tears b.length keep at_ mask
    · have hib : OkAll [⟨keep, 0, b.length + 3⟩, ⟨mask, 0, 255⟩, ⟨at_, 0, max keep 1 - 1⟩] = true := by rw [tears_iff, decide_eq_true h3]
      by_cases h4 : 4000 < d.length + b.length + 3
      · have hcode : tearCode d b keep at_ mask = 7 := by rw [tearCode, if_neg h1, if_pos h2, if_pos h3, if_pos h4]
        have h4' : (4000 : Int) < d.length + (b.length + 3) := by omega
        cases hf : firstB d with
        | none =>
          refine fcall_gather [] id fun clk => acall_of_aw Try.func7 rfl ?_
          simp
          refine acall_pure (c_ReadFrames0 d (by omega) hf) (by simp) ?_
          rintro r Hn c ⟨rfl, rfl⟩ _
          simp [jc]
          refine acall_pure (c_PackFrame b hb) (by simp) ?_
          rintro r Hn c h _
          rw [hfc] at h
          rcases h with ⟨h, _⟩ | ⟨_, g1, rfl, rfl⟩
          · exact absurd rfl h
          simp [hfl, wl, wm]
          refine acall_val (c_isTearN keep at_ mask (b.length + 3) (by unfold fits' at hkeep; omega)) (by simp) (by simp) ?_
          rw [hib]
          simp [w2, h4', hfl]
          rw [hcode]
          exact .inl ⟨by omega, rfl, rfl⟩
        | some b0 =>
          refine fcall_gather [] id fun clk => acall_of_aw Try.func7 rfl ?_
          simp
          refine acall_pure (c_ReadFrames1 d (by omega) hf) (by simp) ?_
          rintro r Hn c ⟨n0, g0, z0, rfl, rfl⟩ _
          simp [jc]
          refine acall_pure (c_PackFrame b hb) (by simp) ?_
          rintro r Hn c h _
          rw [hfc] at h
          rcases h with ⟨h, _⟩ | ⟨_, g1, rfl, rfl⟩
          · exact absurd rfl h
          simp [hfl, wl, wm]
          refine acall_val (c_isTearN keep at_ mask (b.length + 3) (by unfold fits' at hkeep; omega)) (by simp) (by simp) ?_
          rw [hib]
          simp [w2, h4', hfl]
          rw [hcode]
          exact .inl ⟨by omega, rfl, rfl⟩
      · have hcode : tearCode d b keep at_ mask = 0 := by rw [tearCode, if_neg h1, if_pos h2, if_pos h3, if_neg h4]
        have h4' : ¬ (4000 : Int) < d.length + (b.length + 3) := by omega
        have h3' := h3
        obtain ⟨⟨t1, t2⟩, ⟨t3, t4⟩, t5, t6⟩ := h3'
        obtain ⟨k, rfl⟩ := Int.eq_ofNat_of_zero_le t1
        obtain ⟨m, rfl⟩ := Int.eq_ofNat_of_zero_le t3
        obtain ⟨a, rfl⟩ := Int.eq_ofNat_of_zero_le t5
        have htl := torn_length (frame b) a m (k := k) (by rw [frame_length]; omega)
        by_cases hd0 : 0 < d.length
        · cases hf : firstB d with
          | none =>
            refine fcall_gather [3] (fun j => j - 3) fun clk => acall_of_aw Try.func7 rfl ?_
            simp
            refine acall_pure (c_ReadFrames0 d (by omega) hf) (by simp) ?_
            rintro r Hn c ⟨rfl, rfl⟩ _
            simp [jc]
            refine acall_pure (c_PackFrame b hb) (by simp) ?_
            rintro r Hn c h _
            rw [hfc] at h
            rcases h with ⟨h, _⟩ | ⟨_, g1, rfl, rfl⟩
            · exact absurd rfl h
            simp [hfl, wl, wm]
            refine acall_val (c_isTearN k a m (b.length + 3) (by omega)) (by simp) (by simp) ?_
            rw [hib]
            obtain ⟨f, hfe⟩ : ∃ f, f = frame b := ⟨_, rfl⟩
            rw [← hfe] at hfl htl ⊢
            by_cases h0 : 0 < k
            · have haf : a < f.length := by omega
              have haf' : a < b.length + 3 := by omega
              obtain ⟨y, hy⟩ : ∃ y, y = f[a] := ⟨_, rfl⟩
              have hx := xor_byte y m (by omega)
              have hya : f.getD a 0 = y := by rw [hy, List.getD_eq_getElem?_getD, List.getElem?_eq_getElem haf]; rfl
              simp [w2, h4', hfl, h0, haf', ← hy]
              rw [hx, bcs_set]
              refine ⟨by omega, by omega, by omega, ?_⟩
              refine acall_pure (c_bytesClone' d hd0 hd) (by simp) ?_
              rintro r Hn c ⟨g2, rfl, rfl⟩ _
              simp [hfl]
              rw [hcode]
              refine ⟨by omega, ⟨by omega, by show d.length + k ≤ 9223372036854775807; omega⟩, .inr ⟨rfl, c, ?_, ?_⟩⟩
              · simp [tearDisk, ← hfe, htl]
              · have e : torn f k a m = List.take k (f.set a (y ^^^ UInt8.ofNat m)) := by rw [torn, if_pos h0, hya, List.take_set]
                simp [tearDisk, ← hfe, e]
            · simp [w2, h4', hfl, h0]
              refine ⟨by omega, ?_⟩
              refine acall_pure (c_bytesClone' d hd0 hd) (by simp) ?_
              rintro r Hn c ⟨g2, rfl, rfl⟩ _
              simp [hfl]
              rw [hcode]
              refine ⟨by omega, ⟨by omega, by show d.length + k ≤ 9223372036854775807; omega⟩, .inr ⟨rfl, c, ?_, ?_⟩⟩
              · simp [tearDisk, ← hfe, htl]
              · have e : torn f k a m = f.take k := by rw [torn, if_neg h0, show k = 0 by omega]; rfl
                simp [tearDisk, ← hfe, e]
          | some b0 =>
            refine fcall_gather [4] (fun j => j - 4) fun clk => acall_of_aw Try.func7 rfl ?_
            simp
            refine acall_pure (c_ReadFrames1 d (by omega) hf) (by simp) ?_
            rintro r Hn c ⟨n0, g0, z0, rfl, rfl⟩ _
            simp [jc]
            refine acall_pure (c_PackFrame b hb) (by simp) ?_
            rintro r Hn c h _
            rw [hfc] at h
            rcases h with ⟨h, _⟩ | ⟨_, g1, rfl, rfl⟩
            · exact absurd rfl h
            simp [hfl, wl, wm]
            refine acall_val (c_isTearN k a m (b.length + 3) (by omega)) (by simp) (by simp) ?_
            rw [hib]
            obtain ⟨f, hfe⟩ : ∃ f, f = frame b := ⟨_, rfl⟩
            rw [← hfe] at hfl htl ⊢
            by_cases h0 : 0 < k
            · have haf : a < f.length := by omega
              have haf' : a < b.length + 3 := by omega
              obtain ⟨y, hy⟩ : ∃ y, y = f[a] := ⟨_, rfl⟩
              have hx := xor_byte y m (by omega)
              have hya : f.getD a 0 = y := by rw [hy, List.getD_eq_getElem?_getD, List.getElem?_eq_getElem haf]; rfl
              simp [w2, h4', hfl, h0, haf', ← hy]
              rw [hx, bcs_set]
              refine ⟨by omega, by omega, by omega, ?_⟩
              refine acall_pure (c_bytesClone' d hd0 hd) (by simp) ?_
              rintro r Hn c ⟨g2, rfl, rfl⟩ _
              simp [hfl]
              rw [hcode]
              refine ⟨by omega, ⟨by omega, by show d.length + k ≤ 9223372036854775807; omega⟩, .inr ⟨rfl, c, ?_, ?_⟩⟩
              · simp [tearDisk, ← hfe, htl]
              · have e : torn f k a m = List.take k (f.set a (y ^^^ UInt8.ofNat m)) := by rw [torn, if_pos h0, hya, List.take_set]
                simp [tearDisk, ← hfe, e]
            · simp [w2, h4', hfl, h0]
              refine ⟨by omega, ?_⟩
              refine acall_pure (c_bytesClone' d hd0 hd) (by simp) ?_
              rintro r Hn c ⟨g2, rfl, rfl⟩ _
              simp [hfl]
              rw [hcode]
              refine ⟨by omega, ⟨by omega, by show d.length + k ≤ 9223372036854775807; omega⟩, .inr ⟨rfl, c, ?_, ?_⟩⟩
              · simp [tearDisk, ← hfe, htl]
              · have e : torn f k a m = f.take k := by rw [torn, if_neg h0, show k = 0 by omega]; rfl
                simp [tearDisk, ← hfe, e]
        · obtain rfl : d = [] := List.eq_nil_of_length_eq_zero (by omega)
          have hf : firstB [] = none := rfl
          refine fcall_gather [3] (fun j => j - 3) fun clk => acall_of_aw Try.func7 rfl ?_
          simp
          refine acall_pure (c_ReadFrames0 [] (by simp) hf) (by simp) ?_
          rintro r Hn c ⟨rfl, rfl⟩ _
          simp [jc]
          refine acall_pure (c_PackFrame b hb) (by simp) ?_
          rintro r Hn c h _
          rw [hfc] at h
          rcases h with ⟨h, _⟩ | ⟨_, g1, rfl, rfl⟩
          · exact absurd rfl h
          simp [hfl, wl, wm]
          refine acall_val (c_isTearN k a m (b.length + 3) (by omega)) (by simp) (by simp) ?_
          rw [hib]
          obtain ⟨f, hfe⟩ : ∃ f, f = frame b := ⟨_, rfl⟩
          rw [← hfe] at hfl htl ⊢
          by_cases h0 : 0 < k
          · have haf : a < f.length := by omega
            have haf' : a < b.length + 3 := by omega
            obtain ⟨y, hy⟩ : ∃ y, y = f[a] := ⟨_, rfl⟩
            have hx := xor_byte y m (by omega)
            have hya : f.getD a 0 = y := by rw [hy, List.getD_eq_getElem?_getD, List.getElem?_eq_getElem haf]; rfl
            simp [w2, h4', hfl, h0, haf', ← hy]
            rw [hx, bcs_set]
            refine ⟨by omega, by omega, by omega, ?_⟩
            refine ⟨by omega, ?_⟩
            refine acall_pure c_bytesClone0 (by simp) ?_
            rintro r Hn c (⟨rfl, rfl⟩ | ⟨g2, rfl, rfl⟩) _
            · simp [hfl]
              rw [hcode]
              refine ⟨by omega, ⟨by omega, by show k ≤ 9223372036854775807; omega⟩, .inr ⟨rfl, c + 1, ?_, ?_⟩⟩
              · simp [tearDisk, ← hfe, htl]
              · have e : torn f k a m = List.take k (f.set a (y ^^^ UInt8.ofNat m)) := by rw [torn, if_pos h0, hya, List.take_set]
                simp [tearDisk, ← hfe, e]
            · simp [hfl]
              rw [hcode]
              refine ⟨by omega, ⟨by omega, by show k ≤ 9223372036854775807; omega⟩, .inr ⟨rfl, c, ?_, ?_⟩⟩
              · simp [tearDisk, ← hfe, htl]
              · have e : torn f k a m = List.take k (f.set a (y ^^^ UInt8.ofNat m)) := by rw [torn, if_pos h0, hya, List.take_set]
                simp [tearDisk, ← hfe, e]
          · simp [w2, h4', hfl, h0]
            refine ⟨by omega, ?_⟩
            refine ⟨by omega, ?_⟩
            refine acall_pure c_bytesClone0 (by simp) ?_
            rintro r Hn c (⟨rfl, rfl⟩ | ⟨g2, rfl, rfl⟩) _
            · simp [hfl]
              rw [hcode]
              refine ⟨by omega, ⟨by omega, by show k ≤ 9223372036854775807; omega⟩, .inr ⟨rfl, c + 1, ?_, ?_⟩⟩
              · simp [tearDisk, ← hfe, htl]
              · have e : torn f k a m = f.take k := by rw [torn, if_neg h0, show k = 0 by omega]; rfl
                simp [tearDisk, ← hfe, e]
            · simp [hfl]
              rw [hcode]
              refine ⟨by omega, ⟨by omega, by show k ≤ 9223372036854775807; omega⟩, .inr ⟨rfl, c, ?_, ?_⟩⟩
              · simp [tearDisk, ← hfe, htl]
              · have e : torn f k a m = f.take k := by rw [torn, if_neg h0, show k = 0 by omega]; rfl
                simp [tearDisk, ← hfe, e]
    · have hib : OkAll [⟨keep, 0, b.length + 3⟩, ⟨mask, 0, 255⟩, ⟨at_, 0, max keep 1 - 1⟩] = false := by rw [tears_iff, decide_eq_false h3]
      have hcode : tearCode d b keep at_ mask = 3 := by rw [tearCode, if_neg h1, if_pos h2, if_neg h3]
      cases hf : firstB d with
      | none =>
        refine fcall_gather [] id fun clk => acall_of_aw Try.func7 rfl ?_
        simp
        refine acall_pure (c_ReadFrames0 d (by omega) hf) (by simp) ?_
        rintro r Hn c ⟨rfl, rfl⟩ _
        simp [jc]
        refine acall_pure (c_PackFrame b hb) (by simp) ?_
        rintro r Hn c h _
        rw [hfc] at h
        rcases h with ⟨h, _⟩ | ⟨_, g1, rfl, rfl⟩
        · exact absurd rfl h
        simp [hfl, wl, wm]
        refine acall_val (c_isTearN keep at_ mask (b.length + 3) (by unfold fits' at hkeep; omega)) (by simp) (by simp) ?_
        rw [hib]
        simp
        rw [hcode]
        exact .inl ⟨by omega, rfl, rfl⟩
      | some b0 =>
        refine fcall_gather [] id fun clk => acall_of_aw Try.func7 rfl ?_
        simp
        refine acall_pure (c_ReadFrames1 d (by omega) hf) (by simp) ?_
        rintro r Hn c ⟨n0, g0, z0, rfl, rfl⟩ _
        simp [jc]
        refine acall_pure (c_PackFrame b hb) (by simp) ?_
        rintro r Hn c h _
        rw [hfc] at h
        rcases h with ⟨h, _⟩ | ⟨_, g1, rfl, rfl⟩
        · exact absurd rfl h
        simp [hfl, wl, wm]
        refine acall_val (c_isTearN keep at_ mask (b.length + 3) (by unfold fits' at hkeep; omega)) (by simp) (by simp) ?_
        rw [hib]
        simp
        rw [hcode]
        exact .inl ⟨by omega, rfl, rfl⟩
  · have hfc : frameCode b = 2 := if_neg h2
    have hcode : tearCode d b keep at_ mask = 2 := by rw [tearCode, if_neg h1, if_neg h2]
    cases hf : firstB d with
    | none =>
      refine fcall_gather [] id fun clk => acall_of_aw Try.func7 rfl ?_
      simp
      refine acall_pure (c_ReadFrames0 d (by omega) hf) (by simp) ?_
      rintro r Hn c ⟨rfl, rfl⟩ _
      simp [jc]
      refine acall_pure (c_PackFrame b hb) (by simp) ?_
      rintro r Hn c h _
      rw [hfc] at h
      rcases h with ⟨_, rfl, rfl⟩ | ⟨h, _⟩
      rotate_left
      · exact absurd h (by omega)
      simp
      rw [hcode]
      exact .inl ⟨by omega, rfl, rfl⟩
    | some b0 =>
      refine fcall_gather [] id fun clk => acall_of_aw Try.func7 rfl ?_
      simp
      refine acall_pure (c_ReadFrames1 d (by omega) hf) (by simp) ?_
      rintro r Hn c ⟨n0, g0, z0, rfl, rfl⟩ _
      simp [jc]
      refine acall_pure (c_PackFrame b hb) (by simp) ?_
      rintro r Hn c h _
      rw [hfc] at h
      rcases h with ⟨_, rfl, rfl⟩ | ⟨h, _⟩
      rotate_left
      · exact absurd h (by omega)
      simp
      rw [hcode]
      exact .inl ⟨by omega, rfl, rfl⟩
end Go.Proofs.Ytcfkmdapadejmaa
