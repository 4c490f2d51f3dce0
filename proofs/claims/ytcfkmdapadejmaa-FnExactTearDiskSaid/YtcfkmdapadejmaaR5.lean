/-
  The law of TearDisk.
-/
import Derived.Test.YtcfkmdapadejmaaR4
import Derived.Test.YtcfkmdapadejmaaW11
import Derived.Test.YtcfkmdapadejmaaA2
namespace Go.Proofs.Ytcfkmdapadejmaa
set_option maxRecDepth 100000
set_option linter.unusedSimpArgs false
set_option linter.unusedVariables false
set_option linter.unnecessarySimpa false
open Go Go.Abs Go.Proofs

theorem tearDisk_short {d b : List UInt8} {keep at_ mask : Int} (h : tearCode d b keep at_ mask = 0) : (tearDisk d b keep at_ mask).length ≤ 1048576 := by
  unfold tearCode at h
  split at h
  · omega
  split at h
  · split at h
    · rename_i h3
      split at h
      · omega
      · rename_i h4
        unfold tears at h3
        rw [tearDisk, List.length_append, torn_length _ _ _ (by rw [frame_length]; omega)]
        omega
    · omega
  · omega
set_option maxRecDepth 100000 in
set_option maxHeartbeats 1000000 in
theorem c_FnExactTearDisk (a b : List UInt8) (keep at_ mask : Int) (hkeep : fits' keep) : FCall Try.prog 3 [blist a, blist b, iv .i64 keep, iv .i64 at_, iv .i64 mask] fun r H => r = bv true ∧ H = [] := by
  by_cases ha : a.length ≤ 1048576
  · have ha' : (a.length : Int) ≤ 1048576 := by omega
    have hpa : (0 : Int) ≤ 1 + a.length := by omega
    by_cases hb : b.length ≤ 1048576
    · have hb' : (b.length : Int) ≤ 1048576 := by omega
      have hpb : (0 : Int) ≤ 1 + a.length + b.length := by omega
      have hpc : ¬ (1 + (a.length : Int) + b.length < 0) := by omega
      have k29 := c_sTearDisk a b keep at_ mask ha hb
      have k26 := c_TearDisk a b keep at_ mask ha hb hkeep
      have hlen := @tearDisk_short a b keep at_ mask
      obtain ⟨x, hx⟩ : ∃ x, x = tearCode a b keep at_ mask := ⟨_, rfl⟩
      obtain ⟨bs, hbs⟩ : ∃ bs, bs = tearDisk a b keep at_ mask := ⟨_, rfl⟩
      rw [← hx, ← hbs] at k29 k26 hlen
      clear hbs hx
      by_cases h0 : x = 0
      · have hl := hlen h0
        clear hlen
        subst h0
        have hp : (0 : Int) ≤ 1 + bs.length := by omega
        refine fcall_gather [] id fun clk => acall_of_aw Try.func3 rfl ?_
        simp [ha', hb']
        refine acall_pure (c_toByteS a ha) (by simp) ?_
        rintro r Hn c ⟨g, rfl, rfl⟩ _
        simp
        refine acall_pure (c_toByteS b hb) (by simp) ?_
        rintro r Hn c ⟨g', rfl, rfl⟩ _
        simp
        refine acall_pure k29 (by simp) ?_
        rintro r Hn c (⟨h, _⟩ | ⟨_, g1, rfl, rfl⟩) _
        · exact absurd rfl h
        simp
        refine acall_pure (c_toByteS a ha) (by simp) ?_
        rintro r Hn c ⟨g2, rfl, rfl⟩ _
        simp
        refine acall_pure (c_toByteS b hb) (by simp) ?_
        rintro r Hn c ⟨g2', rfl, rfl⟩ _
        simp
        refine acall_pure k26 (by simp) ?_
        rintro r Hn c (⟨h, _⟩ | ⟨_, g3, rfl, rfl⟩) _
        · exact absurd rfl h
        simp
        refine acall_pure (c_eqBytesResult 0 0 bs bs hl) (by simp) ?_
        rintro r Hn c ⟨rfl, rfl⟩ _
        simp [hpa, hpb]
        refine acall_pure (c_toByteS a ha) (by simp) ?_
        rintro r Hn c ⟨g4, rfl, rfl⟩ _
        simp
        refine acall_pure (c_eqByteS a a ha) (by simp) ?_
        rintro r Hn c ⟨rfl, rfl⟩ _
        simp
        refine acall_pure (c_toByteS b hb) (by simp) ?_
        rintro r Hn c ⟨g4', rfl, rfl⟩ _
        simp
        refine acall_pure (c_eqByteS b b hb) (by simp) ?_
        rintro r Hn c ⟨rfl, rfl⟩ _
        simp
        refine acall_ref (k := 4) (c_markByteS (e := 5) a 1 g2 ha (by omega)) (by simp) (by simp) ?_
        rintro r B Hn c ⟨rfl, rfl, rfl⟩ _
        simp
        refine acall_ref (k := 5) (c_markByteS (e := 5) b (1 + a.length) g2' hb (by omega)) (by simp) (by simp) ?_
        rintro r B Hn c ⟨rfl, rfl, rfl⟩ _
        simp [hpa, hpb, hpc]
        refine acall_pure (c_eqBytesResult 0 0 bs bs hl) (by simp) ?_
        rintro r Hn c ⟨rfl, rfl⟩ _
        simp [hpa, hpb]
        refine acall_ref (k := 6) (c_markBytesResult (e := 5) 0 bs 1 g3 hl (by omega)) (by simp) (by simp) ?_
        rintro r B Hn c ⟨rfl, rfl, rfl⟩ _
        simp
        refine acall_pure (c_heldBytesResult 0 1 bs.length hl (by omega)) (by simp [marks_length]) ?_
        rintro r Hn c ⟨rfl, rfl⟩ _
        simp [hp]
        refine acall_pure (c_toByteS a ha) (by simp) ?_
        rintro r Hn c ⟨g5, rfl, rfl⟩ _
        simp
        refine acall_pure (c_toByteS b hb) (by simp) ?_
        rintro r Hn c ⟨g5', rfl, rfl⟩ _
        simp
        refine acall_pure k26 (by simp) ?_
        rintro r Hn c (⟨h, _⟩ | ⟨_, g6, rfl, rfl⟩) _
        · exact absurd rfl h
        simp
        refine acall_pure (c_eqBytesResult 0 0 bs bs hl) (by simp) ?_
        rintro r Hn c ⟨rfl, rfl⟩ _
        simp [hpa, hpb]
        refine acall_pure (c_heldBytesResult 0 1 bs.length hl (by omega)) (by simp [marks_length]) ?_
        rintro r Hn c ⟨rfl, rfl⟩ _
        simp [hp]
      · clear hlen
        refine fcall_gather [] id fun clk => acall_of_aw Try.func3 rfl ?_
        simp [ha', hb']
        refine acall_pure (c_toByteS a ha) (by simp) ?_
        rintro r Hn c ⟨g, rfl, rfl⟩ _
        simp
        refine acall_pure (c_toByteS b hb) (by simp) ?_
        rintro r Hn c ⟨g', rfl, rfl⟩ _
        simp
        refine acall_pure k29 (by simp) ?_
        rintro r Hn c (⟨_, rfl, rfl⟩ | ⟨h, _⟩) _
        rotate_left
        · exact absurd h h0
        simp
        refine acall_pure (c_toByteS a ha) (by simp) ?_
        rintro r Hn c ⟨g2, rfl, rfl⟩ _
        simp
        refine acall_pure (c_toByteS b hb) (by simp) ?_
        rintro r Hn c ⟨g2', rfl, rfl⟩ _
        simp
        refine acall_pure k26 (by simp) ?_
        rintro r Hn c (⟨_, rfl, rfl⟩ | ⟨h, _⟩) _
        rotate_left
        · exact absurd h h0
        simp
        refine acall_pure (c_eqBytesResult x x [] [] (by simp)) (by simp) ?_
        rintro r Hn c ⟨rfl, rfl⟩ _
        simp [hpa, hpb]
        refine acall_pure (c_toByteS a ha) (by simp) ?_
        rintro r Hn c ⟨g4, rfl, rfl⟩ _
        simp
        refine acall_pure (c_eqByteS a a ha) (by simp) ?_
        rintro r Hn c ⟨rfl, rfl⟩ _
        simp
        refine acall_pure (c_toByteS b hb) (by simp) ?_
        rintro r Hn c ⟨g4', rfl, rfl⟩ _
        simp
        refine acall_pure (c_eqByteS b b hb) (by simp) ?_
        rintro r Hn c ⟨rfl, rfl⟩ _
        simp
        refine acall_ref (k := 3) (c_markByteS (e := 5) a 1 g2 ha (by omega)) (by simp) (by simp) ?_
        rintro r B Hn c ⟨rfl, rfl, rfl⟩ _
        simp
        refine acall_ref (k := 4) (c_markByteS (e := 5) b (1 + a.length) g2' hb (by omega)) (by simp) (by simp) ?_
        rintro r B Hn c ⟨rfl, rfl, rfl⟩ _
        simp [hpa, hpb, hpc]
        refine acall_pure (c_eqBytesResult x x [] [] (by simp)) (by simp) ?_
        rintro r Hn c ⟨rfl, rfl⟩ _
        simp [hpa, hpb]
        refine acall_pure (c_markBytesResultn x 1) (by simp) ?_
        rintro r Hn c ⟨rfl, rfl⟩ _
        simp
        refine acall_pure (c_heldBytesResult x 1 0 (by omega) (by omega)) (by simp [marks]) ?_
        rintro r Hn c ⟨rfl, rfl⟩ _
        simp
        refine acall_pure (c_toByteS a ha) (by simp) ?_
        rintro r Hn c ⟨g5, rfl, rfl⟩ _
        simp
        refine acall_pure (c_toByteS b hb) (by simp) ?_
        rintro r Hn c ⟨g5', rfl, rfl⟩ _
        simp
        refine acall_pure k26 (by simp) ?_
        rintro r Hn c (⟨_, rfl, rfl⟩ | ⟨h, _⟩) _
        rotate_left
        · exact absurd h h0
        simp
        refine acall_pure (c_eqBytesResult x x [] [] (by simp)) (by simp) ?_
        rintro r Hn c ⟨rfl, rfl⟩ _
        simp [hpa, hpb]
        refine acall_pure (c_heldBytesResult x 1 0 (by omega) (by omega)) (by simp [marks]) ?_
        rintro r Hn c ⟨rfl, rfl⟩ _
        simp
    · have hb' : ¬ (b.length : Int) ≤ 1048576 := by omega
      refine fcall_gather [] id fun clk => acall_of_aw Try.func3 rfl ?_
      simp [ha', hb']
  · have ha' : ¬ (a.length : Int) ≤ 1048576 := by omega
    refine fcall_gather [] id fun clk => acall_of_aw Try.func3 rfl ?_
    simp [ha']
theorem walk_FnExactTearDisk {x y z u v : AV} (h : OkAV false [.slice [.int .u8]] x) (h1 : OkAV false [.slice [.int .u8]] y) (h2 : OkAV false [.int .i64] z) (h3 : OkAV false [.int .i64] u) (h4 : OkAV false [.int .i64] v) : FCall Try.prog 3 [x, y, z, u, v] TT := by
  obtain ⟨a, rfl⟩ := av_bytes h; obtain ⟨b, rfl⟩ := av_bytes h1; obtain ⟨k, rfl, hk⟩ := av_int h2; obtain ⟨m, rfl, _⟩ := av_int h3; obtain ⟨n, rfl, _⟩ := av_int h4
  exact c_FnExactTearDisk a b k m n hk
end Go.Proofs.Ytcfkmdapadejmaa
