/-
  The laws of writes as bytes.
-/
import Derived.Test.YtceafhcjiichfaaDoorA2
import Derived.Test.YtceafhcjiichfaaDoorE3
import Derived.Test.YtceafhcjiichfaaDoorW8
namespace Go.Proofs.YtceafhcjiichfaaDoor
set_option linter.unusedSimpArgs false
set_option linter.unusedVariables false
set_option linter.unnecessarySimpa false
open Go Go.Abs Go.Proofs
@[simp] theorem encB_take (w : Wr) : (encB w).take 17 = encB w := List.take_of_length_le (by rw [encLen]; omega)
set_option maxRecDepth 100000 in
theorem law_EncodeWrite (w : Wr) : FCall Tryd.prog 4 [w.av] TT := by
  have hl : (encB w).length ≤ 1048576 := by rw [encLen]; omega
  by_cases h0 : wrFault w = 0
  · refine fcall_gather [] id fun clk => acall_of_aw Tryd.func4 rfl ?_
    simp
    refine acall_val (c_toWrite w) (by simp) (by simp) ?_
    simp
    refine acall_pure (c_sEncodeWrite w) (by simp) ?_
    rintro r Hn c (⟨h, _⟩ | ⟨_, g, rfl, rfl⟩) _
    · exact absurd h0 h
    simp
    refine acall_val (c_toWrite w) (by simp) (by simp) ?_
    simp
    refine acall_pure (c_EncodeWrite w) (by simp) ?_
    rintro r Hn c (⟨h, _⟩ | ⟨_, g2, rfl, rfl⟩) _
    · exact absurd h0 h
    simp
    refine acall_pure (c_eqBytesResult 0 0 (encB w) (encB w) hl) (by simp [encLen]) ?_
    rintro r Hn c ⟨rfl, rfl⟩ _
    simp
    refine acall_ref (k := 3) (c_markBytesResult (e := 56) 0 (encB w) 1 g2 hl (by omega)) (by simp [encLen]) (by simp) ?_
    rintro r B Hn c ⟨rfl, rfl, rfl⟩ _
    simp [encLen]
    refine acall_pure (c_heldBytesResult 0 1 17 (by omega) (by omega)) (by simp [marks_length]) ?_
    rintro r Hn c ⟨rfl, rfl⟩ _
    simp
    refine acall_val (c_toWrite w) (by simp) (by simp) ?_
    simp
    refine acall_pure (c_EncodeWrite w) (by simp) ?_
    rintro r Hn c (⟨h, _⟩ | ⟨_, g3, rfl, rfl⟩) _
    · exact absurd h0 h
    simp
    refine acall_pure (c_eqBytesResult 0 0 (encB w) (encB w) hl) (by simp [encLen]) ?_
    rintro r Hn c ⟨rfl, rfl⟩ _
    simp
    refine acall_pure (c_heldBytesResult 0 1 17 (by omega) (by omega)) (by simp [marks_length]) ?_
    rintro r Hn c ⟨rfl, rfl⟩ _
    simp
  · refine fcall_gather [] id fun clk => acall_of_aw Tryd.func4 rfl ?_
    simp
    refine acall_val (c_toWrite w) (by simp) (by simp) ?_
    simp
    refine acall_pure (c_sEncodeWrite w) (by simp) ?_
    rintro r Hn c (⟨_, rfl, rfl⟩ | ⟨h, _⟩) _
    rotate_left
    · exact absurd h h0
    simp
    refine acall_val (c_toWrite w) (by simp) (by simp) ?_
    simp
    refine acall_pure (c_EncodeWrite w) (by simp) ?_
    rintro r Hn c (⟨_, rfl, rfl⟩ | ⟨h, _⟩) _
    rotate_left
    · exact absurd h h0
    simp
    refine acall_pure (c_eqBytesResult (wrFault w) (wrFault w) [] [] (by simp)) (by simp) ?_
    rintro r Hn c ⟨rfl, rfl⟩ _
    simp
    refine acall_pure (c_markBytesResultn (wrFault w) 1) (by simp) ?_
    rintro r Hn c ⟨rfl, rfl⟩ _
    simp
    refine acall_pure (c_heldBytesResult (wrFault w) 1 0 (by omega) (by omega)) (by simp [marks]) ?_
    rintro r Hn c ⟨rfl, rfl⟩ _
    simp
    refine acall_val (c_toWrite w) (by simp) (by simp) ?_
    simp
    refine acall_pure (c_EncodeWrite w) (by simp) ?_
    rintro r Hn c (⟨_, rfl, rfl⟩ | ⟨h, _⟩) _
    rotate_left
    · exact absurd h h0
    simp
    refine acall_pure (c_eqBytesResult (wrFault w) (wrFault w) [] [] (by simp)) (by simp) ?_
    rintro r Hn c ⟨rfl, rfl⟩ _
    simp
    refine acall_pure (c_heldBytesResult (wrFault w) 1 0 (by omega) (by omega)) (by simp [marks]) ?_
    rintro r Hn c ⟨rfl, rfl⟩ _
    simp
set_option maxRecDepth 100000 in
theorem law_DecodeWrite (bs : List UInt8) : FCall Tryd.prog 5 [blist bs] TT := by
  refine fcall_gather [] id fun clk => acall_of_aw Tryd.func5 rfl ?_
  by_cases hc : bs.length ≤ 1048576
  · have hc' : ¬ (1048576 : Int) < bs.length := by omega
    simp [hc']
    refine acall_pure (c_toByteS bs hc) (by simp) ?_
    rintro r Hn c ⟨g, rfl, rfl⟩ _
    simp
    obtain ⟨x, wv, hx, hs, hi⟩ : ∃ (x : Int) (wv : Wr), True ∧ (FCall Tryd.prog 15 [blist bs] fun r H => r = .agg (ic x :: wv.cells) ∧ H = []) ∧ (FCall Tryd.prog 10 [blist bs] fun r H => r = .agg (ic x :: wv.cells) ∧ H = []) := by
      by_cases hb : bs.length = 17
      · have h1 := c_sDecodeWrite bs hb
        have h2 := c_DecodeWrite bs hb
        by_cases hf : wrFault (decW bs) = 0
        · exact ⟨0, decW bs, trivial, by simpa [decR, hf] using h1, by simpa [decR, hf] using h2⟩
        · exact ⟨5, ⟨0, ⟨0, 0, 0, 0, 0, 0, 0⟩, 0, 0⟩, trivial, by simpa [decR, hf] using h1, by simpa [decR, hf] using h2⟩
      · exact ⟨2, ⟨0, ⟨0, 0, 0, 0, 0, 0, 0⟩, 0, 0⟩, trivial, c_sDecodeWriteN bs hb, c_DecodeWriteN bs hb⟩
    refine acall_val hs (by simp) (by simp) ?_
    simp
    refine acall_pure (c_toByteS bs hc) (by simp) ?_
    rintro r Hn c ⟨g, rfl, rfl⟩ _
    simp
    refine acall_val hi (by simp) (by simp) ?_
    simp
    refine acall_val (c_eqWriteResult x x wv wv) (by simp) (by simp) ?_
    simp
    refine acall_pure (c_toByteS bs hc) (by simp) ?_
    rintro r Hn c ⟨g, rfl, rfl⟩ _
    simp
    refine acall_val (c_eqByteS bs bs hc) (by simp) (by simp) ?_
    simp
  · have hc' : (1048576 : Int) < bs.length := by omega
    simp [hc']
theorem walk_FnExactEncodeWrite {x : AV} (h : OkAV true [.int .i64, .int .i64, .int .i64, .int .i64, .int .i64, .int .i64, .int .i64, .int .i64, .int .i64, .int .i64] x) : FCall Tryd.prog 4 [x] TT := by
  obtain ⟨w, rfl, _⟩ := av_wr h; exact law_EncodeWrite w
theorem walk_FnExactDecodeWrite {x : AV} (h : OkAV false [.slice [.int .u8]] x) : FCall Tryd.prog 5 [x] TT := by
  obtain ⟨bs, rfl⟩ := av_bytes h; exact law_DecodeWrite bs
end Go.Proofs.YtceafhcjiichfaaDoor
