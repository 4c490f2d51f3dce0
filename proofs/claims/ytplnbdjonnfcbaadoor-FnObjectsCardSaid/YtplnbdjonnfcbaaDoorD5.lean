/-
  The law of objects and writes.
-/
import Derived.Test.YtplnbdjonnfcbaaDoorD3
import Derived.Test.YtplnbdjonnfcbaaDoorD4
import Derived.Test.YtplnbdjonnfcbaaDoorL2
namespace Go.Proofs.YtplnbdjonnfcbaaDoor
set_option maxRecDepth 100000
set_option linter.unusedSimpArgs false
set_option linter.unusedVariables false
set_option linter.unnecessarySimpa false
open Go Go.Abs Go.Proofs
theorem eqVs_no {a b c d : Int} (h : ¬ (a = c ∧ b = d)) : eqVs [.int .i64 a, .int .i64 b] [.int .i64 c, .int .i64 d] = false := by
  rw [Bool.eq_false_iff]
  intro hc
  apply h
  simpa using hc
def encD (w : Wr) : List UInt8 := if wrFault w = 0 then encB w else []
abbrev enV (w : Wr) : AV := .agg [ic (wrFault w), .d (.list (encD w).length (bds (encD w)))]
theorem enc_snap {w : Wr} {e : Nat} {r : AV} {H : AHeap} (h : EncPost w e r H) : snapV H r = some (enV w) := by
  rcases h with ⟨h0, rfl, rfl⟩ | ⟨h0, g, rfl, rfl⟩
  · simp [encD, h0]
  · have ht : List.take 17 (encB w) = encB w := List.take_of_length_le (by rw [encLen]; omega)
    simp [encD, h0, encLen, ht]
theorem encS_snap {w : Wr} {r : AV} {H : AHeap} (h : encPostS w r H) : snapV H r = some (enV w) := by
  rcases h with ⟨h0, rfl, rfl⟩ | ⟨h0, g, rfl, rfl⟩
  · simp [encD, h0]
  · have ht : List.take 17 (encB w) = encB w := List.take_of_length_le (by rw [encLen]; omega)
    simp [encD, h0, encLen, ht]
theorem a_EncodeWrite (w : Wr) {args : List AV} {H : AHeap} {c : Nat} {K : AV → AHeap → Nat → Prop} (hs : args.mapM (snapV H) = some [w.av]) (hK : K (enV w) H c) : ACall Tryd.prog 7 args H c K :=
  acall_froze (c_EncodeWrite w) hs fun r Hn h => ⟨_, enc_snap h, hK⟩
theorem q_EncodeWrite (w : Wr) {args : List AV} {H : AHeap} {K : AV → Prop} (hs : args.mapM (snapV H) = some [w.av]) (hK : K (enV w)) : QCall Tryd.prog 7 args H K :=
  qcall _ (c_EncodeWrite w) hs (fun r Hn h => enc_snap h) hK
theorem q_sEncodeWrite (w : Wr) {args : List AV} {H : AHeap} {K : AV → Prop} (hs : args.mapM (snapV H) = some [w.av]) (hK : K (enV w)) : QCall Tryd.prog 13 args H K :=
  qcall _ (c_sEncodeWrite w) hs (fun r Hn h => encS_snap h) hK
def wr0 : Wr := ⟨0, ⟨0, 0, 0, 0, 0, 0, 0⟩, 0, 0⟩
def decC (bs : List UInt8) : Int := if bs.length = 17 then (if wrFault (decW bs) = 0 then 0 else 5) else 2
def decO (bs : List UInt8) : Wr := if bs.length = 17 ∧ wrFault (decW bs) = 0 then decW bs else wr0
abbrev decV (bs : List UInt8) : AV := .agg (ic (decC bs) :: (decO bs).cells)
theorem decV17 {bs : List UInt8} (h : bs.length = 17) : decR bs = decV bs := by
  unfold decR decV decC decO
  by_cases hf : wrFault (decW bs) = 0 <;> simp [h, hf, wr0]
theorem decVN {bs : List UInt8} (h : ¬ bs.length = 17) : manyR = decV bs := by
  unfold manyR decV decC decO
  simp [h, wr0]
theorem c_DecAny (bs : List UInt8) : FCall Tryd.prog 9 [blist bs] fun r H => r = decV bs ∧ H = [] := by
  by_cases h : bs.length = 17
  · rw [← decV17 h]; exact c_DecodeWrite bs h
  · rw [← decVN h]; exact c_DecodeWriteN bs h
theorem c_sDecAny (bs : List UInt8) : FCall Tryd.prog 14 [blist bs] fun r H => r = decV bs ∧ H = [] := by
  by_cases h : bs.length = 17
  · rw [← decV17 h]; exact c_sDecodeWrite bs h
  · rw [← decVN h]; exact c_sDecodeWriteN bs h
theorem a_DrawDecodeWrite (code : List UInt8) (hc : code.length ≤ 1048576) {H : AHeap} {c : Nat} {K : AV → AHeap → Nat → Prop} (hK : ∀ d : List UInt8, d.length ≤ 17 → K (blist d) H c) : ACall Tryd.prog 8 [blist code] H c K :=
  acall_froze (c_DrawDecodeWrite code hc) (by simp) (by
    rintro r Hn ⟨g1, n1, d, rfl, h1, h2, rfl⟩
    have hm : min n1 d.length = n1 := Nat.min_eq_left h1
    exact ⟨blist (d.take n1), by simp [hm, h1], hK _ (by rw [List.length_take]; omega)⟩)
theorem decC_ok {d : List UInt8} (h : decC d = 0) : encD (decO d) = d ∧ wrFault (decO d) = 0 := by
  unfold decC at h
  split at h
  · rename_i h1
    split at h
    · rename_i h2
      have e : decO d = decW d := if_pos ⟨h1, h2⟩
      rw [e]
      exact ⟨by unfold encD; rw [if_pos h2]; exact enc_dec h1, h2⟩
    · omega
  · omega
theorem dec_ok {w : Wr} (h : wrFault w = 0) : decC (encD w) = 0 ∧ decO (encD w) = w ∧ (encD w).length = 17 := by
  have e : encD w = encB w := if_pos h
  have hd := dec_enc (wrFault_in h).1
  rw [e]
  have hl := encLen w
  unfold decC decO
  rw [if_pos hl, hd, if_pos h, if_pos ⟨hl, h⟩]
  exact ⟨rfl, rfl, hl⟩
set_option maxRecDepth 100000 in
set_option maxHeartbeats 2000000 in
theorem c_FnObjects (a : List UInt8) : FCall Tryd.prog 3 [blist a] TT := by
  by_cases ha : a.length ≤ 1048576
  · have ha' : ¬ (1048576 : Int) < a.length := by omega
    refine fcall_gather [] id fun clk => acall_of_aw Tryd.func3 rfl ?_
    simp
    refine acall_val (c_lwBig a) (by simp) (by simp) ?_
    simp [ha']
    refine acall_pure (c_DrawEncodeWrite a ha) (by simp) ?_
    rintro r Hn c ⟨⟨w, rfl⟩, rfl⟩ _
    simp
    refine a_EncodeWrite w (by simp) ?_
    simp
    refine a_DrawDecodeWrite a ha fun d hd => ?_
    simp
    refine acall_val (c_DecAny d) (by simp) (by simp) ?_
    simp
    refine acall_pure (c_DrawObjectFault a ha) (by simp) ?_
    rintro r Hn c ⟨⟨o, rfl⟩, rfl⟩ _
    simp
    refine acall_pure (c_DrawPodId a ha) (by simp) ?_
    rintro r Hn c ⟨k, ow, ix, rfl, hk, ho, hi, rfl⟩ _
    simp
    refine acall_val (c_PodId k ow ix) (by simp) (by simp) ?_
    simp
    refine codeOk_drawA mixed (by kernel_rfl) ?_
    simp
    refine q_sEncodeWrite w (by simp) ?_
    simp
    refine qcall_val (c_sDecAny d) (by simp) (by simp) ?_
    simp
    refine qcall_val (c_ObjectFault o) (by simp) (by simp) ?_
    simp
    refine qcall_val (c_sObjectFault o) (by simp) (by simp) ?_
    simp
    refine qcall_val (c_sPodId k ow ix) (by simp) (by simp) ?_
    simp
    refine qcall_val (c_WriteFault w) (by simp) (by simp) ?_
    simp
    refine qcall_val (c_sWriteFault w) (by simp) (by simp) ?_
    simp
    refine codeOk_drawA mixed (by kernel_rfl) ?_
    have hdec := fun h => decC_ok (d := d) h
    have henc := fun h => dec_ok (w := w) h
    have hpod : podCode k ow ix = 0 → obFault ⟨3, podVal k ow ix, k, ow, ix, 0, 0⟩ = 0 ∧ IntKind.i64.wrap (ix + 1) = ix + 1 ∧ IntKind.i64.wrap (3 - k) = 3 - k ∧ IntKind.i64.wrap (ow + 1) = ow + 1 ∧
        ¬ (podCode k ow (ix + 1) = 0 ∧ podVal k ow (ix + 1) = podVal k ow ix) ∧ ¬ (podCode (3 - k) ow ix = 0 ∧ podVal (3 - k) ow ix = podVal k ow ix) ∧
        ∃ m : Int, (ow + 1).tmod 20 = m ∧ IntKind.i64.wrap m = m ∧ ¬ (podCode k m ix = 0 ∧ podVal k m ix = podVal k ow ix) := by
      intro hp
      obtain ⟨p1, p2, p3, p4⟩ := pod_ok hp
      have hm := most_pos k
      have hmod : (ow + 1).tmod 20 = (ow + 1) % 20 := Int.tmod_eq_emod_of_nonneg (by omega)
      have n1 := pod_other (k' := k) (w' := ow) (i' := ix + 1) hp (by omega)
      have n2 := pod_other (k' := 3 - k) (w' := ow) (i' := ix) hp (by omega)
      have n3 := pod_other (k' := k) (w' := (ow + 1) % 20) (i' := ix) hp (by omega)
      rw [hp] at n1 n2 n3
      exact ⟨newPod_ok hp, wrap_i64 (by omega) (by omega), wrap_i64 (by omega) (by omega), wrap_i64 (by omega) (by omega), n1, n2, _, hmod, wrap_i64 (by omega) (by omega), n3⟩
    by_cases hd0 : decC d = 0 <;> by_cases hw : wrFault w = 0
    all_goals first
      | (have e1 : decC d = 0 := hd0
         have e2 : wrFault w = 0 := hw
         obtain ⟨hE, hF⟩ := hdec e1
         obtain ⟨g1, g2, g3⟩ := henc e2
         simp [hd0, hw]
         refine q_EncodeWrite (decO d) (by simp) ?_
         simp
         refine qcall_val (c_lwSame (encD (decO d)) d) (by simp) (by simp) ?_
         simp [hE]
         refine qcall_val (c_DecAny (encD w)) (by simp) (by simp) ?_
         simp [g1, g2, g3])
      | (have e1 : decC d = 0 := hd0
         obtain ⟨hE, hF⟩ := hdec e1
         simp [hd0, hw]
         refine q_EncodeWrite (decO d) (by simp) ?_
         simp
         refine qcall_val (c_lwSame (encD (decO d)) d) (by simp) (by simp) ?_
         simp [hE, hw])
      | (have e2 : wrFault w = 0 := hw
         obtain ⟨g1, g2, g3⟩ := henc e2
         simp [hd0, hw]
         refine qcall_val (c_DecAny (encD w)) (by simp) (by simp) ?_
         simp [g1, g2, g3])
      | simp [hd0, hw]
    all_goals intro hp
    all_goals obtain ⟨f0, w1, w2, w3, n1, n2, m, hm, w4, n3⟩ := hpod hp
    all_goals have e1 : eqVs [.int .i64 (podCode k ow (ix + 1)), .int .i64 (podVal k ow (ix + 1))] [.int .i64 0, .int .i64 (podVal k ow ix)] = false := eqVs_no n1
    all_goals have e2 : eqVs [.int .i64 (podCode (3 - k) ow ix), .int .i64 (podVal (3 - k) ow ix)] [.int .i64 0, .int .i64 (podVal k ow ix)] = false := eqVs_no n2
    all_goals have e3 : eqVs [.int .i64 (podCode k m ix), .int .i64 (podVal k m ix)] [.int .i64 0, .int .i64 (podVal k ow ix)] = false := eqVs_no n3
    all_goals refine codeOk_drawA mixed (by kernel_rfl) ?_
    all_goals simp
    all_goals refine qcall_val (c_NewPod k ow ix) (by simp) (by simp) ?_
    all_goals simp
    all_goals refine qcall_val (c_ObjectFault ⟨3, podVal k ow ix, k, ow, ix, 0, 0⟩) (by simp) (by simp) ?_
    all_goals simp [f0]
    all_goals refine qcall_val (c_NewPod k ow ix) (by simp) (by simp) ?_
    all_goals simp [w1, w2, w3, hm, w4]
    all_goals refine qcall_val (c_PodId k ow (ix + 1)) (by simp) (by simp) ?_
    all_goals simp [-eqVs, -eqV, hp, w1, w2, w3, hm, w4, e1]
    all_goals refine qcall_val (c_PodId (3 - k) ow ix) (by simp) (by simp) ?_
    all_goals simp [-eqVs, -eqV, hp, w1, w2, w3, hm, w4, e2]
    all_goals refine qcall_val (c_PodId k m ix) (by simp) (by simp) ?_
    all_goals simp [-eqVs, -eqV, hp, w1, w2, w3, hm, w4, e3]
  · have ha' : (1048576 : Int) < a.length := by omega
    refine fcall_gather [] id fun clk => acall_of_aw Tryd.func3 rfl ?_
    simp
    refine acall_val (c_lwBig a) (by simp) (by simp) ?_
    simp [ha']
theorem walk_FnObjects {x : AV} (h : OkAV false [.slice [.int .u8]] x) : FCall Tryd.prog 3 [x] TT := by
  obtain ⟨bs, rfl⟩ := av_bytes h; exact c_FnObjects bs
end Go.Proofs.YtplnbdjonnfcbaaDoor
