/-
  The law of torn frames.
-/
import Derived.Test.YtcfkmdapadejmaaT3
import Derived.Test.YtcfkmdapadejmaaF6
namespace Go.Proofs.Ytcfkmdapadejmaa
set_option maxRecDepth 100000
set_option linter.unusedSimpArgs false
set_option linter.unusedVariables false
set_option linter.unnecessarySimpa false
open Go Go.Abs Go.Proofs
theorem a_ReadFramesA (d : List UInt8) (hd : d.length ≤ 4000) {args : List AV} {H : AHeap} {c : Nat} {K : AV → AHeap → Nat → Prop} (hs : args.mapM (snapV H) = some [blist d]) (hK : K (frD d) H c) : ACall Try.prog 16 args H c K := by
  cases hf : firstB d with
  | none =>
    have e : frD d = .agg [nc 0, .d (.list 0 []), nc 0] := by
      show frAV (readF d).2 (.d (.list (readF d).1.length (bss (readF d).1))) = _
      rw [readF_none hf]; rfl
    exact acall_froze (c_ReadFrames0 d hd hf) hs (by rintro r Hn ⟨rfl, rfl⟩; exact ⟨_, rfl, by rw [e] at hK; exact hK⟩)
  | some b0 => exact acall_froze (c_ReadFramesX d hd hf) hs fun r Hn h => ⟨_, snap_post h, hK⟩
def tdB (d b : List UInt8) (keep at_ mask : Int) : List UInt8 := if tearCode d b keep at_ mask = 0 then tearDisk d b keep at_ mask else []
abbrev tdV (x : Int) (bs : List UInt8) : AV := .agg [nc x, .d (brow bs)]
theorem td_snap {d b : List UInt8} {keep at_ mask : Int} {r : AV} {H : AHeap} (h : PackPost (tearCode d b keep at_ mask) (tearDisk d b keep at_ mask) r H) : snapV H r = some (tdV (tearCode d b keep at_ mask) (tdB d b keep at_ mask)) := by
  rcases h with ⟨h0, rfl, rfl⟩ | ⟨h0, g, rfl, rfl⟩
  · simp [tdB, h0]
  · simp [tdB, h0]
theorem a_TearDisk (d b : List UInt8) (keep at_ mask : Int) (hd : d.length ≤ 1048576) (hb : b.length ≤ 1048576) (hk : fits' keep) {args : List AV} {H : AHeap} {c : Nat} {K : AV → AHeap → Nat → Prop} (hs : args.mapM (snapV H) = some [blist d, blist b, iv .i64 keep, iv .i64 at_, iv .i64 mask])
    (hK : K (tdV (tearCode d b keep at_ mask) (tdB d b keep at_ mask)) H c) : ACall Try.prog 7 args H c K :=
  acall_froze (c_TearDisk d b keep at_ mask hd hb hk) hs fun r Hn h => ⟨_, td_snap h, hK⟩
theorem q_sTearDisk (d b : List UInt8) (keep at_ mask : Int) (hd : d.length ≤ 1048576) (hb : b.length ≤ 1048576) {args : List AV} {H : AHeap} {K : AV → Prop} (hs : args.mapM (snapV H) = some [blist d, blist b, iv .i64 keep, iv .i64 at_, iv .i64 mask])
    (hK : K (tdV (tearCode d b keep at_ mask) (tdB d b keep at_ mask))) : QCall Try.prog 5 args H K :=
  qcall _ (c_sTearDisk d b keep at_ mask hd hb) hs (fun r Hn h => td_snap h) hK
set_option maxRecDepth 100000 in
set_option maxHeartbeats 2000000 in
theorem c_FnTears (a : List UInt8) : FCall Try.prog 4 [blist a] TT := by
  by_cases ha : a.length ≤ 1048576
  · have ha' : ¬ (1048576 : Int) < a.length := by omega
    refine fcall_gather [] id fun clk => acall_of_aw Try.func4 rfl ?_
    simp
    refine acall_val (c_lwBig a) (by simp) (by simp) ?_
    simp [ha']
    refine acall_pure (c_DrawTearDisk a ha) (by simp) ?_
    rintro r Hn c ⟨g1, n1, g2, d0, b, keep, at_, mask, rfl, h1, h2, h3, hk, rfl⟩ _
    have hm : min n1 d0.length = n1 := Nat.min_eq_left h1
    have hdl : (d0.take n1).length = n1 := by rw [List.length_take, hm]
    simp
    refine a_TearDisk (d0.take n1) b keep at_ mask (by omega) (by omega) hk (by simp [hm, h1]) ?_
    simp
    refine codeOk_drawA mixed (by kernel_rfl) ?_
    simp
    refine q_sTearDisk (d0.take n1) b keep at_ mask (by omega) (by omega) (by simp [hm, h1]) ?_
    simp
    refine q_sTearDisk (d0.take n1) b keep at_ mask (by omega) (by omega) (by simp [hm, h1]) ?_
    simp
    refine qcall_val (c_lwSame (tdB (d0.take n1) b keep at_ mask) (tdB (d0.take n1) b keep at_ mask)) (by simp) (by simp) ?_
    simp
    by_cases h0 : tearCode (d0.take n1) b keep at_ mask = 0
    · have hS := tears_say h0
      have hB : tdB (d0.take n1) b keep at_ mask = tearDisk (d0.take n1) b keep at_ mask := if_pos h0
      have hd4 : n1 ≤ 4000 := by
        unfold tearCode at h0
        split at h0
        · omega
        · omega
      rw [hB, h0]
      generalize hT : tearDisk (d0.take n1) b keep at_ mask = T at hS
      generalize hD : d0.take n1 = D at hS hdl
      simp
      refine a_ReadFramesA D (by omega) (by simp [hm, h1, hD, hdl]) ?_
      simp
      refine a_ReadFramesA T hS.1 (by simp) ?_
      obtain ⟨hT4, hTl, hz, c1, c2, c3⟩ := hS
      have hz1 : (readF D).2 ≤ n1 := by have := readF_size D; omega
      have c1 : mask = 0 → keep = 0 → (readF T).2 = (readF D).2 := fun a b => congrArg Prod.snd (c1 a b)
      have hkn : 0 ≤ keep ∧ keep ≤ 104 := by
        unfold tearCode at h0
        split at h0
        · omega
        split at h0
        · split at h0
          · rename_i h5
            unfold tears at h5
            omega
          · omega
        · omega
      have hm1 : (readF D).1.length ≤ n1 := by have := (readN_small D.length D).1; rw [← hdl]; exact this
      unfold frD frAV
      generalize (readF T).2 = z2 at hz c1 c3 ⊢
      generalize (readF T).1.length = m2 at c2 ⊢
      generalize (readF D).2 = z1 at hz c1 c2 c3 hz1 ⊢
      generalize (readF D).1.length = m1 at c2 hm1 ⊢
      have f1 : IntKind.i64.wrap ((n1 : Int) + keep) = n1 + keep := wrap_i64 (by omega) (by omega)
      have f2 : (T.length : Int) = n1 + keep := by omega
      have f3 : ¬ (z2 : Int) < z1 := by omega
      have f4 : IntKind.i64.wrap ((b.length : Int) + 3) = b.length + 3 := wrap_i64 (by omega) (by omega)
      rw [hdl] at c2 c3
      have f5 : IntKind.i64.wrap ((m1 : Int) + 1) = m1 + 1 := wrap_i64 (by omega) (by omega)
      have f6 : ¬ z2 < z1 := by omega
      by_cases hA : z1 = n1
      · subst hA
        have g1 : ¬ z1 < z1 := by omega
        by_cases hK3 : keep = b.length + 3
        · subst hK3
          by_cases hM : mask = 0
          · subst hM
            have f7 : (m2 : Int) = m1 + 1 := by have := c2 rfl rfl rfl; omega
            simp [f1, f2, f3, f4, f5, f6, f7]
          · by_cases hAt : at_ = 0
            · subst hAt
              simp [f1, f2, f3, f4, f6, hM]
            · have f7 : z2 = z1 := c3 rfl (fun h => hM h.2) (fun h => hAt h.1)
              simp [f1, f2, f3, f4, f6, f7, hM, hAt]
        · by_cases hM : mask = 0
          · subst hM
            have f7 : z2 = z1 := c3 rfl (fun h => hK3 h.1) (fun h => h.2 rfl)
            by_cases hAt : at_ = 0
            · simp [f1, f2, f3, f4, f6, f7, hK3, hAt]
            · simp [f1, f2, f3, f4, f6, f7, hK3, hAt]
          · by_cases hAt : at_ = 0
            · subst hAt
              simp [f1, f2, f3, f4, f6, hM, hK3]
            · have f7 : z2 = z1 := c3 rfl (fun h => hM h.2) (fun h => hAt h.1)
              simp [f1, f2, f3, f4, f6, f7, hM, hAt, hK3]
      · have g1 : z1 < n1 := by omega
        have g2 : (z1 : Int) < n1 := by omega
        have g3 : ¬ (z1 : Int) = n1 := by omega
        by_cases hM : mask = 0
        · by_cases hK0 : keep = 0
          · have f7 : z2 = z1 := c1 hM hK0
            subst hM
            subst hK0
            have f8 : IntKind.i64.wrap (n1 : Int) = n1 := wrap_i64 (by omega) (by omega)
            have f9 : (T.length : Int) = n1 := by omega
            simp [f8, f9, f3, f4, f6, f7, hA, g1, g2, g3]
          · subst hM
            simp [f1, f2, f3, f4, f6, hK0, hA, g1, g2, g3]
        · simp [f1, f2, f3, f4, f6, hM, hA, g1, g2, g3]
    · simp [h0]
  · have ha' : (1048576 : Int) < a.length := by omega
    refine fcall_gather [] id fun clk => acall_of_aw Try.func4 rfl ?_
    simp
    refine acall_val (c_lwBig a) (by simp) (by simp) ?_
    simp [ha']
theorem walk_FnTears {x : AV} (h : OkAV false [.slice [.int .u8]] x) : FCall Try.prog 4 [x] TT := by
  obtain ⟨bs, rfl⟩ := av_bytes h; exact c_FnTears bs
end Go.Proofs.Ytcfkmdapadejmaa
