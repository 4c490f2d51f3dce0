/-
  The law of frames.
-/
import Derived.Test.YtplnbdjonnfcbaaT5
import Derived.Test.YtplnbdjonnfcbaaK6
namespace Go.Proofs.Ytplnbdjonnfcbaa
set_option maxRecDepth 100000
set_option linter.unusedSimpArgs false
set_option linter.unusedVariables false
set_option linter.unnecessarySimpa false
open Go Go.Abs Go.Proofs
def rfX (d : List UInt8) : Int := if d.length ≤ 4000 then 0 else 2
def rfL (d : List UInt8) : List (List UInt8) := if d.length ≤ 4000 then (readF d).1 else []
def rfZ (d : List UInt8) : Nat := if d.length ≤ 4000 then (readF d).2 else 0
abbrev rfV (d : List UInt8) : AV := .agg [nc (rfX d), .d (.list (rfL d).length (bss (rfL d))), nc (rfZ d)]
theorem rfV_short {d : List UInt8} (h : d.length ≤ 4000) : frD d = rfV d := by
  show frAV (readF d).2 (.d (.list (readF d).1.length (bss (readF d).1))) = _
  unfold rfV rfX rfL rfZ
  rw [if_pos h, if_pos h, if_pos h]
theorem rfV_long {d : List UInt8} (h : 4000 < d.length) : rfV d = .agg [nc 2, .d (.list 0 []), nc 0] := by
  unfold rfV rfX rfL rfZ
  rw [if_neg (by omega), if_neg (by omega), if_neg (by omega)]; rfl
theorem a_ReadAny (d : List UInt8) {args : List AV} {H : AHeap} {c : Nat} {K : AV → AHeap → Nat → Prop} (hs : args.mapM (snapV H) = some [blist d]) (hK : K (rfV d) H c) : ACall Try.prog 15 args H c K := by
  by_cases hd : d.length ≤ 4000
  · exact a_ReadFramesA d hd hs (by rw [rfV_short hd]; exact hK)
  · exact acall_froze (c_ReadFramesM d (by omega)) hs (by rintro r Hn ⟨rfl, rfl⟩; exact ⟨.agg [nc 2, .d (.list 0 []), nc 0], rfl, by rw [← rfV_long (d := d) (by omega)]; exact hK⟩)
theorem q_sReadAny (d : List UInt8) {args : List AV} {H : AHeap} {K : AV → Prop} (hs : args.mapM (snapV H) = some [blist d]) (hK : K (rfV d)) : QCall Try.prog 19 args H K := by
  by_cases hd : d.length ≤ 4000
  · exact qcall _ (c_sReadFramesX d hd) hs (fun r Hn h => snap_post h) (by rw [rfV_short hd]; exact hK)
  · exact qcall (.agg [nc 2, .d (.list 0 []), nc 0]) (c_sReadFramesM' d (by omega)) hs (by rintro r Hn ⟨rfl, rfl⟩; rfl) (by rw [← rfV_long (d := d) (by omega)]; exact hK)
def pkB (b : List UInt8) : List UInt8 := if frameCode b = 0 then frame b else []
abbrev pkV (b : List UInt8) : AV := .agg [nc (frameCode b), .d (brow (pkB b))]
theorem pk_snap {b : List UInt8} {r : AV} {H : AHeap} (h : PackPost (frameCode b) (frame b) r H) : snapV H r = some (pkV b) := by
  rcases h with ⟨h0, rfl, rfl⟩ | ⟨h0, g, rfl, rfl⟩
  · simp [pkB, h0]
  · simp [pkB, h0]
theorem a_PackFrameA (b : List UInt8) (hb : b.length ≤ 1048576) {args : List AV} {H : AHeap} {c : Nat} {K : AV → AHeap → Nat → Prop} (hs : args.mapM (snapV H) = some [blist b]) (hK : K (pkV b) H c) : ACall Try.prog 17 args H c K :=
  acall_froze (c_PackFrame b hb) hs fun r Hn h => ⟨_, pk_snap h, hK⟩
theorem q_sPackFrame (b : List UInt8) (hb : b.length ≤ 1048576) {args : List AV} {H : AHeap} {K : AV → Prop} (hs : args.mapM (snapV H) = some [blist b]) (hK : K (pkV b)) : QCall Try.prog 20 args H K :=
  qcall _ (c_sPackFrame b hb) hs (fun r Hn h => pk_snap h) hK
abbrev smV (b : List UInt8) : AV := .agg [nc (sumCode b), nc (sumVal b)]
theorem q_SumOf (b : List UInt8) {args : List AV} {H : AHeap} {K : AV → Prop} (hs : args.mapM (snapV H) = some [blist b]) (hK : K (smV b)) : QCall Try.prog 21 args H K :=
  qcall (smV b) (c_SumOf b) hs (fun r Hn h => by obtain ⟨rfl, rfl⟩ := h.eq; rfl) hK
theorem q_sSumOf (b : List UInt8) {args : List AV} {H : AHeap} {K : AV → Prop} (hs : args.mapM (snapV H) = some [blist b]) (hK : K (smV b)) : QCall Try.prog 22 args H K :=
  qcall (smV b) (c_sSumOf b) hs (fun r Hn h => by obtain ⟨rfl, rfl⟩ := h.eq; rfl) hK
theorem a_DrawReadFrames (code : List UInt8) (hc : code.length ≤ 1048576) {H : AHeap} {c : Nat} {K : AV → AHeap → Nat → Prop} (hK : ∀ D : List UInt8, D.length ≤ 5000 → K (blist D) H c) : ACall Try.prog 14 [blist code] H c K :=
  acall_froze (c_DrawReadFrames code hc) (by simp) (by
    rintro r Hn ⟨g1, n1, d, rfl, h1, h2, rfl⟩
    have hm : min n1 d.length = n1 := Nat.min_eq_left h1
    exact ⟨blist (d.take n1), by simp [hm, h1], hK _ (by rw [List.length_take]; omega)⟩)
theorem a_DrawPackFrame (code : List UInt8) (hc : code.length ≤ 1048576) {H : AHeap} {c : Nat} {K : AV → AHeap → Nat → Prop} (hK : ∀ b : List UInt8, b.length ≤ 101 → K (blist b) H c) : ACall Try.prog 16 [blist code] H c K :=
  acall_froze (c_DrawPackFrame code hc) (by simp) (by rintro r Hn ⟨g1, b, rfl, h1, rfl⟩; exact ⟨blist b, by simp, hK b h1⟩)
theorem a_DrawSumOf (code : List UInt8) (hc : code.length ≤ 1048576) {H : AHeap} {c : Nat} {K : AV → AHeap → Nat → Prop} (hK : ∀ b : List UInt8, b.length ≤ 4001 → K (blist b) H c) : ACall Try.prog 18 [blist code] H c K :=
  acall_froze (c_DrawSumOf code hc) (by simp) (by rintro r Hn ⟨g1, b, rfl, h1, rfl⟩; exact ⟨blist b, by simp, hK b h1⟩)
def pkAll (L : List (List UInt8)) : List UInt8 := (L.map frame).flatten
theorem pkAll_snoc (L : List (List UInt8)) (b : List UInt8) : pkAll (L ++ [b]) = pkAll L ++ frame b := by simp [pkAll]
theorem frames_len {L : List (List UInt8)} (h : ∀ b ∈ L, 1 ≤ b.length ∧ b.length ≤ 100) : (pkAll L).length ≤ 103 * L.length := by
  unfold pkAll
  induction L with
  | nil => simp
  | cons b t ih =>
    have h1 := ih fun b hb => h b (by simp [hb])
    have h2 := h b (by simp)
    rw [List.map_cons, List.flatten_cons, List.length_append, frame_length, List.length_cons]
    omega
set_option maxRecDepth 100000 in
set_option maxHeartbeats 2000000 in
theorem c_FnFrames (a : List UInt8) : FCall Try.prog 3 [blist a] TT := by
  by_cases ha : a.length ≤ 1048576
  · have ha' : ¬ (1048576 : Int) < a.length := by omega
    refine fcall_gather [] id fun clk => acall_of_aw Try.func3 rfl ?_
    simp
    refine acall_val (c_lwBig a) (by simp) (by simp) ?_
    simp [ha']
    refine a_DrawReadFrames a ha fun D hD5 => ?_
    simp
    refine a_ReadAny D (by simp) ?_
    simp
    refine a_DrawPackFrame a ha fun b hb => ?_
    simp
    refine a_PackFrameA b (by omega) (by simp) ?_
    simp
    refine a_DrawSumOf a ha fun s hs => ?_
    simp
    refine codeOk_drawA mixed (by kernel_rfl) ?_
    simp
    refine q_sReadAny D (by simp) ?_
    simp
    refine q_sReadAny D (by simp) ?_
    simp
    refine q_sReadAny D (by simp) ?_
    simp
    refine q_sPackFrame b (by omega) (by simp) ?_
    simp
    refine q_SumOf s (by simp) ?_
    simp
    refine q_sSumOf s (by simp) ?_
    simp
    have hF := frame_length b
    refine ⟨fun hX => ?_, fun hX => ?_⟩
    · have hD : D.length ≤ 4000 := by
        unfold rfX at hX
        split at hX
        · assumption
        · omega
      have hb1 : ∀ x ∈ rfL D, 1 ≤ x.length ∧ x.length ≤ 100 := by
        unfold rfL; rw [if_pos hD]; exact readF_bodies D.length D (Nat.le_refl _)
      have hfl : pkAll (rfL D) = D.take (rfZ D) := by
        unfold rfL rfZ; rw [if_pos hD, if_pos hD]; exact readF_bytes D.length D (Nat.le_refl _)
      have hz : rfZ D ≤ D.length := by
        unfold rfZ; rw [if_pos hD]; exact readF_size D
      have hLn : (rfL D).length ≤ 4000 := by
        unfold rfL; rw [if_pos hD]; exact (readF_small hD).1
      generalize rfX D = X at *
      generalize rfL D = L at *
      generalize rfZ D = Z at *
      refine codeOk_loop [true, false, false, true, true, true, true, false, true, true] 3 (fun z => ∃ (i g : Nat) (bs : List UInt8) (c : Nat), i ≤ L.length ∧ bs = pkAll (L.take i) ∧
        z = ⟨[blist a, unknown, unknown, blist D, .one (.ptr 0 clk 0), blist b, .one (.ptr 1 (clk + 1) 0), unknown, .one (.own 2 g 0 bs.length), iv .i64 i] ++ List.replicate 149 unknown,
          [some ⟨clk, 27, 3, [nc X, .d (.list L.length (bss L)), nc Z]⟩, some ⟨clk + 1, 30, 2, [nc (frameCode b), .d (brow (pkB b))]⟩, some ⟨g, 5, 1, bcs bs⟩], c⟩)
        (fun z => match z.tmps.getD 9 unknown with | .one (.d (.s (.int _ i))) => L.length - i.toNat | _ => 0) ?_ ?_
      · simp
        exact ⟨0, by omega, by simp [pkAll]⟩
      · rintro z ⟨i, g, bs, c, hi, hbs, rfl⟩
        have hbl : bs.length ≤ 103 * i := by
          rw [hbs]
          have := frames_len (L := L.take i) fun x hx => hb1 x (List.mem_of_mem_take hx)
          rw [List.length_take] at this
          omega
        by_cases hlt : i < L.length
        · have hw := wrap_succ (i := i) (by omega)
          obtain ⟨x, u, hd, hx, hxt⟩ := drop_at' L hlt
          have hx1 := hb1 x (List.mem_of_getElem? hx)
          have hfx := frame_length x
          have hfc : frameCode x = 0 := if_pos hx1
          have hpx : pkB x = frame x := if_pos hfc
          simp [hlt, hd]
          refine a_PackFrameA x (by omega) (by simp) ?_
          simp [hfc, hpx, hw]
          have hnx : bs ++ frame x = pkAll (L.take (i + 1)) := by rw [hxt, pkAll_snoc, ← hbs]
          refine ⟨⟨by omega, by show bs.length + (frame x).length ≤ 9223372036854775807; omega⟩, ⟨i + 1, by omega, c, ⟨⟨rfl, by rw [← hnx, List.length_append]⟩, by push_cast; rfl⟩, rfl, hnx⟩, by omega⟩
        · have e : i = L.length := by omega
          subst e
          rw [List.take_length, hfl] at hbs
          have hz1 : ¬ (Z : Int) < 0 := by omega
          have hz2 : ¬ (D.length : Int) < Z := by omega
          simp [hz1, hz2]
          rw [← hbs]
          obtain rfl : Z = bs.length := by rw [hbs, List.length_take]; omega
          refine ⟨hz, ?_⟩
          refine acall_val (c_lwSame bs bs) (by simp) (by simp) ?_
          simp
          by_cases hp : frameCode b = 0
          · have hp1 : 1 ≤ b.length ∧ b.length ≤ 100 := by
              unfold frameCode at hp
              split at hp
              · assumption
              · omega
            have hpk : pkB b = frame b := if_pos hp
            have ht := fun j m h1 h2 h3 => turned_read (b := b) (j := j) (m := m) hp1.2 h1 h2 h3
            have htw := twice_read hp1.1 hp1.2
            rw [hpk]
            generalize frame b = F at *
            simp [hp]
            refine codeOk_freeze 1 ?_
            simp [frzV, frzC, ofJ, snap1, blkAt, AC.dc?]
            refine codeOk_drawW (.still 1 (.still 2 (.still 4 (.still 5 (.two 0 (.two 3 (.two 6 (.two 7 (.next 8 (.next 9 .nil)) 8 (.next 7 (.next 9 .nil))) 8 (.next 6 (.next 7 (.next 9 .nil)))) 8 (.next 3 (.next 6 (.next 7 (.next 9 .nil))))) 8 (.next 0 (.next 3 (.next 6 (.next 7 (.next 9 .nil)))))))))) mixed rfl (by kernel_rfl) ?_
            have q1 : F.length ≤ 140737488355328 := by omega
            have q2 : F.length ≤ maxLen := by show F.length ≤ 9223372036854775807; omega
            have q3 : F.length + F.length ≤ 140737488355328 := by omega
            have q4 : F.length + F.length ≤ maxLen := by show F.length + F.length ≤ 9223372036854775807; omega
            have hR : rfL (F ++ F) = [b, b] := by unfold rfL; rw [if_pos (by rw [List.length_append]; omega), htw]
            have tk : List.take (F.length + F.length) (F ++ F) = F ++ F := List.take_of_length_le (by simp)
            have w1 : IntKind.i64.wrap ((b.length : Int) + 3) = b.length + 3 := wrap_i64 (by omega) (by omega)
            have w2 : (F.length : Int) = b.length + 3 := by omega
            have w3 : IntKind.i64.wrap ((b.length : Int) + 3 - 1) = ((b.length + 2 : Nat) : Int) := by rw [wrap_i64 (by omega) (by omega)]; omega
            obtain ⟨v1, hv1⟩ : ∃ v, v = lwV a 2 (b.length + 2) := ⟨_, rfl⟩
            obtain ⟨v2, hv2⟩ : ∃ v, v = lwV a 3 255 := ⟨_, rfl⟩
            have hl1 : v1 < b.length + 2 := by rw [hv1]; exact lwV_lt (by omega)
            have hl2 : v2 < 255 := by rw [hv2]; exact lwV_lt (by omega)
            have k1 := c_lwAt a 2 (b.length + 2) ha (by omega) (by omega)
            have k2 := c_lwAt a 3 255 ha (by omega) (by omega)
            rw [← hv1] at k1
            rw [← hv2] at k2
            obtain ⟨j1, hj1⟩ : ∃ j, j = 1 + v1 := ⟨_, rfl⟩
            have haf : j1 < F.length := by omega
            have haf2 : j1 < b.length + 3 := by omega
            have w4 : IntKind.i64.wrap (1 + (v1 : Int)) = (j1 : Int) := by rw [wrap_i64 (by omega) (by omega)]; omega
            obtain ⟨m, hm⟩ : ∃ m, m = 1 + v2 := ⟨_, rfl⟩
            have w5 : IntKind.i64.wrap (1 + (v2 : Int)) = (m : Int) := by rw [wrap_i64 (by omega) (by omega)]; omega
            obtain ⟨y, hy⟩ : ∃ y, y = F[j1] := ⟨_, rfl⟩
            have hx := xor_byte y m (by omega)
            have hya : F.getD j1 0 = y := by rw [hy, List.getD_eq_getElem?_getD, List.getElem?_eq_getElem haf]; rfl
            have hR2 : rfL (F.set j1 (y ^^^ UInt8.ofNat m)) = [] := by
              have := ht v1 m hl1 (by omega) (by omega)
              rw [← hj1, hya] at this
              unfold rfL; rw [if_pos (by rw [List.length_set]; omega), this]
            have tk2 : List.take F.length (F.set j1 (y ^^^ UInt8.ofNat m)) = F.set j1 (y ^^^ UInt8.ofNat m) := List.take_of_length_le (by simp)
            clear hv1 hv2 ht htw
            simp [q1, q2, q3, q4]
            repeat' apply And.intro
            all_goals refine a_ReadAny (F ++ F) (by simp [tk]) ?_
            all_goals simp [hR, bss, w1, w2]
            all_goals refine acall_val (c_lwSame b b) (by simp) (by simp) ?_
            all_goals simp [q1, q2]
            all_goals refine codeOk_drawA mixed (by kernel_rfl) ?_
            all_goals simp [w2, w3]
            all_goals refine qcall_val k1 (by simp) (by simp) ?_
            all_goals simp [w4, haf, ← hy]
            all_goals refine qcall_val k2 (by simp) (by simp) ?_
            all_goals simp [w5, haf, ← hy]
            all_goals rw [hx, bcs_set]
            all_goals refine ⟨by omega, ?_⟩
            all_goals refine a_ReadAny (F.set j1 (y ^^^ UInt8.ofNat m)) (by simp [tk2]) ?_
            all_goals simp [hR2, bss]
          · simp [hp]
    · skip
      by_cases hp : frameCode b = 0
      · have hp1 : 1 ≤ b.length ∧ b.length ≤ 100 := by
          unfold frameCode at hp
          split at hp
          · assumption
          · omega
        have hpk : pkB b = frame b := if_pos hp
        have ht := fun j m h1 h2 h3 => turned_read (b := b) (j := j) (m := m) hp1.2 h1 h2 h3
        have htw := twice_read hp1.1 hp1.2
        rw [hpk]
        generalize frame b = F at *
        simp [hp]
        refine codeOk_freeze 1 ?_
        simp [frzV, frzC, ofJ, snap1, blkAt, AC.dc?]
        refine codeOk_drawW (.still 1 (.still 2 (.still 4 (.still 5 (.two 0 (.two 3 (.two 6 (.two 7 (.next 8 (.next 9 .nil)) 8 (.next 7 (.next 9 .nil))) 8 (.next 6 (.next 7 (.next 9 .nil)))) 8 (.next 3 (.next 6 (.next 7 (.next 9 .nil))))) 8 (.next 0 (.next 3 (.next 6 (.next 7 (.next 9 .nil)))))))))) mixed rfl (by kernel_rfl) ?_
        have q1 : F.length ≤ 140737488355328 := by omega
        have q2 : F.length ≤ maxLen := by show F.length ≤ 9223372036854775807; omega
        have q3 : F.length + F.length ≤ 140737488355328 := by omega
        have q4 : F.length + F.length ≤ maxLen := by show F.length + F.length ≤ 9223372036854775807; omega
        have hR : rfL (F ++ F) = [b, b] := by unfold rfL; rw [if_pos (by rw [List.length_append]; omega), htw]
        have tk : List.take (F.length + F.length) (F ++ F) = F ++ F := List.take_of_length_le (by simp)
        have w1 : IntKind.i64.wrap ((b.length : Int) + 3) = b.length + 3 := wrap_i64 (by omega) (by omega)
        have w2 : (F.length : Int) = b.length + 3 := by omega
        have w3 : IntKind.i64.wrap ((b.length : Int) + 3 - 1) = ((b.length + 2 : Nat) : Int) := by rw [wrap_i64 (by omega) (by omega)]; omega
        obtain ⟨v1, hv1⟩ : ∃ v, v = lwV a 2 (b.length + 2) := ⟨_, rfl⟩
        obtain ⟨v2, hv2⟩ : ∃ v, v = lwV a 3 255 := ⟨_, rfl⟩
        have hl1 : v1 < b.length + 2 := by rw [hv1]; exact lwV_lt (by omega)
        have hl2 : v2 < 255 := by rw [hv2]; exact lwV_lt (by omega)
        have k1 := c_lwAt a 2 (b.length + 2) ha (by omega) (by omega)
        have k2 := c_lwAt a 3 255 ha (by omega) (by omega)
        rw [← hv1] at k1
        rw [← hv2] at k2
        obtain ⟨j1, hj1⟩ : ∃ j, j = 1 + v1 := ⟨_, rfl⟩
        have haf : j1 < F.length := by omega
        have haf2 : j1 < b.length + 3 := by omega
        have w4 : IntKind.i64.wrap (1 + (v1 : Int)) = (j1 : Int) := by rw [wrap_i64 (by omega) (by omega)]; omega
        obtain ⟨m, hm⟩ : ∃ m, m = 1 + v2 := ⟨_, rfl⟩
        have w5 : IntKind.i64.wrap (1 + (v2 : Int)) = (m : Int) := by rw [wrap_i64 (by omega) (by omega)]; omega
        obtain ⟨y, hy⟩ : ∃ y, y = F[j1] := ⟨_, rfl⟩
        have hx := xor_byte y m (by omega)
        have hya : F.getD j1 0 = y := by rw [hy, List.getD_eq_getElem?_getD, List.getElem?_eq_getElem haf]; rfl
        have hR2 : rfL (F.set j1 (y ^^^ UInt8.ofNat m)) = [] := by
          have := ht v1 m hl1 (by omega) (by omega)
          rw [← hj1, hya] at this
          unfold rfL; rw [if_pos (by rw [List.length_set]; omega), this]
        have tk2 : List.take F.length (F.set j1 (y ^^^ UInt8.ofNat m)) = F.set j1 (y ^^^ UInt8.ofNat m) := List.take_of_length_le (by simp)
        clear hv1 hv2 ht htw
        simp [q1, q2, q3, q4]
        repeat' apply And.intro
        all_goals refine a_ReadAny (F ++ F) (by simp [tk]) ?_
        all_goals simp [hR, bss, w1, w2]
        all_goals refine acall_val (c_lwSame b b) (by simp) (by simp) ?_
        all_goals simp [q1, q2]
        all_goals refine codeOk_drawA mixed (by kernel_rfl) ?_
        all_goals simp [w2, w3]
        all_goals refine qcall_val k1 (by simp) (by simp) ?_
        all_goals simp [w4, haf, ← hy]
        all_goals refine qcall_val k2 (by simp) (by simp) ?_
        all_goals simp [w5, haf, ← hy]
        all_goals rw [hx, bcs_set]
        all_goals refine ⟨by omega, ?_⟩
        all_goals refine a_ReadAny (F.set j1 (y ^^^ UInt8.ofNat m)) (by simp [tk2]) ?_
        all_goals simp [hR2, bss]
      · simp [hp]
  · have ha' : (1048576 : Int) < a.length := by omega
    refine fcall_gather [] id fun clk => acall_of_aw Try.func3 rfl ?_
    simp
    refine acall_val (c_lwBig a) (by simp) (by simp) ?_
    simp [ha']
theorem walk_FnFrames {x : AV} (h : OkAV false [.slice [.int .u8]] x) : FCall Try.prog 3 [x] TT := by
  obtain ⟨bs, rfl⟩ := av_bytes h; exact c_FnFrames bs
end Go.Proofs.Ytplnbdjonnfcbaa
