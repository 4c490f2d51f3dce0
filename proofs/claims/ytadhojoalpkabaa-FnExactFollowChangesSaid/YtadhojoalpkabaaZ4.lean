/-
  Changes followed by the model.
-/
import Derived.Test.YtadhojoalpkabaaZ2
import Derived.Test.YtadhojoalpkabaaK7
namespace Go.Proofs.Ytadhojoalpkabaa
set_option maxRecDepth 100000
set_option linter.unusedSimpArgs false
set_option linter.unusedVariables false
set_option linter.unnecessarySimpa false
open Go Go.Abs Go.Proofs
/-- Array j becomes data, also where other arrays speak of it. -/
def frzB (H : AHeap) (j : Nat) (B : ABlk) : ABlk := { B with cells := B.cells.map (frzC H j) }
theorem codeOk_freezeB {P : Program} {c : Code} {Q : Exit → ASt → Prop} {T : List AV} {H : AHeap} {clk : Nat} (j : Nat) (h : CodeOk P c Q ⟨T.map (frzV H j), (H.map (Option.map (frzB H j))).set j none, clk⟩) : CodeOk P c Q ⟨T, H, clk⟩ := by
  intro ro n hr w0 E0 H0 a w ⟨E, hE⟩
  let B1 : Nat → Prop := fun b => ∃ (B : ABlk) (i : BI), H[j]? = some (some B) ∧ E.β[j]? = some i ∧ i.blk = some b
  let E1 : Env := ⟨fun b => E.I b ∨ B1 b, E.β, E.clk⟩
  have hsim : SimH w E H := hE.sim
  have hle1 : Env.Le w E w E1 := ⟨fun b hb => ⟨.inl hb, rfl⟩, Nat.le_refl _, fun k i' hi => .inl hi⟩
  have hset : ∀ (k : Nat) (B' : ABlk), ((H.map (Option.map (frzB H j))).set j none)[k]? = some (some B') → k ≠ j ∧ ∃ B, H[k]? = some (some B) ∧ B' = frzB H j B := fun k B' hB => by
    rw [List.getElem?_set] at hB
    split at hB
    · split at hB <;> simp at hB
    · rename_i hne
      rw [List.getElem?_map] at hB
      cases hk : H[k]? with
      | none => simp [hk] at hB
      | some b =>
        cases b with
        | none => simp [hk] at hB
        | some B => simp [hk] at hB; exact ⟨fun e => hne e.symm, B, rfl, hB.symm⟩
  have hlive1 : ∀ b, B1 b → LiveB E H b := fun b ⟨B, i, h1, h2, h3⟩ => ⟨j, B, i, h1, h2, h3⟩
  have hlt1 : ∀ b, B1 b → b < w.heap.size := fun b hb => live_lt (st := ⟨[], H, 0⟩) hsim (hlive1 b hb)
  have hcell : ∀ {c : AC} {v : Value}, RelC w E c v → RelC w E1 (frzC H j c) v := fun {c v} hr => by
    unfold frzC
    split
    · rename_i hj
      split
      · rename_i d hd; exact snap1_one hsim hj hd hr
      · exact hr.mono hle1
    · exact hr.mono hle1
  have hsim1 : SimH w E1 ((H.map (Option.map (frzB H j))).set j none) := by
    refine ⟨by simp [E1, hsim.len], hsim.gens, ?_, ?_, ?_, fun g cs hg => (hsim.glob g cs hg).mono hle1.I⟩
    · rintro b (hb | hb)
      · exact hsim.I b hb
      · exact hlt1 b hb
    · intro k B' hB
      obtain ⟨hkj, B, hB', rfl⟩ := hset k B' hB
      obtain ⟨i, hi, h1, h2, h3, h4, h5⟩ := hsim.blk k B hB'
      refine ⟨i, hi, h1, h2, h3, h4, ?_⟩
      cases hb : i.blk with
      | none =>
        rw [hb] at h5
        exact ⟨by simp [frzB, h5.1], h5.2⟩
      | some b =>
        rw [hb] at h5
        obtain ⟨hn, hor⟩ := h5
        have hn1 : ¬ E1.I b := by
          rintro (hI | ⟨B', i', g1, g2, g3⟩)
          · exact hn hI
          · exact absurd (hsim.apart k j B B' i i' b hB' g1 hi g2 hb g3) hkj
        rcases hor with ⟨C, hC, hCl, hBl, hrel⟩ | ⟨hz0, es, cc, hcs, hm⟩
        · refine ⟨hn1, .inl ⟨C, hC, hCl, by simpa [frzB] using hBl, by simpa [frzB] using hrel.1, fun q c v hq hv => ?_⟩⟩
          simp only [frzB, List.getElem?_map, List.length_map] at hq hv
          cases hc : B.cells[q]? with
          | none => simp [hc] at hq
          | some c0 =>
            simp [hc] at hq; subst hq
            obtain ⟨g1, g2⟩ := hrel.2 q c0 v hc hv
            exact ⟨g1, hcell g2⟩
        · exact ⟨hn1, .inr ⟨hz0, es, cc, by simp [frzB, hcs, frzC, ofJ], hm⟩⟩
    · intro k k' B B' i i' b hB hB' hi hi' hb hb'
      obtain ⟨_, B2, hB2, _⟩ := hset k B hB
      obtain ⟨_, B3, hB3, _⟩ := hset k' B' hB'
      exact hsim.apart k k' B2 B3 i i' b hB2 hB3 hi hi' hb hb'
  refine h ro n hr w0 E0 H0 a w ⟨E1, hE.dfr.mono hle1, hE.le.trans hle1, hE.clk, hsim1, ⟨by simpa using hE.rel.1, fun q x v hx hv => ?_⟩, hE.frm, ?_, ?_⟩
  · rw [List.getElem?_map] at hx
    cases ht : T[q]? with
    | none => simp [ht] at hx
    | some y =>
      simp [ht] at hx; subst hx
      have hr := hE.rel.2 q y v ht hv
      cases y with
      | one c => exact hcell (c := c) hr
      | agg cs => exact hr.mono hle1
      | tup vs => exact hr.mono hle1
  · rintro b ⟨k, B, i, h1, h2, h3⟩
    obtain ⟨_, B2, hB2, _⟩ := hset k B h1
    exact hE.live b ⟨k, B2, i, hB2, h2, h3⟩
  · rintro b hb (hI | hb1)
    · exact hE.I0 b hb hI
    · rcases hE.live b (hlive1 b hb1) with h1 | h1
      · exact .inr h1
      · omega
def fwAv (F : Int) (s : Ca) : AV := if F = 0 then s.av else .agg [ic 0, .d .nil]
def fwRes (F : Int) (s : Ca) : AV := if F = 0 then .agg [ic 0, ic s.rev, .d (.list s.obs.length (rds s.obs))] else .agg [ic F, ic 0, .d .nil]
theorem foldOb_take (l : List Ob) {cs : List Ch} {i : Nat} {c : Ch} (h : cs[i]? = some c) : foldOb l (cs.take (i + 1)) = turnOb c.gone c.ob (foldOb l (cs.take i)) := by
  rw [List.take_add_one, h, Option.toList_some, foldOb_snoc]
set_option maxRecDepth 100000 in
set_option maxHeartbeats 2000000 in
theorem d_l4Follow (s : Ca) (cs : List Ch) (hl60 : s.obs.length ≤ 60) (hrev : 0 ≤ s.rev ∧ s.rev ≤ 100000) (hm : cs.length ≤ 12) : DCall Try.prog 19 [.one (.d (.rptr [dc s.rev, .list s.obs.length (rds s.obs)])), rlist cs] (.tup [fwAv (folGo s.rev cs s.obs) (flS s cs), iv .i64 (folGo s.rev cs s.obs)]) := by
  have b1 : s.obs.length * 56 ≤ 140737488355328 := by omega
  have b2 : s.obs.length ≤ maxLen := Nat.le_trans (m := 2000000) (by omega) (by decide)
  intro clk
  refine acall_of_aw Try.func19 rfl ?_
  simp
  refine codeOk_drawW (.still 0 (.still 1 (.still 2 (.still 3 (.still 5 (.still 6 (.still 7 (.still 8 (.two 4 (.two 9 (.still 10 (.next 11 (.next 12 .nil))) 11 (.next 9 (.next 10 (.next 12 .nil)))) 11 (.next 4 (.next 9 (.next 10 (.next 12 .nil))))))))))))) mixed rfl (by kernel_rfl) ?_
  simp [b1, b2]
  refine ⟨⟨?_, ?_⟩, ?_⟩
  · refine codeOk_freezeB 1 ?_
    simp [frzV, frzB, frzC, ofJ, snap1, blkAt, AC.dc?]
    refine codeOk_loopW [true, true, false, false, true, false, true, true] (fun z => ∃ (i c : Nat) (L : List Ob), i ≤ cs.length ∧ folGo s.rev cs s.obs = folGo (s.rev + i) (cs.drop i) L ∧ L = foldOb s.obs (cs.take i) ∧ L.length ≤ 60 ∧ z = ⟨[.one (.d (.rptr [dc s.rev, .list s.obs.length (rds s.obs)])), rlist cs, unknown, unknown, .one (.ptr 0 clk 0), unknown, .one (.ptr 2 (clk + 1 + 1 + 1) 0), iv .i64 i] ++ List.replicate 65 unknown, [some ⟨clk, 30, 2, [ic 0, .d .nil]⟩, none, some ⟨(clk + 1 + 1 + 1), 30, 2, [ic (s.rev + i), .d (.list L.length (rds L))]⟩], c⟩)
      (fun z => match z.tmps.getD 7 unknown with | .one (.d (.s (.int _ i))) => cs.length - i.toNat | _ => 0) ?_ ?_
    · refine ⟨[some ⟨clk, 30, 2, [ic 0, .d .nil]⟩, none, some ⟨(clk + 1 + 1 + 1), 30, 2, [ic s.rev, .d (.list s.obs.length (rds s.obs))]⟩], by simp, ?_⟩
      exact ⟨0, _, s.obs, Nat.zero_le _, by simp, by simp [foldOb], hl60, by simp; rfl⟩
    · rintro z ⟨i, c, L, hi, hgo, hL, hlen, rfl⟩
      by_cases hlt : i < cs.length
      · have hw := wrap_succ (i := i) (by omega)
        have hw1 : IntKind.i64.wrap (s.rev + (i : Int) + 1) = s.rev + i + 1 := wrap_i64 (by omega) (by omega)
        obtain ⟨ch, t, hd, ho, hd1, _⟩ := drop_at cs hlt
        have hft := foldOb_take s.obs ho
        rw [hd, folGo] at hgo
        rw [← hL] at hft
        simp [hlt, hd]
        refine codeOk_drawA mixed (by kernel_rfl) ?_
        simp
        refine qcall_val (c_sObjectFault ch.ob) (by simp) (by simp) ?_
        by_cases f1 : obFault ch.ob = 0
        · by_cases f2 : ch.ob.rev = ch.rev
          · simp [f1, eq_true f2]
            refine codeOk_drawA mixed (by kernel_rfl) ?_
            simp [hw1]
            by_cases f3 : ch.rev = s.rev + i + 1
            · have hF0 : chFault (s.rev + i + 1) ch = 0 := by unfold chFault; rw [if_pos ⟨f1, f2⟩, if_pos f3]
              rw [if_neg (by simp [hF0])] at hgo
              simp [eq_true f3]
              refine acall_froze (c_l3Put L ch (rds t) (by omega)) (by simp) fun r Hn h => ⟨rlist (turnOb ch.gone ch.ob L), by obtain ⟨g, rfl, rfl⟩ := h; simp, ?_⟩
              by_cases h60 : 60 < (turnOb ch.gone ch.ob L).length
              · rw [if_pos h60] at hgo
                have h60' : (60 : Int) < (turnOb ch.gone ch.ob L).length := by omega
                simp [h60', hgo, fwAv, bodyA, ressA]
              · rw [if_neg h60, show s.rev + (i : Int) + 1 = s.rev + ((i + 1 : Nat) : Int) by omega] at hgo
                rw [← hft] at hgo h60 ⊢
                obtain ⟨L2, hL2⟩ : ∃ L2, L2 = foldOb s.obs (cs.take (i + 1)) := ⟨_, rfl⟩
                rw [← hL2] at hgo h60 ⊢
                have h60' : ¬ (60 : Int) < L2.length := by omega
                simp [h60', hw]
                refine ⟨_, WkH.refl _, ⟨i + 1, by omega, _, L2, by rw [hd1]; exact hgo, hL2, by omega, by omega, ?_, rfl⟩, by omega⟩
                rw [show s.rev + ((i + 1 : Nat) : Int) = ch.rev by omega]
            · have hF8 : chFault (s.rev + i + 1) ch = 8 := by unfold chFault; rw [if_pos ⟨f1, f2⟩, if_neg f3]
              rw [if_pos (by rw [hF8]; decide), hF8] at hgo
              simp [f3, hgo, fwAv, bodyA, ressA]
          · have hF1 : chFault (s.rev + i + 1) ch = 1 := by unfold chFault; rw [if_neg (fun h => f2 h.2)]
            rw [if_pos (by rw [hF1]; decide), hF1] at hgo
            simp [f1, f2, hgo, fwAv, bodyA, ressA]
        · have hF1 : chFault (s.rev + i + 1) ch = 1 := by unfold chFault; rw [if_neg (fun h => f1 h.1)]
          rw [if_pos (by rw [hF1]; decide), hF1] at hgo
          simp [f1, hgo, fwAv, bodyA, ressA]
      · have e : i = cs.length := by omega
        rw [e, List.drop_length, folGo] at hgo
        rw [e, List.take_length] at hL
        simp [hlt, hgo, fwAv, flS, bodyA, ressA, e, hL]
  · refine codeOk_freezeB 1 ?_
    simp [frzV, frzB, frzC, ofJ, snap1, blkAt, AC.dc?]
    refine codeOk_loopW [true, true, false, false, true, false, true, true] (fun z => ∃ (i c : Nat) (L : List Ob), i ≤ cs.length ∧ folGo s.rev cs s.obs = folGo (s.rev + i) (cs.drop i) L ∧ L = foldOb s.obs (cs.take i) ∧ L.length ≤ 60 ∧ z = ⟨[.one (.d (.rptr [dc s.rev, .list s.obs.length (rds s.obs)])), rlist cs, unknown, unknown, .one (.ptr 0 clk 0), unknown, .one (.ptr 2 (clk + 1 + 1) 0), iv .i64 i] ++ List.replicate 65 unknown, [some ⟨clk, 30, 2, [ic 0, .d .nil]⟩, none, some ⟨(clk + 1 + 1), 30, 2, [ic (s.rev + i), .d (.list L.length (rds L))]⟩], c⟩)
      (fun z => match z.tmps.getD 7 unknown with | .one (.d (.s (.int _ i))) => cs.length - i.toNat | _ => 0) ?_ ?_
    · refine ⟨[some ⟨clk, 30, 2, [ic 0, .d .nil]⟩, none, some ⟨(clk + 1 + 1), 30, 2, [ic s.rev, .d (.list s.obs.length (rds s.obs))]⟩], by simp, ?_⟩
      exact ⟨0, _, s.obs, Nat.zero_le _, by simp, by simp [foldOb], hl60, by simp; rfl⟩
    · rintro z ⟨i, c, L, hi, hgo, hL, hlen, rfl⟩
      by_cases hlt : i < cs.length
      · have hw := wrap_succ (i := i) (by omega)
        have hw1 : IntKind.i64.wrap (s.rev + (i : Int) + 1) = s.rev + i + 1 := wrap_i64 (by omega) (by omega)
        obtain ⟨ch, t, hd, ho, hd1, _⟩ := drop_at cs hlt
        have hft := foldOb_take s.obs ho
        rw [hd, folGo] at hgo
        rw [← hL] at hft
        simp [hlt, hd]
        refine codeOk_drawA mixed (by kernel_rfl) ?_
        simp
        refine qcall_val (c_sObjectFault ch.ob) (by simp) (by simp) ?_
        by_cases f1 : obFault ch.ob = 0
        · by_cases f2 : ch.ob.rev = ch.rev
          · simp [f1, eq_true f2]
            refine codeOk_drawA mixed (by kernel_rfl) ?_
            simp [hw1]
            by_cases f3 : ch.rev = s.rev + i + 1
            · have hF0 : chFault (s.rev + i + 1) ch = 0 := by unfold chFault; rw [if_pos ⟨f1, f2⟩, if_pos f3]
              rw [if_neg (by simp [hF0])] at hgo
              simp [eq_true f3]
              refine acall_froze (c_l3Put L ch (rds t) (by omega)) (by simp) fun r Hn h => ⟨rlist (turnOb ch.gone ch.ob L), by obtain ⟨g, rfl, rfl⟩ := h; simp, ?_⟩
              by_cases h60 : 60 < (turnOb ch.gone ch.ob L).length
              · rw [if_pos h60] at hgo
                have h60' : (60 : Int) < (turnOb ch.gone ch.ob L).length := by omega
                simp [h60', hgo, fwAv, bodyA, ressA]
              · rw [if_neg h60, show s.rev + (i : Int) + 1 = s.rev + ((i + 1 : Nat) : Int) by omega] at hgo
                rw [← hft] at hgo h60 ⊢
                obtain ⟨L2, hL2⟩ : ∃ L2, L2 = foldOb s.obs (cs.take (i + 1)) := ⟨_, rfl⟩
                rw [← hL2] at hgo h60 ⊢
                have h60' : ¬ (60 : Int) < L2.length := by omega
                simp [h60', hw]
                refine ⟨_, WkH.refl _, ⟨i + 1, by omega, _, L2, by rw [hd1]; exact hgo, hL2, by omega, by omega, ?_, rfl⟩, by omega⟩
                rw [show s.rev + ((i + 1 : Nat) : Int) = ch.rev by omega]
            · have hF8 : chFault (s.rev + i + 1) ch = 8 := by unfold chFault; rw [if_pos ⟨f1, f2⟩, if_neg f3]
              rw [if_pos (by rw [hF8]; decide), hF8] at hgo
              simp [f3, hgo, fwAv, bodyA, ressA]
          · have hF1 : chFault (s.rev + i + 1) ch = 1 := by unfold chFault; rw [if_neg (fun h => f2 h.2)]
            rw [if_pos (by rw [hF1]; decide), hF1] at hgo
            simp [f1, f2, hgo, fwAv, bodyA, ressA]
        · have hF1 : chFault (s.rev + i + 1) ch = 1 := by unfold chFault; rw [if_neg (fun h => f1 h.1)]
          rw [if_pos (by rw [hF1]; decide), hF1] at hgo
          simp [f1, hgo, fwAv, bodyA, ressA]
      · have e : i = cs.length := by omega
        rw [e, List.drop_length, folGo] at hgo
        rw [e, List.take_length] at hL
        simp [hlt, hgo, fwAv, flS, bodyA, ressA, e, hL]
  · refine codeOk_freezeB 2 ?_
    simp [frzV, frzB, frzC, ofJ, snap1, blkAt, AC.dc?]
    refine codeOk_loopW [true, true, false, false, true, false, true, true] (fun z => ∃ (i c : Nat) (L : List Ob), i ≤ cs.length ∧ folGo s.rev cs s.obs = folGo (s.rev + i) (cs.drop i) L ∧ L = foldOb s.obs (cs.take i) ∧ L.length ≤ 60 ∧ z = ⟨[.one (.d (.rptr [dc s.rev, .list s.obs.length (rds s.obs)])), rlist cs, unknown, unknown, .one (.ptr 0 clk 0), unknown, .one (.ptr 1 (clk + 1) 0), iv .i64 i] ++ List.replicate 65 unknown, [some ⟨clk, 30, 2, [ic 0, .d .nil]⟩, some ⟨(clk + 1), 30, 2, [ic (s.rev + i), .d (.list L.length (rds L))]⟩], c⟩)
      (fun z => match z.tmps.getD 7 unknown with | .one (.d (.s (.int _ i))) => cs.length - i.toNat | _ => 0) ?_ ?_
    · refine ⟨[some ⟨clk, 30, 2, [ic 0, .d .nil]⟩, some ⟨(clk + 1), 30, 2, [ic s.rev, .d (.list s.obs.length (rds s.obs))]⟩], by simp, ?_⟩
      exact ⟨0, _, s.obs, Nat.zero_le _, by simp, by simp [foldOb], hl60, by simp; rfl⟩
    · rintro z ⟨i, c, L, hi, hgo, hL, hlen, rfl⟩
      by_cases hlt : i < cs.length
      · have hw := wrap_succ (i := i) (by omega)
        have hw1 : IntKind.i64.wrap (s.rev + (i : Int) + 1) = s.rev + i + 1 := wrap_i64 (by omega) (by omega)
        obtain ⟨ch, t, hd, ho, hd1, _⟩ := drop_at cs hlt
        have hft := foldOb_take s.obs ho
        rw [hd, folGo] at hgo
        rw [← hL] at hft
        simp [hlt, hd]
        refine codeOk_drawA mixed (by kernel_rfl) ?_
        simp
        refine qcall_val (c_sObjectFault ch.ob) (by simp) (by simp) ?_
        by_cases f1 : obFault ch.ob = 0
        · by_cases f2 : ch.ob.rev = ch.rev
          · simp [f1, eq_true f2]
            refine codeOk_drawA mixed (by kernel_rfl) ?_
            simp [hw1]
            by_cases f3 : ch.rev = s.rev + i + 1
            · have hF0 : chFault (s.rev + i + 1) ch = 0 := by unfold chFault; rw [if_pos ⟨f1, f2⟩, if_pos f3]
              rw [if_neg (by simp [hF0])] at hgo
              simp [eq_true f3]
              refine acall_froze (c_l3Put L ch (rds t) (by omega)) (by simp) fun r Hn h => ⟨rlist (turnOb ch.gone ch.ob L), by obtain ⟨g, rfl, rfl⟩ := h; simp, ?_⟩
              by_cases h60 : 60 < (turnOb ch.gone ch.ob L).length
              · rw [if_pos h60] at hgo
                have h60' : (60 : Int) < (turnOb ch.gone ch.ob L).length := by omega
                simp [h60', hgo, fwAv, bodyA, ressA]
              · rw [if_neg h60, show s.rev + (i : Int) + 1 = s.rev + ((i + 1 : Nat) : Int) by omega] at hgo
                rw [← hft] at hgo h60 ⊢
                obtain ⟨L2, hL2⟩ : ∃ L2, L2 = foldOb s.obs (cs.take (i + 1)) := ⟨_, rfl⟩
                rw [← hL2] at hgo h60 ⊢
                have h60' : ¬ (60 : Int) < L2.length := by omega
                simp [h60', hw]
                refine ⟨_, WkH.refl _, ⟨i + 1, by omega, _, L2, by rw [hd1]; exact hgo, hL2, by omega, by omega, ?_, rfl⟩, by omega⟩
                rw [show s.rev + ((i + 1 : Nat) : Int) = ch.rev by omega]
            · have hF8 : chFault (s.rev + i + 1) ch = 8 := by unfold chFault; rw [if_pos ⟨f1, f2⟩, if_neg f3]
              rw [if_pos (by rw [hF8]; decide), hF8] at hgo
              simp [f3, hgo, fwAv, bodyA, ressA]
          · have hF1 : chFault (s.rev + i + 1) ch = 1 := by unfold chFault; rw [if_neg (fun h => f2 h.2)]
            rw [if_pos (by rw [hF1]; decide), hF1] at hgo
            simp [f1, f2, hgo, fwAv, bodyA, ressA]
        · have hF1 : chFault (s.rev + i + 1) ch = 1 := by unfold chFault; rw [if_neg (fun h => f1 h.1)]
          rw [if_pos (by rw [hF1]; decide), hF1] at hgo
          simp [f1, hgo, fwAv, bodyA, ressA]
      · have e : i = cs.length := by omega
        rw [e, List.drop_length, folGo] at hgo
        rw [e, List.take_length] at hL
        simp [hlt, hgo, fwAv, flS, bodyA, ressA, e, hL]
set_option maxRecDepth 100000 in
set_option maxHeartbeats 1000000 in
theorem d_sFollowChanges (s : Ca) (cs : List Ch) : DCall Try.prog 6 [s.av, rlist cs] (fwRes (flF s cs) (flS s cs)) := by
  intro clk
  refine acall_of_ok Try.func6 rfl (codeOk_seq (aw_sound _ _ _ ?_))
  simp
  refine codeOk_freeze 0 (aw_sound _ _ _ ?_)
  simp [frzV, frzC, ofJ, snap1, blkAt, AC.dc?]
  refine acall_val (c_sCacheFault s) (by simp) (by simp) ?_
  unfold flF
  by_cases h : caFault s = 0
  · have hl60 := (caFault_ok h).1
    have hrev : 0 ≤ s.rev ∧ s.rev ≤ 100000 := by
      unfold caFault at h
      split at h
      · rename_i g; exact g
      · omega
    by_cases hm : cs.length ≤ 12
    · have hm' : ¬ (12 : Int) < cs.length := by omega
      simp [h, hm, hm']
      refine acall_dataX (d_l4Follow s cs hl60 hrev hm) rfl (fun _ _ _ _ hh hr => RelV.tupData (by unfold fwAv; split <;> rfl) hh hr) ?_
      simp
      by_cases hF : folGo s.rev cs s.obs = 0
      · simp [fwAv, fwRes, hF]
      · simp [fwAv, fwRes, hF]
    · have hm' : (12 : Int) < cs.length := by omega
      simp [h, hm, hm', fwRes]
  · simp [h, fwRes]
end Go.Proofs.Ytadhojoalpkabaa
