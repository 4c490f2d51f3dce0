/-
  Draws of stores: the epoch of any list, the next write.
-/
import Derived.Test.YtiogdfliailenaaQ24
import Derived.Test.YtiogdfliailenaaQ27
import Derived.Test.YtiogdfliailenaaK7
namespace Go.Proofs.Ytiogdfliailenaa
set_option maxRecDepth 100000
set_option linter.unusedSimpArgs false
set_option linter.unusedVariables false
set_option linter.unnecessarySimpa false
open Go Go.Abs Go.Proofs
set_option maxRecDepth 100000 in
theorem c_l3EpochE (l : List Ob) (hl : l.length ≤ 1048576) : ∃ E : Int, FCall Try.prog 82 [rlist l] fun r H => r = iv .i64 E ∧ H = [] := by
  cases hi : idxOb l 4 0 with
  | none =>
    refine ⟨0, fun clk => acall_of_aw Try.func82 rfl ?_⟩
    simp
    refine acall_val (c_l3Find l 4 0 hl) (by simp) (by simp) ?_
    simp [hi, idxVal]
  | some i =>
    obtain ⟨o, ho, _, _, hlt⟩ := idx_some hi
    obtain ⟨o', t, hd, ho', _, _⟩ := drop_at l hlt
    rw [ho] at ho'; cases ho'
    have hg : l[i] = o := by rw [List.getElem?_eq_getElem hlt] at ho; exact Option.some.inj ho
    refine ⟨o.b, fun clk => acall_of_aw Try.func82 rfl ?_⟩
    simp
    refine acall_val (c_l3Find l 4 0 hl) (by simp) (by simp) ?_
    simp [hi, idxVal, hlt, hd, ho, hg]
def stB (g : Nat) (s : St) : ABlk := ⟨g, 103, 3, [ic s.rev, .d (.list s.obs.length (rds s.obs)), .d (.list s.hist.length (rds s.hist))]⟩
theorem stB_ren (g : Nat) (s : St) (ρ : Nat → Nat) : (stB g s).ren ρ = stB g s := by simp [stB, ABlk.ren, AC.ren]
theorem a_l1Chance {code : List UInt8} {k g p clk : Nat} {H : AHeap} {K : AV → AHeap → Nat → Prop} (n : Nat) (hc : code.length ≤ 1048576) (hp : p ≤ 1099511627776) (hn : n ≤ 1099511627776)
    (hk : H[k]? = some (some (srcB g code p))) (hK : ∀ b : Bool, ∀ c, clk ≤ c → K (bv b) (H.set k (some (srcB g code (p + 1)))) c) :
    ACall Try.prog 67 [.one (.ptr k g 0), iv .i64 n] H clk K := by
  refine acall_ref (k := k) (c_l1Chance code g p n hc hp hn) (by simp) (by rw [srcB_ren]; exact hk) ?_
  rintro r B Hn c ⟨⟨v, rfl⟩, rfl, rfl⟩ hc
  rw [srcB_ren]
  simpa [-ABlk.ren] using hK v c hc
theorem wk4 (a b c d : Option ABlk) (X : AHeap) : WkH (a :: b :: c :: d :: X) [a, b, c, d] := by simp
theorem wk5 (a b c d e : Option ABlk) (X : AHeap) : WkH (a :: b :: c :: d :: e :: X) [a, b, c, d, e] := by simp
abbrev nxMask : List Bool := [true, true, false, false, true, true]
/-- Between the parts of l3Next: a write in its box, which lies at one of two places. -/
def NxI (code : List UInt8) (g g2 m : Nat) (s : St) (z : ASt) : Prop := ∃ (w : Wr) (q c g4 g5 : Nat) (two : Bool), q ≤ m ∧
  z = ⟨[.one (.ptr 0 g 0), .one (.ptr 1 g2 0), unknown, unknown, .one (.ptr 2 g4 0), .one (.ptr (if two then 4 else 3) g5 0)] ++ List.replicate 135 unknown,
    [some (srcB g code q), some (stB g2 s), some ⟨g4, 32, 10, List.replicate 10 (ic 0)⟩] ++ (if two then [none] else []) ++ [some ⟨g5, 32, 10, w.cells⟩], c⟩
set_option maxRecDepth 100000 in
set_option maxHeartbeats 2000000 in
theorem c_l3Next (code : List UInt8) (g g2 p : Nat) (s : St) (hc : code.length ≤ 1048576) (hp : p ≤ 900000) (hl : s.obs.length ≤ 1048576) :
    RCallS Try.prog 80 [.one (.ptr 0 g 0), .one (.ptr 1 g2 0)] [srcB g code p, stB g2 s] fun r Bs Hn =>
    (∃ w : Wr, r = w.av) ∧ (∃ q, q ≤ p + 20 ∧ Bs = [srcB g code q, stB g2 s]) ∧ Hn = [] := by
  obtain ⟨E, hE⟩ := c_l3EpochE s.obs hl
  refine rcallS_take fun clk => acall_of_ok Try.func80 rfl ?_
  refine codeOk_cut [true, true, false, false, true] (fun z => z = ⟨[.one (.ptr 0 g 0), .one (.ptr 1 g2 0), unknown, unknown, .one (.ptr 2 clk 0)] ++ List.replicate 136 unknown,
    [some (srcB g code p), some (stB g2 s), some ⟨clk, 32, 10, List.replicate 10 (ic 0)⟩], clk + 1⟩) (aw_sound _ _ _ ?_) ?_
  · simp
  rintro z rfl
  refine codeOk_cut nxMask (NxI code g g2 (p + 6) s) (codeOk_drawR [none, some (stB g2 s)] (.still 0 (.still 2 (.still 3 (.still 4 (.still 5 (.still 6 (.still 8 (.still 9 (.still 10 (.still 11 (.two 1 (.call 7 (.call 12 (.two 13 (.two 14 (.still 15 (.next 16 (.next 17 .nil))) 16 (.next 14 (.next 15 (.next 17 .nil)))) 16 (.next 13 (.next 14 (.next 15 (.next 17 .nil))))))) 16 (.next 1 (.next 7 (.next 12 (.next 13 (.next 14 (.next 15 (.next 17 .nil)))))))))))))))))) mixed rfl (by kernel_rfl) ?_ ?_) ?_
  · simp
  · simp [stB]
    constructor
    · refine a_l2Draw (code := code) (p := p) hc (by omega) (by simp) ?_
      intro o ho q hq c1 _
      simp
      refine qcall_val hE (by simp) (by simp) ?_
      simp
      refine qcall_val hE (by simp) (by simp) ?_
      simp
      constructor
      · constructor
        · refine a_l1Pick (code := code) (e := 2) (p := q) [0, E, E] hc (by omega) (by simp) rfl (by simp) (by simp [ids]) (by simp) ?_
          intro x hx c _
          simp
          exact ⟨_, wk5 _ _ _ _ _ _, ⟨1, o, 0, x⟩, q + 1, _, _, _, true, by omega, rfl⟩
        · refine a_l1Pick (code := code) (e := 2) (p := q) [0, E, E] hc (by omega) (by simp) rfl (by simp) (by simp [ids]) (by simp) ?_
          intro x hx c _
          simp
          exact ⟨_, wk5 _ _ _ _ _ _, ⟨1, o, 0, x⟩, q + 1, _, _, _, true, by omega, rfl⟩
      · refine a_l1Pick (code := code) (e := 2) (p := q) [0, E, E] hc (by omega) (by simp) rfl (by simp) (by simp [ids]) (by simp) ?_
        intro x hx c _
        simp
        exact ⟨_, wk4 _ _ _ _ _, ⟨1, o, 0, x⟩, q + 1, _, _, _, false, by omega, rfl⟩
    · refine a_l2Draw (code := code) (p := p) hc (by omega) (by simp) ?_
      intro o ho q hq c1 _
      simp
      refine acall_val hE (by simp) (by simp) ?_
      simp
      refine acall_val hE (by simp) (by simp) ?_
      simp
      refine a_l1Pick (code := code) (e := 2) (p := q) [0, E, E] hc (by omega) (by simp) rfl (by simp) (by simp [ids]) (by simp) ?_
      intro x hx c _
      simp
      exact ⟨_, wk4 _ _ _ _ _, ⟨1, o, 0, x⟩, q + 1, _, _, _, false, by omega, rfl⟩
  rintro z ⟨⟨op, ⟨kd, id, a, b, cc, d, rv⟩, ex, stm⟩, q, c, g4, g5, two, hq, rfl⟩
  refine codeOk_cut nxMask (NxI code g g2 (p + 10) s) (aw_sound _ _ _ ?_) ?_
  · cases two
    · simp [stB, -List.length_eq_zero_iff]
      generalize hn : s.obs.length = n at *
      by_cases h0 : 0 < n
      · have hne : ¬ n = 0 := by omega
        simp [h0, hne]
        refine a_l1Chance (code := code) (p := q) 2 hc (by omega) (by omega) (by simp) ?_
        intro b c _
        cases b
        · simp
          by_cases k3 : kd = 3
          · subst k3
            simp
            subst hn
            exact ⟨_, wk4 _ _ _ _ _, ⟨op, ⟨3, id, a, b, cc, 0, rv⟩, ex, stm⟩, q + 1, _, _, _, false, by omega, rfl⟩
          · by_cases k4 : kd = 4
            · subst k4
              simp
              subst hn
              exact ⟨_, wk4 _ _ _ _ _, ⟨op, ⟨4, id, a, b, cc, d, rv⟩, ex, stm⟩, q + 1, _, _, _, false, by omega, rfl⟩
            · simp [k3, k4]
              subst hn
              exact ⟨_, wk4 _ _ _ _ _, ⟨op, ⟨kd, id, a, 0, cc, d, rv⟩, ex, 0⟩, q + 1, _, _, _, false, by omega, rfl⟩
        · simp
          refine codeOk_drawR [none, some (stB g2 s)] (.still 0 (.still 1 (.still 2 (.still 3 (.still 4 (.still 5 (.next 6 (.next 7 (.next 8 (.next 9 (.next 10 .nil))))))))))) mixed rfl (by kernel_rfl) ?_ ?_
          · simp [stB, hn]
          · simp [stB, hn]
            refine a_l1Next (code := code) (p := q + 1) n hc (by omega) ⟨by omega, by omega⟩ (by simp) ?_
            intro v hv c _
            obtain ⟨⟨kd, id, a, b, cc, d, rv⟩, tl, hd, ho, _, _⟩ := drop_at s.obs (i := v) (by omega)
            have hv2 : v < s.obs.length := by omega
            simp [hv, hv2, hd]
            refine a_l1Pick (code := code) (e := 2) (p := q + 2) [1, 1, 2] hc (by omega) (by simp) rfl (by simp) (by simp [ids]) (by simp) ?_
            intro x hx c _
            by_cases k3 : kd = 3
            · subst k3
              have hx' : x = 1 ∨ x = 2 := by simp at hx; omega
              clear hx
              rcases hx' with rfl | rfl
              · simp
                refine a_l1Pick (code := code) (e := 2) (p := q + 3) [1, 2] hc (by omega) (by simp) rfl (by simp) (by simp [ids]) (by simp) ?_
                intro y hy c _
                simp
                subst hn
                exact ⟨_, wk4 _ _ _ _ _, ⟨1, ⟨3, id, a, b, cc, y, 0⟩, ex, 0⟩, q + 4, _, _, _, false, by omega, rfl⟩
              · simp
                subst hn
                exact ⟨_, wk4 _ _ _ _ _, ⟨2, ⟨3, id, a, b, cc, d, 0⟩, ex, stm⟩, q + 3, _, _, _, false, by omega, rfl⟩
            by_cases k2 : kd = 2
            · subst k2
              by_cases hs : stm = 0
              · subst hs
                simp
                refine a_l1Next (code := code) (p := q + 3) 5 hc (by omega) (by omega) (by simp) ?_
                intro y hy c _
                simp
                subst hn
                exact ⟨_, wk4 _ _ _ _ _, ⟨x, ⟨2, id, y, b, cc, d, 0⟩, ex, 0⟩, q + 4, _, _, _, false, by omega, rfl⟩
              · simp [hs]
                refine a_l1Next (code := code) (p := q + 3) 5 hc (by omega) (by omega) (by simp) ?_
                intro y hy c _
                simp
                subst hn
                exact ⟨_, wk4 _ _ _ _ _, ⟨x, ⟨2, id, a, y, cc, d, 0⟩, ex, stm⟩, q + 4, _, _, _, false, by omega, rfl⟩
            by_cases k1 : kd = 1
            · subst k1
              simp
              refine a_l1Next (code := code) (p := q + 3) 6 hc (by omega) (by omega) (by simp) ?_
              intro y hy c _
              simp
              subst hn
              exact ⟨_, wk4 _ _ _ _ _, ⟨x, ⟨1, id, y, b, cc, d, 0⟩, ex, 0⟩, q + 4, _, _, _, false, by omega, rfl⟩
            simp [k1, k2, k3]
            subst hn
            exact ⟨_, wk4 _ _ _ _ _, ⟨x, ⟨kd, id, a, b, cc, d, 0⟩, ex, stm⟩, q + 3, _, _, _, false, by omega, rfl⟩
      · have hne : n = 0 := by omega
        simp [h0, eq_true hne]
        by_cases k3 : kd = 3
        · subst k3
          simp
          subst hn
          exact ⟨_, wk4 _ _ _ _ _, ⟨op, ⟨3, id, a, b, cc, 0, rv⟩, ex, stm⟩, q, _, _, _, false, by omega, rfl⟩
        · by_cases k4 : kd = 4
          · subst k4
            simp
            subst hn
            exact ⟨_, wk4 _ _ _ _ _, ⟨op, ⟨4, id, a, b, cc, d, rv⟩, ex, stm⟩, q, _, _, _, false, by omega, rfl⟩
          · simp [k3, k4]
            subst hn
            exact ⟨_, wk4 _ _ _ _ _, ⟨op, ⟨kd, id, a, 0, cc, d, rv⟩, ex, 0⟩, q, _, _, _, false, by omega, rfl⟩
    · simp [stB, -List.length_eq_zero_iff]
      generalize hn : s.obs.length = n at *
      by_cases h0 : 0 < n
      · have hne : ¬ n = 0 := by omega
        simp [h0, hne]
        refine a_l1Chance (code := code) (p := q) 2 hc (by omega) (by omega) (by simp) ?_
        intro b c _
        cases b
        · simp
          by_cases k3 : kd = 3
          · subst k3
            simp
            subst hn
            exact ⟨_, wk5 _ _ _ _ _ _, ⟨op, ⟨3, id, a, b, cc, 0, rv⟩, ex, stm⟩, q + 1, _, _, _, true, by omega, rfl⟩
          · by_cases k4 : kd = 4
            · subst k4
              simp
              subst hn
              exact ⟨_, wk5 _ _ _ _ _ _, ⟨op, ⟨4, id, a, b, cc, d, rv⟩, ex, stm⟩, q + 1, _, _, _, true, by omega, rfl⟩
            · simp [k3, k4]
              subst hn
              exact ⟨_, wk5 _ _ _ _ _ _, ⟨op, ⟨kd, id, a, 0, cc, d, rv⟩, ex, 0⟩, q + 1, _, _, _, true, by omega, rfl⟩
        · simp
          refine codeOk_drawR [none, some (stB g2 s)] (.still 0 (.still 1 (.still 2 (.still 3 (.still 4 (.still 5 (.next 6 (.next 7 (.next 8 (.next 9 (.next 10 .nil))))))))))) mixed rfl (by kernel_rfl) ?_ ?_
          · simp [stB, hn]
          · simp [stB, hn]
            refine a_l1Next (code := code) (p := q + 1) n hc (by omega) ⟨by omega, by omega⟩ (by simp) ?_
            intro v hv c _
            obtain ⟨⟨kd, id, a, b, cc, d, rv⟩, tl, hd, ho, _, _⟩ := drop_at s.obs (i := v) (by omega)
            have hv2 : v < s.obs.length := by omega
            simp [hv, hv2, hd]
            refine a_l1Pick (code := code) (e := 2) (p := q + 2) [1, 1, 2] hc (by omega) (by simp) rfl (by simp) (by simp [ids]) (by simp) ?_
            intro x hx c _
            by_cases k3 : kd = 3
            · subst k3
              have hx' : x = 1 ∨ x = 2 := by simp at hx; omega
              clear hx
              rcases hx' with rfl | rfl
              · simp
                refine a_l1Pick (code := code) (e := 2) (p := q + 3) [1, 2] hc (by omega) (by simp) rfl (by simp) (by simp [ids]) (by simp) ?_
                intro y hy c _
                simp
                subst hn
                exact ⟨_, wk5 _ _ _ _ _ _, ⟨1, ⟨3, id, a, b, cc, y, 0⟩, ex, 0⟩, q + 4, _, _, _, true, by omega, rfl⟩
              · simp
                subst hn
                exact ⟨_, wk5 _ _ _ _ _ _, ⟨2, ⟨3, id, a, b, cc, d, 0⟩, ex, stm⟩, q + 3, _, _, _, true, by omega, rfl⟩
            by_cases k2 : kd = 2
            · subst k2
              by_cases hs : stm = 0
              · subst hs
                simp
                refine a_l1Next (code := code) (p := q + 3) 5 hc (by omega) (by omega) (by simp) ?_
                intro y hy c _
                simp
                subst hn
                exact ⟨_, wk5 _ _ _ _ _ _, ⟨x, ⟨2, id, y, b, cc, d, 0⟩, ex, 0⟩, q + 4, _, _, _, true, by omega, rfl⟩
              · simp [hs]
                refine a_l1Next (code := code) (p := q + 3) 5 hc (by omega) (by omega) (by simp) ?_
                intro y hy c _
                simp
                subst hn
                exact ⟨_, wk5 _ _ _ _ _ _, ⟨x, ⟨2, id, a, y, cc, d, 0⟩, ex, stm⟩, q + 4, _, _, _, true, by omega, rfl⟩
            by_cases k1 : kd = 1
            · subst k1
              simp
              refine a_l1Next (code := code) (p := q + 3) 6 hc (by omega) (by omega) (by simp) ?_
              intro y hy c _
              simp
              subst hn
              exact ⟨_, wk5 _ _ _ _ _ _, ⟨x, ⟨1, id, y, b, cc, d, 0⟩, ex, 0⟩, q + 4, _, _, _, true, by omega, rfl⟩
            simp [k1, k2, k3]
            subst hn
            exact ⟨_, wk5 _ _ _ _ _ _, ⟨x, ⟨kd, id, a, b, cc, d, 0⟩, ex, stm⟩, q + 3, _, _, _, true, by omega, rfl⟩
      · have hne : n = 0 := by omega
        simp [h0, eq_true hne]
        by_cases k3 : kd = 3
        · subst k3
          simp
          subst hn
          exact ⟨_, wk5 _ _ _ _ _ _, ⟨op, ⟨3, id, a, b, cc, 0, rv⟩, ex, stm⟩, q, _, _, _, true, by omega, rfl⟩
        · by_cases k4 : kd = 4
          · subst k4
            simp
            subst hn
            exact ⟨_, wk5 _ _ _ _ _ _, ⟨op, ⟨4, id, a, b, cc, d, rv⟩, ex, stm⟩, q, _, _, _, true, by omega, rfl⟩
          · simp [k3, k4]
            subst hn
            exact ⟨_, wk5 _ _ _ _ _ _, ⟨op, ⟨kd, id, a, 0, cc, d, rv⟩, ex, 0⟩, q, _, _, _, true, by omega, rfl⟩
  rintro z ⟨⟨op, ⟨kd, id, a, b, cc, d, rv⟩, ex, stm⟩, q, c, g4, g5, two, hq, rfl⟩
  refine codeOk_cut nxMask (NxI code g g2 (p + 11) s) (aw_sound _ _ _ ?_) ?_
  · cases two
    · by_cases k4 : kd = 4
      · subst k4
        simp [stB]
        refine acall_val hE (by simp) (by simp) ?_
        simp
        refine a_l1Pick (code := code) (e := 2) (p := q) [1, 1, 0] hc (by omega) (by simp) rfl (by simp) (by simp [ids]) (by simp) ?_
        intro y hy c _
        simp
        exact ⟨_, wk4 _ _ _ _ _, ⟨1, ⟨4, id, a, IntKind.i64.wrap (E + y), cc, d, rv⟩, ex, IntKind.i64.wrap (E + y)⟩, q + 1, _, _, _, false, by omega, rfl⟩
      · simp [stB, k4]
        exact ⟨_, wk4 _ _ _ _ _, ⟨op, ⟨kd, id, a, b, cc, d, rv⟩, ex, stm⟩, q, _, _, _, false, by omega, rfl⟩
    · by_cases k4 : kd = 4
      · subst k4
        simp [stB]
        refine acall_val hE (by simp) (by simp) ?_
        simp
        refine a_l1Pick (code := code) (e := 2) (p := q) [1, 1, 0] hc (by omega) (by simp) rfl (by simp) (by simp [ids]) (by simp) ?_
        intro y hy c _
        simp
        exact ⟨_, wk5 _ _ _ _ _ _, ⟨1, ⟨4, id, a, IntKind.i64.wrap (E + y), cc, d, rv⟩, ex, IntKind.i64.wrap (E + y)⟩, q + 1, _, _, _, true, by omega, rfl⟩
      · simp [stB, k4]
        exact ⟨_, wk5 _ _ _ _ _ _, ⟨op, ⟨kd, id, a, b, cc, d, rv⟩, ex, stm⟩, q, _, _, _, true, by omega, rfl⟩
  rintro z ⟨⟨op, ⟨kd, id, a, b, cc, d, rv⟩, ex, stm⟩, q, c, g4, g5, two, hq, rfl⟩
  refine aw_sound _ _ _ ?_
  · cases two
    · simp [stB]
      refine codeOk_drawA mixed (by kernel_rfl) ?_
      simp
      refine qcall_val (c_l2Key ⟨kd, id, a, b, cc, d, rv⟩ [dc ex, dc stm]) (by simp [AC.dc?]) (by simp) ?_
      simp
      refine qcall_val (c_l3Find s.obs kd id hl) (by simp) (by simp) ?_
      cases hi : idxOb s.obs kd id with
      | none =>
        by_cases h2 : op = 2
        · subst h2
          simp [idxVal]
          exact ⟨[srcB g code q, stB g2 s], _, rfl, rfl, ⟨⟨1, ⟨kd, id, a, b, cc, d, rv⟩, ex, stm⟩, rfl⟩, ⟨q, by omega, rfl⟩, rfl⟩
        · simp [idxVal, h2]
          exact ⟨[srcB g code q, stB g2 s], _, rfl, rfl, ⟨⟨op, ⟨kd, id, a, b, cc, d, rv⟩, ex, stm⟩, rfl⟩, ⟨q, by omega, rfl⟩, rfl⟩
      | some i =>
        obtain ⟨o, ho, _, _, hlt⟩ := idx_some hi
        obtain ⟨o', t, hd, ho', _, _⟩ := drop_at s.obs hlt
        rw [ho] at ho'; cases ho'
        simp [idxVal, hlt, hd]
        exact ⟨[srcB g code q, stB g2 s], _, rfl, rfl, ⟨⟨op, ⟨kd, id, a, b, cc, d, rv⟩, o.rev, stm⟩, rfl⟩, ⟨q, by omega, rfl⟩, rfl⟩
    · simp [stB]
      refine codeOk_drawA mixed (by kernel_rfl) ?_
      simp
      refine qcall_val (c_l2Key ⟨kd, id, a, b, cc, d, rv⟩ [dc ex, dc stm]) (by simp [AC.dc?]) (by simp) ?_
      simp
      refine qcall_val (c_l3Find s.obs kd id hl) (by simp) (by simp) ?_
      cases hi : idxOb s.obs kd id with
      | none =>
        by_cases h2 : op = 2
        · subst h2
          simp [idxVal]
          exact ⟨[srcB g code q, stB g2 s], _, rfl, rfl, ⟨⟨1, ⟨kd, id, a, b, cc, d, rv⟩, ex, stm⟩, rfl⟩, ⟨q, by omega, rfl⟩, rfl⟩
        · simp [idxVal, h2]
          exact ⟨[srcB g code q, stB g2 s], _, rfl, rfl, ⟨⟨op, ⟨kd, id, a, b, cc, d, rv⟩, ex, stm⟩, rfl⟩, ⟨q, by omega, rfl⟩, rfl⟩
      | some i =>
        obtain ⟨o, ho, _, _, hlt⟩ := idx_some hi
        obtain ⟨o', t, hd, ho', _, _⟩ := drop_at s.obs hlt
        rw [ho] at ho'; cases ho'
        simp [idxVal, hlt, hd]
        exact ⟨[srcB g code q, stB g2 s], _, rfl, rfl, ⟨⟨op, ⟨kd, id, a, b, cc, d, rv⟩, o.rev, stm⟩, rfl⟩, ⟨q, by omega, rfl⟩, rfl⟩
end Go.Proofs.Ytiogdfliailenaa
