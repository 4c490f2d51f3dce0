/-
  Marks in StoreResults; StoreResults compared.
-/
import Derived.Test.YtledabakodggcaaGreatDoorM3
import Derived.Test.YtledabakodggcaaGreatDoorU7
namespace Go.Proofs.YtledabakodggcaaGreatDoor
set_option maxRecDepth 100000
set_option linter.unusedSimpArgs false
set_option linter.unusedVariables false
set_option linter.unnecessarySimpa false
open Go Go.Abs Go.Proofs
set_option maxRecDepth 100000 in
theorem c_markStore2 (rev : Int) (l : List Ob) (m : List Ch) (k : Int) (g g' : Nat) (h1 : l.length ≤ 1048576) (h2 : m.length ≤ 1048576) (hk : 0 ≤ k ∧ k ≤ 1000000) : RCallS Tryz.prog 34 [.agg [ic rev, .own 0 g 0 l.length, .own 1 g' 0 m.length], iv .i64 k] [⟨g, 56, 7, rcs l⟩, ⟨g', 103, 9, rcs m⟩] fun r Bs Hn =>
    r = iv .i64 (k + 7 * l.length + 9 * m.length) ∧ Bs = [⟨g, 56, 7, rcs (obMarks k l.length)⟩, ⟨g', 103, 9, rcs (chMarks (k + 7 * l.length) m.length)⟩] ∧ ∃ X, Hn = [some X] := by
  intro clk
  refine acall_of_aw Tryz.func34 rfl ?_
  simp
  refine acall_ref (k := 0) (c_markObjectS l k g h1 (by omega)) (by simp) (by simp) ?_
  rintro r B Hn c ⟨rfl, rfl, rfl⟩ _
  simp
  refine acall_ref (k := 1) (c_markChangeS2 m (k + 7 * l.length) g' h2 (by omega)) (by simp) (by simp) ?_
  rintro r B Hn c ⟨rfl, rfl, rfl⟩ _
  simp
  exact ⟨[_, _], [some _], rfl, rfl, rfl, rfl, _, rfl⟩
set_option maxRecDepth 100000 in
theorem c_markStoreResult (u rev : Int) (l : List Ob) (m : List Ch) (k : Int) (g g' : Nat) (h1 : l.length ≤ 1048576) (h2 : m.length ≤ 1048576) (hk : 0 ≤ k ∧ k ≤ 1000000) : RCallS Tryz.prog 13 [.agg [ic u, ic rev, .own 0 g 0 l.length, .own 1 g' 0 m.length], iv .i64 k] [⟨g, 56, 7, rcs l⟩, ⟨g', 103, 9, rcs m⟩] fun r Bs Hn =>
    r = iv .i64 (k + 7 * l.length + 9 * m.length) ∧ Bs = [⟨g, 56, 7, rcs (obMarks k l.length)⟩, ⟨g', 103, 9, rcs (chMarks (k + 7 * l.length) m.length)⟩] ∧ ∃ X Y, Hn = [some X, some Y] := by
  intro clk
  refine acall_of_aw Tryz.func13 rfl ?_
  simp
  refine acall_refs [0, 1] (c_markStore2 rev l m k g g' h1 h2 hk) (by simp) rfl (by simp [rhoS]) ?_ ?_
  · intro j k B hj hB
    match j with
    | 0 => simp at hj hB; subst hj; subst hB; simp
    | 1 => simp at hj hB; subst hj; subst hB; simp
    | j + 2 => simp at hj
  rintro r Bs Hn c ⟨rfl, rfl, X, rfl⟩ _ _
  simp [setL]
  exact ⟨[_, _], [some _, some _], rfl, rfl, rfl, rfl, _, _, rfl⟩
set_option maxRecDepth 100000 in
theorem c_markStoreResultn (u rev : Int) (k : Int) : FCall Tryz.prog 13 [.agg [ic u, ic rev, .d (.list 0 []), .d (.list 0 [])], iv .i64 k] fun r H => r = iv .i64 k ∧ H = [] := by
  have h : FCall Tryz.prog 34 [.agg [ic rev, .d (.list 0 []), .d (.list 0 [])], iv .i64 k] fun r H => r = iv .i64 k ∧ H = [] := by
    refine fcall_gather [] id fun clk => acall_of_aw Tryz.func34 rfl ?_
    simp
    refine acall_val (c_markObjectSn k) (by simp) (by simp) ?_
    simp
    refine acall_val (c_markChangeSn k) (by simp) (by simp) ?_
    simp
  refine fcall_gather [] id fun clk => acall_of_aw Tryz.func13 rfl ?_
  simp
  refine acall_val h (by simp) (by simp) ?_
  simp
set_option maxRecDepth 100000 in
theorem c_heldStoreResult (u v : Int) (n m : Nat) (k : Int) (hn : n ≤ 1048576) (hm : m ≤ 1048576) (hk : 0 ≤ k ∧ k ≤ 1000000) : FCall Tryz.prog 14 [.agg [ic u, ic v, .d (.list n (rds (obMarks k n))), .d (.list m (rds (chMarks (k + 7 * n) m)))], iv .i64 k] fun r H => r = iv .i64 (k + 7 * n + 9 * m) ∧ H = [] := by
  have hq : ¬ k + 7 * (n : Int) < 0 := by omega
  have hq2 : ¬ k + 7 * (n : Int) + 9 * (m : Int) < 0 := by omega
  have h : FCall Tryz.prog 35 [.agg [ic v, .d (.list n (rds (obMarks k n))), .d (.list m (rds (chMarks (k + 7 * n) m)))], iv .i64 k] fun r H => r = iv .i64 (k + 7 * n + 9 * m) ∧ H = [] := by
    refine fcall_gather [] id fun clk => acall_of_aw Tryz.func35 rfl ?_
    simp
    refine acall_val (c_heldObjectS n k hn (by omega)) (by simp) (by simp) ?_
    simp [hq]
    refine acall_val (c_heldChangeS m (k + 7 * n) hm (by omega)) (by simp) (by simp) ?_
    simp [hq2]
  refine fcall_gather [] id fun clk => acall_of_aw Tryz.func14 rfl ?_
  simp
  refine acall_val h (by simp) (by simp) ?_
  simp [hq2]
set_option maxRecDepth 100000 in
theorem c_eqStoreResult (x y : Int) (s t : St) (h1 : s.obs.length ≤ 1048576) (h2 : s.hist.length ≤ 1048576) : FCall Tryz.prog 10 [srAv x s, srAv y t] fun r H => r = bv (decide (x = y ∧ s = t)) ∧ H = [] := by
  refine fcall_gather [] id fun clk => acall_of_aw Tryz.func10 rfl ?_
  by_cases g1 : x = y
  · simp [g1]
    refine acall_val (c_eqStore s t h1 h2) (by simp) (by simp) ?_
    by_cases g2 : s = t <;> simp [g2]
  · simp [g1]
end Go.Proofs.YtledabakodggcaaGreatDoor
