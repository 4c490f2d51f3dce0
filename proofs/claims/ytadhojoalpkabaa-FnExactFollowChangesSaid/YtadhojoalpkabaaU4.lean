/-
  A map's objects in order; ApplyWrite of the program.
-/
import Derived.Test.YtadhojoalpkabaaU3
import Derived.Test.YtadhojoalpkabaaC3
namespace Go.Proofs.Ytadhojoalpkabaa
set_option maxRecDepth 100000
set_option linter.unusedSimpArgs false
set_option linter.unusedVariables false
set_option linter.unnecessarySimpa false
open Go Go.Abs Go.Proofs
set_option maxRecDepth 100000 in
theorem a_Values (p : List MapEntry × Nat) {c : Nat} {K : AV → AHeap → Nat → Prop} (hK : ∀ c, K (.one (.d (.fn 51 [.rptr [.map p.1 p.2]]))) [none] c) :
    ACall Try.prog 42 [.one (.d (.map p.1 p.2))] [] c K := by
  refine acall_of_ok Try.func42 rfl (codeOk_seq (aw_sound _ _ _ ?_))
  simp
  refine codeOk_freeze 0 (aw_sound _ _ _ ?_)
  simp [frzV, frzC, ofJ, snap1, blkAt, AC.dc?]
  exact hK _
theorem rises_of_sorted {d : List Ob} (hk : KeysApart d) (hs : ∀ (i j : Nat) (x y : Ob), i < j → d[i]? = some x → d[j]? = some y → ¬ cmpOb y x < 0) : rises d = true := by
  rw [rises_iff]
  intro j a b ha hb
  have h1 := hs j (j + 1) a b (by omega) ha hb
  rw [cmpOb_less] at h1
  have hj := (List.getElem?_eq_some_iff.1 ha)
  have hj1 := (List.getElem?_eq_some_iff.1 hb)
  obtain ⟨l1, e1⟩ := hj
  obtain ⟨l2, e2⟩ := hj1
  have h2 := List.pairwise_iff_getElem.1 hk j (j + 1) l1 l2 (by omega)
  rw [e1, e2] at h2
  rcases less_or h2 with h3 | h3
  · exact h3
  · exact absurd h3 h1
set_option maxRecDepth 100000 in
theorem c_inOrder (p : List MapEntry × Nat) (l : List Ob) (h : ObMap p l) (hl : l.length ≤ 1048576) : FCall Try.prog 26 [.one (.d (.map p.1 p.2))] fun r H => ∃ d g, rises d = true ∧ (∀ q, q ∈ d ↔ q ∈ l) ∧ r = .one (.own 0 g 0 d.length) ∧ H = [some ⟨g, 51, 7, rcs d⟩] := by
  refine fcall_gather [1] (fun j => j - 1) fun clk => acall_of_aw Try.func26 rfl ?_
  simp
  refine a_Values p fun c => ?_
  simp
  refine acall_pure (c_SortedFuncOb _ _ _ _ _ (by decide) (s_values p l h) hl (fun xs hx => by rw [hx.length_eq]; exact hl)) (by simp) ?_
  rintro r Hn c' ⟨xs, d, g, hx, hp, hs, rfl, rfl⟩ _
  have hpl := hp.trans hx
  have hk : KeysApart d := hpl.symm.pairwise h.apart (fun hn e => hn ⟨e.1.symm, e.2.symm⟩)
  have hr := rises_of_sorted hk hs
  simp
  exact ⟨d, hr, fun q => hpl.mem_iff, g, ⟨rfl, rfl⟩, rfl, rfl⟩
end Go.Proofs.Ytadhojoalpkabaa
