/-
  The laws of a store: its fault, an object of it, its epoch.
-/
import Derived.Test.YtadhojoalpkabaaS8
import Derived.Test.YtadhojoalpkabaaS3
namespace Go.Proofs.Ytadhojoalpkabaa
set_option maxRecDepth 100000
set_option linter.unusedSimpArgs false
set_option linter.unusedVariables false
set_option linter.unnecessarySimpa false
open Go Go.Abs Go.Proofs
theorem av_key {x : AV} (h : OkAV true [.int .i64, .int .i64] x) : ∃ a b, x = kav a b := by
  obtain ⟨ds, hd, rfl⟩ := h
  obtain ⟨e0, t0, rfl, c0, h⟩ := okCs_cons hd
  obtain ⟨e1, t1, rfl, c1, h⟩ := okCs_cons h
  cases okCs_nil h
  obtain ⟨n0, rfl, _⟩ := okC_int c0
  obtain ⟨n1, rfl, _⟩ := okC_int c1
  exact ⟨n0, n1, rfl⟩
end Go.Proofs.Ytadhojoalpkabaa
