/-
  Changes above a revision: the iterator of the program, and what is collected from it.
-/
import Derived.Test.YtadhojoalpkabaaS1
import Derived.Test.YtadhojoalpkabaaK6
import Derived.Test.YtadhojoalpkabaaK7
namespace Go.Proofs.Ytadhojoalpkabaa
set_option maxRecDepth 100000
set_option linter.unusedSimpArgs false
set_option linter.unusedVariables false
set_option linter.unnecessarySimpa false
open Go Go.Abs Go.Proofs
theorem fcall_weak {P : Program} {f : FuncId} {args : List AV} {p q : AV → AHeap → Prop} (h : FCall P f args p) (hp : ∀ r H, p r H → q r H) : FCall P f args q :=
  fun clk => (h clk).mono fun r H c ⟨h1, h2, h3⟩ => ⟨h1, h2, hp r H h3⟩
def Ch.val (c : Ch) : Value := .agg #[.int .i64 c.rev, .bool c.gone, .int .i64 c.ob.kind, .int .i64 c.ob.id, .int .i64 c.ob.a, .int .i64 c.ob.b, .int .i64 c.ob.c, .int .i64 c.ob.d, .int .i64 c.ob.rev]
theorem Ch.ofV (c : Ch) : AV.ofV c.val = c.av := rfl
def aboveCh (rev : Int) (l : List Ch) : List Ch := l.filter fun c => decide (rev < c.rev)
theorem aboveCh_snoc (rev : Int) (l : List Ch) (c : Ch) : aboveCh rev (l ++ [c]) = aboveCh rev l ++ (if rev < c.rev then [c] else []) := by
  unfold aboveCh
  rw [List.filter_append]
  by_cases h : rev < c.rev <;> simp [h]
theorem aboveCh_len (rev : Int) (l : List Ch) : (aboveCh rev l).length ≤ l.length := List.length_filter_le _ _
end Go.Proofs.Ytadhojoalpkabaa
