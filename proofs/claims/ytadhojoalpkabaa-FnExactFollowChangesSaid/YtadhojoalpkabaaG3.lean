/-
  The gate: what the model lets through; the law of CheckWrite.
-/
import Derived.Test.YtadhojoalpkabaaG2
namespace Go.Proofs.Ytadhojoalpkabaa
set_option maxRecDepth 100000
set_option linter.unusedSimpArgs false
set_option linter.unusedVariables false
set_option linter.unnecessarySimpa false
open Go Go.Abs Go.Proofs
abbrev wPtr (w : Wr) (x : List DC) : AV := .one (.d (.rptr (w.dcs ++ x)))
abbrev wasPtr (t : Bool) (o : Ob) : AV := .one (.d (.rptr [.s (.bool t), dc o.kind, dc o.id, dc o.a, dc o.b, dc o.c, dc o.d, dc o.rev]))
def okCode (b : Bool) : Int := if b then 0 else 8
abbrev stPtr (s : St) : AV := .one (.d (.rptr [dc s.rev, .list s.obs.length (rds s.obs), .list s.hist.length (rds s.hist)]))
end Go.Proofs.Ytadhojoalpkabaa
