/-
  The law of torn frames.
-/
import Derived.Test.YtplnbdjonnfcbaaT3
import Derived.Test.YtplnbdjonnfcbaaF6
namespace Go.Proofs.Ytplnbdjonnfcbaa
set_option maxRecDepth 100000
set_option linter.unusedSimpArgs false
set_option linter.unusedVariables false
set_option linter.unnecessarySimpa false
open Go Go.Abs Go.Proofs
theorem a_ReadFramesA (d : List UInt8) (hd : d.length ≤ 4000) {args : List AV} {H : AHeap} {c : Nat} {K : AV → AHeap → Nat → Prop} (hs : args.mapM (snapV H) = some [blist d]) (hK : K (frD d) H c) : ACall Try.prog 15 args H c K := by
  cases hf : firstB d with
  | none =>
    have e : frD d = .agg [nc 0, .d (.list 0 []), nc 0] := by
      show frAV (readF d).2 (.d (.list (readF d).1.length (bss (readF d).1))) = _
      rw [readF_none hf]; rfl
    exact acall_froze (c_ReadFrames0 d hd hf) hs (by rintro r Hn ⟨rfl, rfl⟩; exact ⟨_, rfl, by rw [e] at hK; exact hK⟩)
  | some b0 => exact acall_froze (c_ReadFramesX d hd hf) hs fun r Hn h => ⟨_, snap_post h, hK⟩
end Go.Proofs.Ytplnbdjonnfcbaa
