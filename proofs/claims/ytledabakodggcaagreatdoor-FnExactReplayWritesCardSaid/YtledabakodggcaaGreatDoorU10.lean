/-
  The law of ApplyWrite.
-/
import Derived.Test.YtledabakodggcaaGreatDoorU9
namespace Go.Proofs.YtledabakodggcaaGreatDoor
set_option maxRecDepth 100000
set_option linter.unusedSimpArgs false
set_option linter.unusedVariables false
set_option linter.unnecessarySimpa false
open Go Go.Abs Go.Proofs
theorem putL_len (o : Ob) : ∀ (l : List Ob) (d : Bool), (putL o d l).length ≤ l.length + (if d then 0 else 1)
  | [], d => by cases d <;> simp [putL]
  | a :: l, d => by
    unfold putL
    have h1 := putL_len o l d
    have h2 := putL_len o l true
    split
    · simp; omega
    · split
      · rename_i h; simp [h.1] at *; omega
      · simp; omega
theorem turnOb_len (gone : Bool) (o : Ob) (l : List Ob) : (turnOb gone o l).length ≤ l.length + 1 := by
  have := putL_len o l gone
  unfold turnOb; split at this <;> omega
theorem c_ApplyWriteS (s : St) (w : Wr) (h1 : s.obs.length ≤ 1048576) (h2 : s.hist.length ≤ 1048576) : FCall Tryz.prog 31 [s.av, w.av] fun r H => snapV H r = some (srAv (chkW s w) (apS s w)) := by
  unfold apS
  by_cases h : chkW s w = 0
  · rw [if_pos h, h]
    refine fcall_mono (c_ApplyWrite1 s w h) ?_
    rintro r H ⟨g1, g2, rfl, rfl⟩
    simp
  · rw [if_neg h]
    refine fcall_mono (c_ApplyWrite0 s w h1 h2 h) ?_
    rintro r H ⟨rfl, rfl⟩
    simp [st0]
end Go.Proofs.YtledabakodggcaaGreatDoor
