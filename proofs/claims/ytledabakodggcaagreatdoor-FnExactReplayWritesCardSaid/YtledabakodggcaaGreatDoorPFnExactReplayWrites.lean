/- The law FnExactReplayWrites returns true at all arguments that may be given to it, and changes none of them, where the package-level tables that it reads hold what the program lays: the conditions are those of the given card, no other. -/
import Derived.Test.YtledabakodggcaaGreatDoorRows
import Derived.Test.YtledabakodggcaaGreatDoorCards
import Derived.Test.YtledabakodggcaaGreatDoorTie
import Derived.WalkKit
import Derived.ProofKit
import Derived.OpenShut
import Derived.ShutString
import Derived.ChangeOld
import Derived.Below
import Derived.LaidMore
import Derived.OpenVars
import Derived.Stop.Joined
import Derived.SevenTiedAt
import Derived.Stop.LaidErr
import Derived.Stop.LaidTwo
import Derived.Test.YtledabakodggcaaGreatDoorX6
import Derived.Test.YtledabakodggcaaGreatDoorK4
import Derived.Test.YtledabakodggcaaGreatDoorQFnExactReplayWrites
namespace Go.Proofs.YtledabakodggcaaGreatDoor.fnExactReplayWrites
open Go.ChangeShapes Go.WideShapes Go.ChangeAt Go.RowKit
set_option linter.unusedVariables false
set_option linter.unusedSimpArgs false
theorem own : ownKnob Tryz.prog.godebug = none := by kernel_rfl
theorem laidOut : laidOutB Tryz.prog = true := by kernel_rfl
theorem gN1 : Tryz.prog.globalNamed "loop.example/g00730/impl.errStale" = some 1 := by kernel_rfl
theorem gT1 : (Tryz.prog.globals[1]?).map (·.type) = some 141 := by kernel_rfl
theorem gN2 : Tryz.prog.globalNamed "loop.example/g00730/impl.errFull" = some 2 := by kernel_rfl
theorem gT2 : (Tryz.prog.globals[2]?).map (·.type) = some 141 := by kernel_rfl
theorem gN3 : Tryz.prog.globalNamed "loop.example/g00730/impl.errState" = some 3 := by kernel_rfl
theorem gT3 : (Tryz.prog.globals[3]?).map (·.type) = some 141 := by kernel_rfl
theorem gN4 : Tryz.prog.globalNamed "loop.example/g00730/impl.errTaken" = some 4 := by kernel_rfl
theorem gT4 : (Tryz.prog.globals[4]?).map (·.type) = some 141 := by kernel_rfl
theorem door_met (os : Os) (args : Array Value) : laidMetH Tryz.prog Rows.fnExactReplayWritesRow.laid ((World.doorLaid Tryz.prog 400 os).forCall (fun _ _ => 0) ⟨#[], args, []⟩).memory :=
  laidMetH_of_parts3 (fuel := 8) (laidMet_of_run' 8 (by kernel_rfl) (by kernel_rfl)) (by kernel_rfl) (by kernel_rfl)
theorem cellsE : Tryz.prog.cellsOf 258 = 1 := by kernel_rfl
theorem cellsS : Tryz.prog.cellsOf 9 = 1 := by kernel_rfl
theorem starE : "*" ++ "errors.errorString" = "*errors.errorString" := by decide
theorem rowE (u : TypeId) (h : Tryz.prog.typeName? 3 u = some "*errors.errorString") : u = 232 :=
  typeName_ptr_named (nm := "errors.errorString") (by rw [starE]; kernel_rfl) (by kernel_rfl) (by decide) u (by rw [starE]; exact h)
theorem of_laid {W : World} (h : laidMetH Tryz.prog Rows.fnExactReplayWritesRow.laid W) : ∀ (g : Nat) (cs : List Go.Abs.DC), Go.Abs.globT g = some cs → Go.Abs.RelD W (Go.Abs.baseE W).I (.rptr cs) (.pointer (some ⟨g, 0, none⟩)) := by
  rw [MakeChecks.laidMetH_plain _ _ _ (by kernel_rfl)] at h
  obtain ⟨a0, a1, s0, s1, c0, c1, t0, t1, hv0, hv1, hc0, hs0, hz0, hc1, hs1, hz1, hne0, hb0, hb1⟩ := laid_sentinels2 h gN1 gT1 gN2 gT2 Tryz.underlying141 rowE Tryz.underlying232 Tryz.underlying258 rfl rfl Tryz.underlying9 cellsE cellsS
  obtain ⟨a2, a3, s2, s3, c2, c3, t2, t3, hv2, hv3, hc2, hs2, hz2, hc3, hs3, hz3, hne2, hb2, hb3⟩ := laid_sentinels2 (laidMet.tail (laidMet.tail h)) gN3 gT3 gN4 gT4 Tryz.underlying141 rowE Tryz.underlying232 Tryz.underlying258 rfl rfl Tryz.underlying9 cellsE cellsS
  have r0 := Go.Abs.glob_err (w := W) gN1 hv0 hc0 hs0 hb0 rfl rfl
  have r1 := Go.Abs.glob_err (w := W) gN2 hv1 hc1 hs1 hb1 rfl rfl
  have r2 := Go.Abs.glob_err (w := W) gN3 hv2 hc2 hs2 hb2 rfl rfl
  have r3 := Go.Abs.glob_err (w := W) gN4 hv3 hc3 hs3 hb3 rfl rfl
  intro g cs hcs
  simp only [Go.Abs.globT, List.lookup] at hcs
  repeat' split at hcs
  · rename_i he; simp at he; subst he; simp at hcs; subst hcs; exact r1
  · rename_i he; simp at he; subst he; simp at hcs; subst hcs; exact r0
  · rename_i he; simp at he; subst he; simp at hcs; subst hcs; exact r2
  · rename_i he; simp at he; subst he; simp at hcs; subst hcs; exact r3
  · simp at hcs
set_option maxRecDepth 100000 in
theorem lifted (os : Os) (started : os.Started) (H : Type) (enc : TypeId × Value → H) :
    ReturnsInHanded {} Tryz.checked os 3 .any (fun w args => (Rows.fnExactReplayWritesSpec.pre enc Tryz.prog Tryz.f3 [] false w args ∧ laidMetH Tryz.prog Rows.fnExactReplayWritesRow.laid w) ∧ sizedMet enc Tryz.prog Tryz.f3 (OpenSpec.ofChange Rows.fnExactReplayWritesSpec) false w args)
      (Rows.fnExactReplayWritesSpec.post enc Tryz.prog Tryz.f3 false true false false) := by
  refine returnsInHanded_of_change_and (C := Tryz.checked) (X := fun w _ => laidMetH Tryz.prog Rows.fnExactReplayWritesRow.laid w) (fun _ _ _ hh h => h.of_heap hh) own started (by kernel_rfl) Tryz.func3
    (ChangeSpec.witness_shaped (enc := enc) (C := Tryz.checked) (os := os) (X := fun w _ => laidMetH Tryz.prog Rows.fnExactReplayWritesRow.laid w) false (World.doorLaid Tryz.prog 400 os) #[.slice none 0 0] 8 rfl (World.shaped_of_RefB (by kernel_rfl) (by kernel_rfl)) (by kernel_rfl) (by kernel_rfl) (by kernel_rfl) (door_met os _)) ?_
  intro W base args ds gs before hval0 hW _ _ hL _
  have hval : ∀ (j : Nat) t v, Tryz.f3.params[j]? = some t → args[j]? = some v → Value.okWide Tryz.prog W .any base t v := hval0
  have hW' := hW
  obtain ⟨p, q, hA0, hV, rfl, hfz, hnd⟩ := hW
  have hA : DataW.TrodAll enc Tryz.prog W 0 (fun _ => true) true Tryz.f3.params.toList args.toList ds p := hA0
  rw [Tryz.params3] at hA hval
  obtain ⟨v0, vs0, d0, ds0, p0, q0, hargs, rfl, rfl, h0, r0⟩ := trodAll_cons hA
  obtain ⟨rfl, rfl, rfl⟩ := trodAll_nil r0
  obtain rfl : args = #[v0] := by cases args; simp_all
  have hV1 : DataW.TrodVars enc Tryz.prog W (fun _ => true) ["loop.example/g00730/impl.errFull", "loop.example/g00730/impl.errTaken", "loop.example/g00730/impl.errStale", "loop.example/g00730/impl.errState"] gs q := hV
  obtain ⟨y0, y1, y2, y3, rfl⟩ : ∃ y0 y1 y2 y3, gs = [y0, y1, y2, y3] := by
    have hl := Go.Abs.trodVars_len hV1
    match gs, hl with
    | [y0, y1, y2, y3], _ => exact ⟨y0, y1, y2, y3, rfl⟩
  have lt0 : ∀ x ∈ p0, x.block < W.heap.size := by obtain ⟨m, hm⟩ := h0; exact DataW.trod_lt m _ _ _ hm
  obtain ⟨x0, o0, a0⟩ := Go.Abs.arg_rel ag22 kd22 (hval 0 22 v0 rfl rfl) h0
  clear hA0 hval0
  refine (Go.Abs.true_of_fcall (walk_FnExactReplayWrites o0) W (of_laid hL) _ (Go.Abs.relVs_cons a0 (Go.Abs.relVs_nil _ _))).mono fun e W' ⟨he, bel⟩ => ?_
  subst he
  exact ⟨_, rfl, _, _, _, [], _, q, hW', trodAll_mk1 (shut_bool Tryz.underlying4 _), (trodAll_cons_mk (Below.trod laidOut (by kernel_rfl) (of_decide_eq_true (by kernel_rfl)) h0 bel lt0) (trodAll_mk0)), bel.trodVars laidOut (by kernel_rfl) hV1, bel.frame _, fun h => by cases h⟩
theorem over : Rows.fnExactReplayWritesRow.holds Tryz.pinned (OpenSpec.ofChange Rows.fnExactReplayWritesSpec) :=
  OpenClaim.holds_of_wide 3 Tryz.f3 rfl rfl rfl rfl rfl rfl rfl ⟨rfl, rfl, rfl, rfl, rfl⟩ rfl rfl rfl rfl rfl named Tryz.func3 closed inst wraps
    (fun os started H enc _ => lifted os started H enc)
/-- The tied card. -/
theorem proved : Rows.FnExactReplayWritesCardSaid :=
  Claim7.holds_tied_plain_at .later [] [.sentinel, .sentinel, .sentinel, .sentinel] true (true, "df8ff958593d8012495d936c75ae4ce4c66925c07f6379966de4c38391eb8e72") true
    over (fun _ h => by cases h) (by kernel_rfl) (fun _ h => by cases h) fnExactReplayWrites_row_tie rfl ⟨rfl, rfl⟩ (by kernel_rfl) rfl
    (fun f fn hf hfn => by
      obtain rfl : f = 3 := Option.some.inj ((show Tryz.prog.funcNamed "loop.example/g00730/laws.FnExactReplayWrites" = some 3 by kernel_rfl).symm.trans hf) |>.symm
      obtain rfl : fn = Tryz.f3 := (Option.some.inj (Tryz.func3.symm.trans hfn)).symm
      exact ⟨by kernel_rfl, fun j t ht => by
        rw [Tryz.params3] at ht
        have hm : t ∈ [22] := by simpa using Array.mem_of_getElem? ht
        have hall : ([22].all fun u => !Tryz.prog.wantsStandIn u) = true := by kernel_rfl
        exact (show Tryz.prog.wantsStandIn t = false by simpa using List.all_eq_true.1 hall t hm)⟩)
    (by kernel_rfl)
#print axioms proved
end Go.Proofs.YtledabakodggcaaGreatDoor.fnExactReplayWrites
