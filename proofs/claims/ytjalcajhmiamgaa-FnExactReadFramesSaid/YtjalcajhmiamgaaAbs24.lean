/-
  What simp knows of walks that take calls as quiet. No program's text.
-/
import Derived.Test.YtjalcajhmiamgaaAbs20
import Derived.Test.YtjalcajhmiamgaaAbs23
namespace Go.Abs
set_option linter.unusedSimpArgs false
set_option linter.unusedVariables false
set_option linter.unnecessarySimpa false
open Go
def ordQK (P : Program) (ops : Array Oper) (Q : Exit → ASt → Prop) (rest : List (Bool × Oper)) (tmps : List AV) (dst : Option Tmp) : AV → AHeap → Nat → Prop :=
  fun v H c => AOrdQ P ops Q rest (ASt.put ⟨tmps, H, c⟩ dst v)
def qK (P : Program) (ops : Array Oper) (Q : Exit → ASt → Prop) (rest : List (Bool × Oper)) (tmps : List AV) (dst : Option Tmp) (H : AHeap) (c : Nat) : AV → Prop :=
  fun v => AOrdQ P ops Q rest (ASt.put ⟨tmps, H, c⟩ dst v)
section
variable {P : Program} {Q : Exit → ASt → Prop} {st : ASt} {ops : Array Oper} {tmps : List AV} {H : AHeap} {c : Nat} {ev : Operand → AV}
@[simp] theorem AOrdQ_nil : AOrdQ P ops Q [] st = Q .normal st := by unfold AOrdQ; exact propext Iff.rfl
@[simp] theorem AOrdQ_plain (dst : Option Tmp) (op : Op) (t : TypeId) (pos : String) (after : Array Edge) (rest : List (Bool × Oper)) :
    AOrdQ P ops Q ((false, ⟨dst, op, t, pos, after, none⟩) :: rest) ⟨tmps, H, c⟩ = acoreX P op (evA tmps) H c (ordQK P ops Q rest tmps dst) := by rw [AOrdQ]; exact propext Iff.rfl
@[simp] theorem AOrdQ_guard (dst : Option Tmp) (op : Op) (t : TypeId) (pos : String) (after : Array Edge) (j : Nat) (want : Bool) (rest : List (Bool × Oper)) :
    AOrdQ P ops Q ((false, ⟨dst, op, t, pos, after, some (j, want)⟩) :: rest) ⟨tmps, H, c⟩ = match ASt.guard ⟨tmps, [], 0⟩ ops j with
      | some b => if b = some want then acoreX P op (evA tmps) H c (ordQK P ops Q rest tmps dst) else ordQK P ops Q rest tmps dst (.tup []) H c
      | none => False := by rw [AOrdQ]; exact propext Iff.rfl
@[simp] theorem AOrdQ_qplain (dst : Option Tmp) (op : Op) (t : TypeId) (pos : String) (after : Array Edge) (rest : List (Bool × Oper)) :
    AOrdQ P ops Q ((true, ⟨dst, op, t, pos, after, none⟩) :: rest) ⟨tmps, H, c⟩ = qcore P op (evA tmps) H (qK P ops Q rest tmps dst H c) := by rw [AOrdQ]; exact propext Iff.rfl
@[simp] theorem AOrdQ_qguard (dst : Option Tmp) (op : Op) (t : TypeId) (pos : String) (after : Array Edge) (j : Nat) (want : Bool) (rest : List (Bool × Oper)) :
    AOrdQ P ops Q ((true, ⟨dst, op, t, pos, after, some (j, want)⟩) :: rest) ⟨tmps, H, c⟩ = match ASt.guard ⟨tmps, [], 0⟩ ops j with
      | some b => if b = some want then qcore P op (evA tmps) H (qK P ops Q rest tmps dst H c) else qK P ops Q rest tmps dst H c (.tup [])
      | none => False := by rw [AOrdQ]; exact propext Iff.rfl
@[simp] theorem ordQK_some (rest : List (Bool × Oper)) (d : Tmp) (v : AV) : ordQK P ops Q rest tmps (some d) v H c = AOrdQ P ops Q rest ⟨tmps.set d v, H, c⟩ := propext Iff.rfl
@[simp] theorem ordQK_none (rest : List (Bool × Oper)) (v : AV) : ordQK P ops Q rest tmps none v H c = AOrdQ P ops Q rest ⟨tmps, H, c⟩ := propext Iff.rfl
@[simp] theorem qK_some (rest : List (Bool × Oper)) (d : Tmp) (v : AV) : qK P ops Q rest tmps (some d) H c v = AOrdQ P ops Q rest ⟨tmps.set d v, H, c⟩ := propext Iff.rfl
@[simp] theorem qK_none (rest : List (Bool × Oper)) (v : AV) : qK P ops Q rest tmps none H c v = AOrdQ P ops Q rest ⟨tmps, H, c⟩ := propext Iff.rfl
@[simp] theorem qcore_call {K : AV → Prop} (f : FuncId) (args : Array Operand) (ts : Array TypeId) : qcore P (.call { callee := .value (.func f), args := args, argTypes := ts }) ev H K = (callable P f = true ∧ QCall P f (args.toList.map ev) H K) := propext Iff.rfl
end
section
@[congr] theorem ordQK_congr (P : Program) (ops : Array Oper) (Q : Exit → ASt → Prop) (rest : List (Bool × Oper)) (tmps : List AV) (dst : Option Tmp) : ordQK P ops Q rest tmps dst = ordQK P ops Q rest tmps dst := rfl
@[congr] theorem qK_congr (P : Program) (ops : Array Oper) (Q : Exit → ASt → Prop) (rest : List (Bool × Oper)) (tmps : List AV) (dst : Option Tmp) (H : AHeap) (c : Nat) : qK P ops Q rest tmps dst H c = qK P ops Q rest tmps dst H c := rfl
@[congr] theorem qcore_congrS (P : Program) (op : Op) (ev : Operand → AV) (H : AHeap) (K : AV → Prop) : qcore P op ev H K = qcore P op ev H K := rfl
@[congr] theorem QCall_congr (P : Program) (f : FuncId) {args args' : List AV} (h : args = args') (H : AHeap) (K : AV → Prop) : QCall P f args H K = QCall P f args' H K := by rw [h]
end
end Go.Abs
