/-
  Shorter rules: a region whose order is open, walked as it stands; a call whose answer is a plain value. No program's text.
-/
import Derived.Test.YtjalcajhmiamgaaAbs24
namespace Go.Abs
set_option linter.unusedSimpArgs false
set_option linter.unusedVariables false
set_option linter.unnecessarySimpa false
open Go

def flagC (o : Oper) : Bool × Oper := (isCall o.op, o)
def autoOrd (ops : Array Oper) : List (Bool × Nat) := (List.range ops.size).map fun k => (match ops[k]? with | some o => isCall o.op | none => false, k)
section
variable {P : Program} {Q : Exit → ASt → Prop}
theorem autoOrd_ops (ops : Array Oper) : (autoOrd ops).filterMap (fun p => (ops[p.2]?).map fun o => (p.1, o)) = ops.toList.map flagC := by
  unfold autoOrd
  rw [List.filterMap_map]
  have h : ∀ n, n ≤ ops.size → (List.range n).filterMap ((fun p : Bool × Nat => (ops[p.2]?).map fun o => (p.1, o)) ∘ fun k => (match ops[k]? with | some o => isCall o.op | none => false, k)) = (ops.toList.take n).map flagC := by
    intro n
    induction n with
    | zero => intro _; simp
    | succ n ih =>
      intro hn
      have hlt : n < ops.toList.length := by simp; omega
      rw [List.range_succ, List.filterMap_append, ih (by omega), List.take_succ_eq_append_getElem hlt, List.map_append]
      congr 1
      have : ops[n]? = some ops.toList[n] := by simp [Array.getElem?_eq_getElem (show n < ops.size by omega)]
      simp [this, flagC]
  have := h ops.size (Nat.le_refl _)
  rw [this, List.take_of_length_le (by simp)]
theorem codeOk_drawA {id : Nat} {ops : Array Oper} {st : ASt} (hm : P.follows .mixedOrders = true)
    (ho : orderOkQ ops (autoOrd ops) (Array.replicate ops.size false) = true) (h : AOrdQ P ops Q (ops.toList.map flagC) st) : CodeOk P (.region id ops true) Q st :=
  codeOk_drawq (autoOrd ops) hm (by simp [autoOrd]) (by simp [autoOrd]) ho (by rw [autoOrd_ops]; exact h)
theorem acall_val {f : FuncId} {args dargs : List AV} {H : AHeap} {clk : Nat} {x : AV} {K : AV → AHeap → Nat → Prop} (hc : FCall P f dargs fun r H => r = x ∧ H = [])
    (hs : args.mapM (snapV H) = some dargs) (hx : snapV [] x = some x) (hK : K x H clk) : ACall P f args H clk K :=
  acall_froze hc hs fun r Hn h => by obtain ⟨rfl, rfl⟩ := h; exact ⟨r, hx, hK⟩
theorem qcall_val {f : FuncId} {args dargs : List AV} {H : AHeap} {x : AV} {K : AV → Prop} (hc : FCall P f dargs fun r H => r = x ∧ H = [])
    (hs : args.mapM (snapV H) = some dargs) (hx : snapV [] x = some x) (hK : K x) : QCall P f args H K :=
  qcall x hc hs (fun r Hn h => by obtain ⟨rfl, rfl⟩ := h; exact hx) hK
end
attribute [simp] flagC isCall
/-- Numbers as they are written. -/
@[simp] theorem wrap_small (n : Int) (h0 : -9223372036854775808 ≤ n) (h1 : n ≤ 9223372036854775807) : IntKind.i64.wrap n = n := wrap_i64 h0 h1
@[simp] theorem wrap_zero : IntKind.i64.wrap 0 = 0 := by decide
@[simp] theorem wrap_one : IntKind.i64.wrap 1 = 1 := by decide
@[simp] theorem wrap_m1 : IntKind.i64.wrap (-1) = -1 := rfl
end Go.Abs
