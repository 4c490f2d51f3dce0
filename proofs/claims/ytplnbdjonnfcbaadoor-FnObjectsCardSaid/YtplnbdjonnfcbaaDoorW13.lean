/-
  What the laws draw: one of a list, some bytes, a chance.
-/
import Derived.Test.YtplnbdjonnfcbaaDoorW12
import Derived.Test.YtplnbdjonnfcbaaDoorW3
namespace Go.Proofs.YtplnbdjonnfcbaaDoor
set_option maxRecDepth 100000
set_option linter.unusedSimpArgs false
set_option linter.unusedVariables false
set_option linter.unnecessarySimpa false
open Go Go.Abs Go.Proofs

def ids (xs : List Int) : List DC := xs.map fun x => .s (.int .i64 x)
@[simp] theorem ids_length (xs : List Int) : (ids xs).length = xs.length := by simp [ids]
@[simp] theorem ids_at (xs : List Int) (i : Nat) : (ids xs)[i]? = xs[i]?.map fun x => .s (.int .i64 x) := by simp [ids]
@[simp] theorem ids_drop (xs : List Int) (i : Nat) : (ids xs).drop i = ids (xs.drop i) := by simp [ids]

@[simp] theorem ids_head (xs : List Int) : (ids xs).head? = xs.head?.map fun x => .s (.int .i64 x) := by cases xs <;> simp [ids]
@[simp] theorem srcB_ren (ρ : Nat → Nat) (g p : Nat) (code : List UInt8) : ABlk.ren ρ (srcB g code p) = srcB g code p := by simp [srcB]

theorem c_l1Source (code : List UInt8) (clk : Nat) : ACall Tryd.prog 31 [blist code] [] clk fun r H c => ∃ g, r = .one (.ptr 0 g 0) ∧ H = [some (srcB g code 0)] ∧ clk ≤ c := by
  refine acall_of_aw Tryd.func31 rfl ?_
  simp [srcB]

set_option maxRecDepth 100000 in
theorem c_l1Pick (code : List UInt8) (g p : Nat) (xs : List Int) (hc : code.length ≤ 1048576) (hp : p ≤ 1099511627776) (hx1 : 1 ≤ xs.length) (hx2 : xs.length ≤ 1000) :
    RCall Tryd.prog 38 [.one (.ptr 0 g 0), .one (.d (.list xs.length (ids xs)))] (srcB g code p) fun r B Hn => (∃ x ∈ xs, r = iv .i64 x) ∧ B = srcB g code (p + 1) ∧ Hn = [] := by
  have hw : IntKind.i64.wrap (xs.length : Int) = (xs.length : Int) := wrap_i64 (by omega) (by omega)
  refine rcall_take fun clk => acall_of_aw Tryd.func38 rfl ?_
  simp
  refine acall_ref (k := 0) (c_l1Next code g p xs.length hc hp (by omega)) (by simp) (by simp [srcB]) ?_
  rintro r B Hn c ⟨⟨v, rfl, hv, _⟩, rfl, rfl⟩ _
  have hvl := hv hx1
  simp [hvl, srcB]

theorem c_lwBig (bs : List UInt8) : FCall Tryd.prog 5 [blist bs] fun r H => r = bv (decide (1048576 < (bs.length : Int))) ∧ H = [] := by
  intro clk
  refine acall_of_aw Tryd.func5 rfl ?_
  simp
theorem c_lwSame (a b : List UInt8) : FCall Tryd.prog 20 [blist a, blist b] fun r H => r = bv (decide (a = b)) ∧ H = [] := by
  intro clk
  refine acall_of_aw Tryd.func20 rfl ?_
  simp [bytes_beq]


end Go.Proofs.YtplnbdjonnfcbaaDoor
