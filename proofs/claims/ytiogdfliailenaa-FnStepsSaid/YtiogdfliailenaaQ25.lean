/-
  Equal bytes.
  What the laws draw: one of a list, some bytes, a chance.
-/
import Derived.Test.YtiogdfliailenaaQ1
import Derived.Test.YtiogdfliailenaaQ24
namespace Go.Proofs.Ytiogdfliailenaa
set_option maxRecDepth 100000
set_option linter.unusedSimpArgs false
set_option linter.unusedVariables false
set_option linter.unnecessarySimpa false
open Go Go.Abs Go.Proofs

@[simp] theorem bytes_beq (a b : List UInt8) : (a == b) = decide (a = b) := by
  by_cases h : a = b
  · subst h; simp
  · simp [h]

end Go.Proofs.Ytiogdfliailenaa
namespace Go.Proofs.Ytiogdfliailenaa
set_option maxRecDepth 100000
set_option linter.unusedSimpArgs false
set_option linter.unusedVariables false
set_option linter.unnecessarySimpa false
open Go Go.Abs Go.Proofs

def ids (xs : List Int) : List DC := xs.map fun x => .s (.int .i64 x)
@[simp] theorem ids_length (xs : List Int) : (ids xs).length = xs.length := by simp [ids]
@[simp] theorem ids_at (xs : List Int) (i : Nat) : (ids xs)[i]? = xs[i]?.map fun x => .s (.int .i64 x) := by simp [ids]
@[simp] theorem ids_drop (xs : List Int) (i : Nat) : (ids xs).drop i = ids (xs.drop i) := by simp [ids]

@[simp] theorem ids_head (xs : List Int) : (ids xs).head? = xs.head?.map fun x => .s (.int .i64 x) := by cases xs <;> simp [ids]
@[simp] theorem srcB_ren (ρ : Nat → Nat) (g p : Nat) (code : List UInt8) : ABlk.ren ρ (srcB g code p) = srcB g code p := by simp [srcB]

theorem c_l1Source (code : List UInt8) (clk : Nat) : ACall Try.prog 45 [blist code] [] clk fun r H c => ∃ g, r = .one (.ptr 0 g 0) ∧ H = [some (srcB g code 0)] ∧ clk ≤ c := by
  refine acall_of_aw Try.func45 rfl ?_
  simp [srcB]

set_option maxRecDepth 100000 in
theorem c_l1Pick (code : List UInt8) (g p : Nat) (xs : List Int) (hc : code.length ≤ 1048576) (hp : p ≤ 1099511627776) (hx1 : 1 ≤ xs.length) (hx2 : xs.length ≤ 1000) :
    RCall Try.prog 47 [.one (.ptr 0 g 0), .one (.d (.list xs.length (ids xs)))] (srcB g code p) fun r B Hn => (∃ x ∈ xs, r = iv .i64 x) ∧ B = srcB g code (p + 1) ∧ Hn = [] := by
  have hw : IntKind.i64.wrap (xs.length : Int) = (xs.length : Int) := wrap_i64 (by omega) (by omega)
  refine rcall_take fun clk => acall_of_aw Try.func47 rfl ?_
  simp
  refine acall_ref (k := 0) (c_l1Next code g p xs.length hc hp (by omega)) (by simp) (by simp [srcB]) ?_
  rintro r B Hn c ⟨⟨v, rfl, hv, _⟩, rfl, rfl⟩ _
  have hvl := hv hx1
  simp [hvl, srcB]

theorem c_lwBig (bs : List UInt8) : FCall Try.prog 4 [blist bs] fun r H => r = bv (decide (1048576 < (bs.length : Int))) ∧ H = [] := by
  intro clk
  refine acall_of_aw Try.func4 rfl ?_
  simp

set_option maxRecDepth 100000 in
theorem c_l1Chance (code : List UInt8) (g p n : Nat) (hc : code.length ≤ 1048576) (hp : p ≤ 1099511627776) (hn : n ≤ 1099511627776) :
    RCall Try.prog 67 [.one (.ptr 0 g 0), iv .i64 n] (srcB g code p) fun r B Hn => (∃ b, r = bv b) ∧ B = srcB g code (p + 1) ∧ Hn = [] := by
  refine rcall_take fun clk => acall_of_aw Try.func67 rfl ?_
  simp
  refine acall_ref (k := 0) (c_l1Next code g p n hc hp hn) (by simp) (by simp [srcB]) ?_
  rintro r B Hn c ⟨⟨v, rfl, hv, _⟩, rfl, rfl⟩ _
  simp [srcB]
  omega

end Go.Proofs.Ytiogdfliailenaa
