/-
  What the laws draw: one of a list, some bytes, a chance.
-/
import Derived.Test.YtcfkmdapadejmaaW12
import Derived.Test.YtcfkmdapadejmaaW3
namespace Go.Proofs.Ytcfkmdapadejmaa
set_option maxRecDepth 100000
set_option linter.unusedSimpArgs false
set_option linter.unusedVariables false
set_option linter.unnecessarySimpa false
open Go Go.Abs Go.Proofs

def ids (xs : List Int) : List DC := xs.map fun x => .s (.int .i64 x)
@[simp] theorem ids_length (xs : List Int) : (ids xs).length = xs.length := by simp [ids]
@[simp] theorem ids_at (xs : List Int) (i : Nat) : (ids xs)[i]? = xs[i]?.map fun x => .s (.int .i64 x) := by simp [ids]
@[simp] theorem ids_drop (xs : List Int) (i : Nat) : (ids xs).drop i = ids (xs.drop i) := by simp [ids]

@[simp] theorem ids_head (xs : List Int) : (ids xs).head? = xs.head?.map fun x => .s (.int .i64 x) := by cases xs <;> simp [ids]
@[simp] theorem srcB_ren (ρ : Nat → Nat) (g p : Nat) (code : List UInt8) : ABlk.ren ρ (srcB g code p) = srcB g code p := by simp [srcB]

theorem c_l1Source (code : List UInt8) (clk : Nat) : ACall Try.prog 26 [blist code] [] clk fun r H c => ∃ g, r = .one (.ptr 0 g 0) ∧ H = [some (srcB g code 0)] ∧ clk ≤ c := by
  refine acall_of_aw Try.func26 rfl ?_
  simp [srcB]

set_option maxRecDepth 100000 in
theorem c_l1Pick (code : List UInt8) (g p : Nat) (xs : List Int) (hc : code.length ≤ 1048576) (hp : p ≤ 1099511627776) (hx1 : 1 ≤ xs.length) (hx2 : xs.length ≤ 1000) :
    RCall Try.prog 29 [.one (.ptr 0 g 0), .one (.d (.list xs.length (ids xs)))] (srcB g code p) fun r B Hn => (∃ x ∈ xs, r = iv .i64 x) ∧ B = srcB g code (p + 1) ∧ Hn = [] := by
  have hw : IntKind.i64.wrap (xs.length : Int) = (xs.length : Int) := wrap_i64 (by omega) (by omega)
  refine rcall_take fun clk => acall_of_aw Try.func29 rfl ?_
  simp
  refine acall_ref (k := 0) (c_l1Next code g p xs.length hc hp (by omega)) (by simp) (by simp [srcB]) ?_
  rintro r B Hn c ⟨⟨v, rfl, hv, _⟩, rfl, rfl⟩ _
  have hvl := hv hx1
  simp [hvl, srcB]

theorem c_l1Copy (bs : List UInt8) (hb : bs.length ≤ 1048576) : FCall Try.prog 20 [blist bs] fun r H => ∃ g, r = .one (.own 0 g 0 bs.length) ∧ H = [some ⟨g, 5, 1, bcs bs⟩] := by
  intro clk
  refine acall_of_aw Try.func20 rfl ?_
  simp
  exact ⟨by omega, by show bs.length ≤ 9223372036854775807; omega⟩
theorem c_lwBig (bs : List UInt8) : FCall Try.prog 13 [blist bs] fun r H => r = bv (decide (1048576 < (bs.length : Int))) ∧ H = [] := by
  intro clk
  refine acall_of_aw Try.func13 rfl ?_
  simp
theorem c_lwSame (a b : List UInt8) : FCall Try.prog 15 [blist a, blist b] fun r H => r = bv (decide (a = b)) ∧ H = [] := by
  intro clk
  refine acall_of_aw Try.func15 rfl ?_
  simp [bytes_beq]

set_option maxRecDepth 100000 in
theorem c_l1Chance (code : List UInt8) (g p n : Nat) (hc : code.length ≤ 1048576) (hp : p ≤ 1099511627776) (hn : n ≤ 1099511627776) :
    RCall Try.prog 39 [.one (.ptr 0 g 0), iv .i64 n] (srcB g code p) fun r B Hn => (∃ b, r = bv b) ∧ B = srcB g code (p + 1) ∧ Hn = [] := by
  refine rcall_take fun clk => acall_of_aw Try.func39 rfl ?_
  simp
  refine acall_ref (k := 0) (c_l1Next code g p n hc hp hn) (by simp) (by simp [srcB]) ?_
  rintro r B Hn c ⟨⟨v, rfl, hv, _⟩, rfl, rfl⟩ _
  simp [srcB]
  omega

/-- Some bytes. -/
theorem c_l1Some (code : List UInt8) (g p n : Nat) (hc : code.length ≤ 1048576) (hp : p + n ≤ 1099511627776) (hn : n ≤ 1048576) :
    RCall Try.prog 28 [.one (.ptr 0 g 0), iv .i64 n] (srcB g code p) fun r B Hn => ∃ g2 bs, bs.length = n ∧ r = .one (.own 1 g2 0 n) ∧ B = srcB g code (p + n) ∧ Hn = [some ⟨g2, 5, 1, bcs bs⟩] := by
  intro clk
  refine acall_of_aw Try.func28 rfl ?_
  simp
  refine codeOk_loop [true, true, false, false, false, true] 2 (fun s => ∃ (i k g2 c : Nat) (bs : List UInt8), i + k = n ∧ bs.length = i ∧
      s = ⟨[.one (.ptr 0 g 0), iv .i64 k, unknown, unknown, unknown, .one (.own 1 g2 0 i)] ++ List.replicate 12 unknown, [some (srcB g code (p + i)), some ⟨g2, 5, 1, bcs bs⟩], c⟩)
    (fun s => match s.tmps.getD 1 unknown with | .one (.d (.s (.int _ i))) => i.toNat | _ => 0) ?_ ?_
  · simp
    exact ⟨0, n, by omega, clk, clk + 1, [], rfl, ⟨rfl, rfl, rfl⟩, ⟨rfl, rfl, rfl⟩, rfl⟩
  · rintro s ⟨i, k, g2, c, bs, hk, hb, rfl⟩
    by_cases hlt : 0 < k
    · have hlt' : (0 : Int) < k := by omega
      have hw : IntKind.i64.wrap ((k : Int) - 1) = ((k - 1 : Nat) : Int) := by rw [wrap_i64 (by omega) (by omega)]; omega
      have hlt2 : ¬ (k : Int) ≤ 0 := by omega
      simp [hlt', hlt, hlt2, hw]
      refine acall_ref (k := 0) (c_l1Next code g (p + i) 256 hc (by omega) (by omega)) (by simp) (by simp [srcB]) ?_
      rintro r B Hn c ⟨⟨v, rfl, hv, _⟩, rfl, rfl⟩ _
      obtain ⟨b, hbv⟩ : ∃ b : UInt8, IntKind.u8.wrap (v : Int) = (b.toNat : Int) := ⟨UInt8.ofNat (v % 256), by rw [wrap_u8, UInt8.toNat_ofNat']; omega⟩
      simp [hbv]
      refine ⟨⟨by omega, by omega, by show i + 1 ≤ 9223372036854775807; omega⟩, ⟨i + 1, k - 1, by omega, c + 1, c + 1 + 1, bs ++ [b], by simp [hb], ⟨hw, rfl, rfl⟩, ⟨by simp [srcB, Nat.add_assoc], rfl, ?_⟩, rfl⟩, by rw [hw]; omega⟩
      rw [List.take_of_length_le (by omega)]; simp [bcs]
    · have e : k = 0 := by omega
      subst e
      have e : i = n := by omega
      subst e
      simp
      exact hb
end Go.Proofs.Ytcfkmdapadejmaa
