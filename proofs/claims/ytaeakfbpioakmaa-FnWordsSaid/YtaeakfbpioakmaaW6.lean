/-
  The law of ReadWord.
-/
import Derived.Test.YtaeakfbpioakmaaW5
namespace Go.Proofs.Ytaeakfbpioakmaa
open Go Go.Abs Go.Proofs

def rwCode (bs : List UInt8) (p k : Int) : Int := if (1 ≤ k ∧ k ≤ 6) ∧ 0 ≤ p ∧ p ≤ (bs.length : Int) - k then 0 else 3
def rwVal (bs : List UInt8) (p k : Int) : Int := if (1 ≤ k ∧ k ≤ 6) ∧ 0 ≤ p ∧ p ≤ (bs.length : Int) - k then ((rdN ((bs.drop p.toNat).take k.toNat) : Nat) : Int) else 0
theorem RWPost.eq {bs : List UInt8} {p k : Int} {r : AV} {H : AHeap} (h : RWPost bs p k r H) : r = .agg [.d (.s (.int .i64 (rwCode bs p k))), .d (.s (.int .i64 (rwVal bs p k)))] ∧ H = [] := by
  refine ⟨?_, h.2⟩
  rcases h.1 with ⟨hok, rfl⟩ | ⟨hno, rfl⟩
  · have : (1 ≤ k ∧ k ≤ 6) ∧ 0 ≤ p ∧ p ≤ (bs.length : Int) - k := hok
    rw [rwCode, rwVal, if_pos this, if_pos this]
  · have : ¬ ((1 ≤ k ∧ k ≤ 6) ∧ 0 ≤ p ∧ p ≤ (bs.length : Int) - k) := hno
    rw [rwCode, rwVal, if_neg this, if_neg this]

theorem c7 (a : List UInt8) (p k : Int) : FCall Try.prog 7 [blist a, iv .i64 p, iv .i64 k] fun r H => r = bv true ∧ H = [] := by
  by_cases ha : a.length ≤ 1048576
  · have ha' : (a.length : Int) ≤ 1048576 := by omega
    refine fcall_gather [] id fun clk => acall_of_aw Try.func7 rfl ?_
    simp [ha']
    refine acall_pure (c39 a ha) (by simp) ?_
    rintro r Hn c ⟨g, rfl, rfl⟩ _
    simp
    refine acall_pure (c20 a p k (by omega)) (by simp) ?_
    rintro r Hn c h _
    obtain ⟨rfl, rfl⟩ := h.eq
    simp
    refine acall_pure (c39 a ha) (by simp) ?_
    rintro r Hn c ⟨g, rfl, rfl⟩ _
    simp
    refine acall_pure (c17 a p k (by omega)) (by simp) ?_
    rintro r Hn c h _
    obtain ⟨rfl, rfl⟩ := h.eq
    simp
    refine acall_pure (c40 (rwCode a p k) (rwVal a p k) (rwCode a p k) (rwVal a p k)) (by simp) ?_
    rintro r Hn c ⟨rfl, rfl⟩ _
    simp
    refine acall_pure (c39 a ha) (by simp) ?_
    rintro r Hn c ⟨g, rfl, rfl⟩ _
    simp
    refine acall_pure (c41 a a ha) (by simp) ?_
    rintro r Hn c ⟨rfl, rfl⟩ _
    simp
  · have ha' : ¬ (a.length : Int) ≤ 1048576 := by omega
    refine fcall_gather [] id fun clk => acall_of_aw Try.func7 rfl ?_
    simp [ha']
end Go.Proofs.Ytaeakfbpioakmaa
