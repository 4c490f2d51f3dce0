/-
  From an abstract call to what a statement asks: it returns, and nothing that was there has changed. No program's text.
-/
import Derived.Test.YtjalcajhmiamgaaAbs20
import Derived.Below
namespace Go.Abs
set_option linter.unusedSimpArgs false
set_option linter.unusedVariables false
set_option linter.unnecessarySimpa false
open Go Go.RowKit

/-- Where a call is looked at from: all that is there may be read, nothing may be written. -/
def baseE (w : World) : Env := ⟨fun b => b < w.heap.size, [], 0⟩
theorem baseSim (w : World) (hg : ∀ (g : Nat) (cs : List DC), globT g = some cs → RelD w (baseE w).I (.rptr cs) (.pointer (some ⟨g, 0, none⟩))) : SimH w (baseE w) [] := ⟨rfl, fun k i h => by simp [baseE] at h, fun _ h => h, fun k B h => by simp at h, fun k k' B B' i i' b h => by simp at h, hg⟩

theorem rel_int (w : World) (E : Env) (k : IntKind) (n : Int) : RelV w E (.one (.d (.s (.int k n)))) (.int k n) := RelD.s rfl
theorem rel_bool (w : World) (E : Env) (b : Bool) : RelV w E (.one (.d (.s (.bool b)))) (.bool b) := RelD.s rfl

theorem relVs_nil (w : World) (E : Env) : RelVs w E [] [] := ⟨rfl, fun j x v h => by simp at h⟩
theorem relVs_cons {w : World} {E : Env} {x : AV} {v : Value} {xs : List AV} {vs : List Value} (h : RelV w E x v) (k : RelVs w E xs vs) : RelVs w E (x :: xs) (v :: vs) :=
  ⟨by simp [k.1], fun j y u hy hu => by
    match j with
    | 0 => simp at hy hu; subst hy; subst hu; exact h
    | j + 1 => exact k.2 j y u (by simpa using hy) (by simpa using hu)⟩

theorem true_of_fcall {P : Program} {f : FuncId} {args : List AV} (h : FCall P f args fun r H => r = .one (.d (.s (.bool true))) ∧ H = []) (w : World)
    (hg : ∀ (g : Nat) (cs : List DC), globT g = some cs → RelD w (baseE w).I (.rptr cs) (.pointer (some ⟨g, 0, none⟩))) (vals : List Value)
    (hr : RelVs w (baseE w) args vals) : Calls P f vals.toArray w fun e w' => e = .returned (.bool true) ∧ Below w.heap.size w w' := by
  refine (h 0 w (baseE w) vals rfl (baseSim w hg) hr).mono fun e w' ⟨v, r, H', E', he, _, _, hrel, hfrm, _, _, _, _, hr', _⟩ => ?_
  subst hr'
  cases hrel with
  | s hs => exact ⟨he, hfrm.os, hfrm.tape, hfrm.output, hfrm.size, fun k hk => hfrm.block k hk (fun ⟨k', B, i, hb, _⟩ => by simp at hb)⟩

/-- Bytes that came in. -/
theorem row_bytes {w : World} {a : Option Addr} {len cap : Nat} {zs : List Int}
    (h : (a = none ∧ len = 0 ∧ cap = 0 ∧ zs = []) ∨
      ∃ x, a = some x ∧ len ≤ cap ∧ cap ≤ maxLen ∧ zs.length = cap ∧ (∀ i, i < zs.length → w.cell? (x.add i) = some (.int .u8 (zs.getD i 0))) ∧ ∀ n ∈ zs, (Lit.int .u8 n).wf = true) :
    ∃ bs : List UInt8, bs.length = len ∧ RelV w (baseE w) (blist bs) (.slice a len cap) := by
  rcases h with ⟨rfl, rfl, rfl, rfl⟩ | ⟨x, rfl, hl, hc, hz, hcell, hwf⟩
  · exact ⟨[], rfl, RelD.list (fun _ => .bool true) (fun h => absurd rfl h) (fun j h => by simp at h) (by simp) (by simp)⟩
  · refine ⟨(zs.take len).map fun z => UInt8.ofNat z.toNat, by simp; omega, ?_⟩
    have hlen : ((zs.take len).map fun z => UInt8.ofNat z.toNat).length = len := by simp; omega
    rw [blist, hlen]
    refine RelD.list (fun j => .int .u8 (zs.getD j 0)) (fun hne => ⟨x, rfl, ?_, fun j hj => hcell j ?_⟩) (fun j hj => ?_) hl hc
    · have h0 : 0 < zs.length := by
        rcases Nat.eq_zero_or_pos zs.length with h | h
        · exact absurd (by rw [List.length_eq_zero_iff] at h; subst h; simp) hne
        · exact h
      have := hcell 0 h0
      unfold World.cell? at this
      rw [add_block] at this
      show x.block < w.heap.size
      rcases Nat.lt_or_ge x.block w.heap.size with h | h
      · exact h
      · rw [Array.getElem?_eq_none h] at this; simp at this
    · rw [bds_length, hlen] at hj; omega
    · rw [bds_length, hlen] at hj
      have hjz : j < zs.length := by omega
      have hm := hwf zs[j] (List.getElem_mem hjz)
      have hr : 0 ≤ zs[j] ∧ zs[j] < 256 := by
        have hm' : (decide ((0 : Int) ≤ zs[j]) && decide (zs[j] ≤ 255)) = true := hm
        simp at hm'
        omega
      have e : (bds ((zs.take len).map fun z => UInt8.ofNat z.toNat))[j]'(by rw [bds_length, hlen]; exact hj) = .s (.int .u8 (zs.getD j 0)) := by
        simp [bds, hjz, UInt8.toNat_ofNat']
        omega
      rw [e]
      exact RelD.s rfl
end Go.Abs
