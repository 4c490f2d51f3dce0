/-
  Bounds: numbers between others.
-/
import Derived.Test.YtadhojoalpkabaaW1
namespace Go.Proofs.Ytadhojoalpkabaa
set_option maxRecDepth 100000
set_option linter.unusedSimpArgs false
set_option linter.unusedVariables false
set_option linter.unnecessarySimpa false
open Go Go.Abs Go.Proofs

/-! Bounds -/
structure Sp where
  x : Int
  lo : Int
  hi : Int
def Sp.ok (s : Sp) : Bool := decide (s.lo ≤ s.x) && decide (s.x ≤ s.hi)
def sps : List Sp → List DC
  | [] => []
  | s :: l => .s (.int .i64 s.x) :: .s (.int .i64 s.lo) :: .s (.int .i64 s.hi) :: sps l
@[simp] theorem sps_length (l : List Sp) : (sps l).length = l.length * 3 := by
  induction l with
  | nil => rfl
  | cons s l ih => simp [sps, ih]; omega
theorem sps_drop (l : List Sp) (i : Nat) (h : i < l.length) : (sps l).drop (i * 3) = .s (.int .i64 l[i].x) :: .s (.int .i64 l[i].lo) :: .s (.int .i64 l[i].hi) :: (sps l).drop ((i + 1) * 3) := by
  induction l generalizing i with
  | nil => simp at h
  | cons s l ih =>
    match i with
    | 0 => simp [sps]
    | i + 1 =>
      have h1 : (i + 1) * 3 = i * 3 + 3 := by omega
      have h2 : (i + 1 + 1) * 3 = (i + 1) * 3 + 3 := by omega
      rw [h1, h2]
      simpa [sps] using ih i (by simpa using h)
theorem all_take {l : List Sp} {i : Nat} (h : i < l.length) (ha : (l.take i).all Sp.ok = true) : (l.take (i + 1)).all Sp.ok = l[i].ok := by
  rw [List.take_succ_eq_append_getElem h, List.all_append, ha]; simp
theorem all_of_not {l : List Sp} {i : Nat} (h : i < l.length) (hf : l[i].ok = false) : l.all Sp.ok = false := by
  rw [List.all_eq_false]; exact ⟨l[i], List.getElem_mem h, by simp [hf]⟩
def AllOk (l : List Sp) (i : Nat) : Prop := (l.take i).all Sp.ok = true
def OkAll (l : List Sp) : Bool := l.all Sp.ok

theorem c_inBounds (l : List Sp) (hl : l.length ≤ 1000) : FCall Try.prog 36 [.one (.d (.list l.length (sps l)))] fun r H => r = bv (OkAll l) ∧ H = [] := by
  refine fcall_gather [] id fun clk => acall_of_aw Try.func36 rfl ?_
  simp
  refine codeOk_loop [true, false, false, false, false, true, true, true] 0 (fun s => ∃ (i c : Nat), i ≤ l.length ∧ AllOk l i ∧
      s = ⟨[.one (.d (.list l.length (sps l))), unknown, unknown, unknown, unknown, .one (.d (.list l.length (sps l))), iv .i64 l.length, iv .i64 i] ++ List.replicate 16 unknown, [], c⟩)
    (fun s => match s.tmps.getD 7 unknown with | .one (.d (.s (.int _ i))) => l.length - i.toNat | _ => 0) ?_ ?_
  · simp
    exact ⟨0, Nat.zero_le _, by simp [AllOk], rfl⟩
  · rintro s ⟨i, c, hi, ha, rfl⟩
    by_cases hlt : i < l.length
    · have hw := wrap_succ (i := i) (by omega)
      have hd := sps_drop l i hlt
      by_cases h1 : l[i].lo ≤ l[i].x
      · by_cases h2 : l[i].x ≤ l[i].hi
        · have h1' : ¬ l[i].x < l[i].lo := by omega
          have h2' : ¬ l[i].hi < l[i].x := by omega
          simp [hlt, hw, hd, h1, h2, h1', h2']
          exact ⟨⟨i + 1, by omega, by unfold AllOk; rw [all_take hlt ha]; simp [Sp.ok, h1, h2], by omega⟩, by omega⟩
        · have h1' : ¬ l[i].x < l[i].lo := by omega
          have h2' : l[i].hi < l[i].x := by omega
          have hf : OkAll l = false := all_of_not hlt (by simp [Sp.ok, h2])
          simp [hlt, hw, hd, h1, h2, h1', h2', hf]
      · have h1' : l[i].x < l[i].lo := by omega
        have hf : OkAll l = false := all_of_not hlt (by simp [Sp.ok, h1])
        simp [hlt, hw, hd, h1, h1', hf]
    · have e : i = l.length := by omega
      subst e
      have hf : OkAll l = true := by unfold AllOk at ha; simpa [OkAll] using ha
      simp [hf]
end Go.Proofs.Ytadhojoalpkabaa
