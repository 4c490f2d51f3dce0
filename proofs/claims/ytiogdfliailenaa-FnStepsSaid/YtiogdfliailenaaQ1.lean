/-
  What the laws' own helpers do: they copy, compare, mark and ask marks.
  Bounds: numbers between others.
-/
import Derived.Test.YtiogdfliailenaaTy
import Derived.Test.YtiogdfliailenaaK3
namespace Go.Proofs.Ytiogdfliailenaa
set_option maxRecDepth 100000
set_option linter.unusedSimpArgs false
set_option linter.unusedVariables false
set_option linter.unnecessarySimpa false
open Go Go.Abs Go.Proofs

theorem c_l1In (n lo hi : Int) : FCall Try.prog 54 [iv .i64 n, iv .i64 lo, iv .i64 hi] fun r H => r = bv (decide (lo ≤ n) && decide (n ≤ hi)) ∧ H = [] := by
  intro clk
  refine acall_of_aw Try.func54 rfl ?_
  by_cases h : lo ≤ n <;> simp [h]

theorem take_set_append (bs : List UInt8) (i : Nat) (h : i < bs.length) : (bs.take i ++ List.replicate (bs.length - i) 0).set i bs[i] = bs.take (i + 1) ++ List.replicate (bs.length - (i + 1)) 0 := by
  have h1 : bs.length - i = (bs.length - (i + 1)) + 1 := by omega
  rw [h1, List.replicate_succ, List.set_append_right _ _ (by rw [List.length_take]; omega), List.take_succ_eq_append_getElem h]
  have : i - (bs.take i).length = 0 := by rw [List.length_take]; omega
  rw [this, List.append_assoc]
  rfl


theorem take_snoc_eq {a b : List UInt8} {i : Nat} (ha : i < a.length) (hb : i < b.length) (h : a.take i = b.take i) (he : a[i] = b[i]) : a.take (i + 1) = b.take (i + 1) := by
  rw [List.take_succ_eq_append_getElem ha, List.take_succ_eq_append_getElem hb, h, he]


/-- The marks: one number behind another, from k on. -/
def marks : Nat → Nat → List UInt8
  | _, 0 => []
  | k, n + 1 => UInt8.ofNat (k % 256) :: marks (k + 1) n
theorem marks_length (k n : Nat) : (marks k n).length = n := by
  induction n generalizing k with
  | zero => rfl
  | succ n ih => simp [marks, ih]
theorem marks_at (k n i : Nat) (h : i < n) : (marks k n)[i]? = some (UInt8.ofNat ((k + i) % 256)) := by
  induction n generalizing k i with
  | zero => omega
  | succ n ih =>
    match i with
    | 0 => simp [marks]
    | i + 1 => simp only [marks, List.getElem?_cons_succ]; rw [ih (k + 1) i (by omega)]; congr 3; omega
theorem u8_wrap (k : Nat) : IntKind.u8.wrap (k : Int) = ((UInt8.ofNat (k % 256)).toNat : Int) := by
  rw [wrap_u8, UInt8.toNat_ofNat']
  omega

theorem take_marks_set (bs : List UInt8) (k i : Nat) (h : i < bs.length) :
    (marks k i ++ bs.drop i).set i (UInt8.ofNat ((k + i) % 256)) = marks k (i + 1) ++ bs.drop (i + 1) := by
  apply List.ext_getElem?
  intro j
  simp only [List.getElem?_set, List.getElem?_append, marks_length, List.length_append, List.length_drop, List.getElem?_drop]
  by_cases h1 : i = j
  · subst h1
    rw [if_pos rfl, if_pos (by omega), if_pos (by omega), marks_at _ _ _ (by omega)]
  · rw [if_neg h1]
    by_cases h2 : j < i
    · rw [if_pos h2, if_pos (by omega), marks_at _ _ _ h2, marks_at _ _ _ (by omega)]
    · rw [if_neg h2, if_neg (by omega)]; congr 1; omega





end Go.Proofs.Ytiogdfliailenaa
namespace Go.Proofs.Ytiogdfliailenaa
set_option maxRecDepth 100000
set_option linter.unusedSimpArgs false
set_option linter.unusedVariables false
set_option linter.unnecessarySimpa false
open Go Go.Abs Go.Proofs

/-! Bounds -/
structure Sp where
  x : Int
  lo : Int
  hi : Int
def Sp.ok (s : Sp) : Bool := decide (s.lo ≤ s.x) && decide (s.x ≤ s.hi)
def sps : List Sp → List DC
  | [] => []
  | s :: l => .s (.int .i64 s.x) :: .s (.int .i64 s.lo) :: .s (.int .i64 s.hi) :: sps l
@[simp] theorem sps_length (l : List Sp) : (sps l).length = l.length * 3 := by
  induction l with
  | nil => rfl
  | cons s l ih => simp [sps, ih]; omega
theorem sps_drop (l : List Sp) (i : Nat) (h : i < l.length) : (sps l).drop (i * 3) = .s (.int .i64 l[i].x) :: .s (.int .i64 l[i].lo) :: .s (.int .i64 l[i].hi) :: (sps l).drop ((i + 1) * 3) := by
  induction l generalizing i with
  | nil => simp at h
  | cons s l ih =>
    match i with
    | 0 => simp [sps]
    | i + 1 =>
      have h1 : (i + 1) * 3 = i * 3 + 3 := by omega
      have h2 : (i + 1 + 1) * 3 = (i + 1) * 3 + 3 := by omega
      rw [h1, h2]
      simpa [sps] using ih i (by simpa using h)
theorem all_take {l : List Sp} {i : Nat} (h : i < l.length) (ha : (l.take i).all Sp.ok = true) : (l.take (i + 1)).all Sp.ok = l[i].ok := by
  rw [List.take_succ_eq_append_getElem h, List.all_append, ha]; simp
theorem all_of_not {l : List Sp} {i : Nat} (h : i < l.length) (hf : l[i].ok = false) : l.all Sp.ok = false := by
  rw [List.all_eq_false]; exact ⟨l[i], List.getElem_mem h, by simp [hf]⟩
def AllOk (l : List Sp) (i : Nat) : Prop := (l.take i).all Sp.ok = true
def OkAll (l : List Sp) : Bool := l.all Sp.ok

theorem c_inBounds (l : List Sp) (hl : l.length ≤ 1000) : FCall Try.prog 44 [.one (.d (.list l.length (sps l)))] fun r H => r = bv (OkAll l) ∧ H = [] := by
  refine fcall_gather [] id fun clk => acall_of_aw Try.func44 rfl ?_
  simp
  refine codeOk_loop [true, false, false, false, false, true, true, true] 0 (fun s => ∃ (i c : Nat), i ≤ l.length ∧ AllOk l i ∧
      s = ⟨[.one (.d (.list l.length (sps l))), unknown, unknown, unknown, unknown, .one (.d (.list l.length (sps l))), iv .i64 l.length, iv .i64 i] ++ List.replicate 16 unknown, [], c⟩)
    (fun s => match s.tmps.getD 7 unknown with | .one (.d (.s (.int _ i))) => l.length - i.toNat | _ => 0) ?_ ?_
  · simp
    exact ⟨0, Nat.zero_le _, by simp [AllOk], rfl⟩
  · rintro s ⟨i, c, hi, ha, rfl⟩
    by_cases hlt : i < l.length
    · have hw := wrap_succ (i := i) (by omega)
      have hd := sps_drop l i hlt
      by_cases h1 : l[i].lo ≤ l[i].x
      · by_cases h2 : l[i].x ≤ l[i].hi
        · have h1' : ¬ l[i].x < l[i].lo := by omega
          have h2' : ¬ l[i].hi < l[i].x := by omega
          simp [hlt, hw, hd, h1, h2, h1', h2']
          exact ⟨⟨i + 1, by omega, by unfold AllOk; rw [all_take hlt ha]; simp [Sp.ok, h1, h2], by omega⟩, by omega⟩
        · have h1' : ¬ l[i].x < l[i].lo := by omega
          have h2' : l[i].hi < l[i].x := by omega
          have hf : OkAll l = false := all_of_not hlt (by simp [Sp.ok, h2])
          simp [hlt, hw, hd, h1, h2, h1', h2', hf]
      · have h1' : l[i].x < l[i].lo := by omega
        have hf : OkAll l = false := all_of_not hlt (by simp [Sp.ok, h1])
        simp [hlt, hw, hd, h1, h1', hf]
    · have e : i = l.length := by omega
      subst e
      have hf : OkAll l = true := by unfold AllOk at ha; simpa [OkAll] using ha
      simp [hf]
end Go.Proofs.Ytiogdfliailenaa
