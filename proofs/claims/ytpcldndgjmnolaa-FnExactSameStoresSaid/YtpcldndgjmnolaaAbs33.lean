/-
  Rows of one width, one behind the other. No program's text.
-/
import Derived.Test.YtpcldndgjmnolaaAbs32
import Derived.Test.YtpcldndgjmnolaaAbs29
namespace Go.Abs
set_option linter.unusedSimpArgs false
set_option linter.unusedVariables false
set_option linter.unnecessarySimpa false
open Go

/-- What is laid as a row of w cells of plain data. -/
class Row (α : Type) where
  w : Nat
  dcs : α → List DC
  len : ∀ a, (dcs a).length = w
  pos : 0 < w
  flat : ∀ a, ∀ d ∈ dcs a, d.flat = true
  inj : ∀ a b, dcs a = dcs b → a = b

def rds {α : Type} [Row α] (l : List α) : List DC := l.flatMap Row.dcs
def rcs {α : Type} [Row α] (l : List α) : List AC := (rds l).map .d
abbrev rlist {α : Type} [Row α] (l : List α) : AV := .one (.d (.list l.length (rds l)))

section
variable {α : Type} [Row α]
@[simp] theorem rds_nil : rds ([] : List α) = [] := rfl
@[simp] theorem rcs_nil : rcs ([] : List α) = [] := rfl
@[simp] theorem rds_cons (a : α) (l : List α) : rds (a :: l) = Row.dcs a ++ rds l := by simp [rds]
@[simp] theorem rcs_cons (a : α) (l : List α) : rcs (a :: l) = (Row.dcs a).map .d ++ rcs l := by simp [rcs]
@[simp] theorem rds_append (a b : List α) : rds a ++ rds b = rds (a ++ b) := by simp [rds]
@[simp] theorem rcs_append (a b : List α) : rcs a ++ rcs b = rcs (a ++ b) := by simp [rcs, ← rds_append]
@[simp] theorem rds_map (l : List α) : (rds l).map AC.d = rcs l := rfl
theorem rds_length (l : List α) : (rds l).length = l.length * Row.w α := by
  induction l with
  | nil => simp
  | cons a l ih => rw [rds_cons, List.length_append, Row.len, ih, List.length_cons, Nat.succ_mul]; omega
theorem rcs_length (l : List α) : (rcs l).length = l.length * Row.w α := by rw [rcs, List.length_map, rds_length]
theorem rds_drop (l : List α) (i : Nat) : (rds l).drop (i * Row.w α) = rds (l.drop i) := by
  induction l generalizing i with
  | nil => simp
  | cons a l ih =>
    match i with
    | 0 => simp
    | i + 1 =>
      rw [rds_cons, List.drop_succ_cons, ← ih i, Nat.succ_mul, List.drop_append, Row.len, List.drop_eq_nil_of_le (by rw [Row.len]; omega), List.nil_append]
      congr 1; omega
theorem rds_take (l : List α) (i : Nat) : (rds l).take (i * Row.w α) = rds (l.take i) := by
  induction l generalizing i with
  | nil => simp
  | cons a l ih =>
    match i with
    | 0 => simp
    | i + 1 =>
      rw [rds_cons, List.take_succ_cons, rds_cons, ← ih i, Nat.succ_mul, List.take_append, Row.len, List.take_of_length_le (by rw [Row.len]; omega)]
      congr 2; omega
theorem rcs_drop (l : List α) (i : Nat) : (rcs l).drop (i * Row.w α) = rcs (l.drop i) := by
  rw [rcs, ← List.map_drop, rds_drop]; rfl
theorem rcs_take (l : List α) (i : Nat) : (rcs l).take (i * Row.w α) = rcs (l.take i) := by
  rw [rcs, ← List.map_take, rds_take]; rfl
theorem rcs_drop1 (l : List α) (i : Nat) : (rcs l).drop (i * Row.w α + Row.w α) = rcs (l.drop (i + 1)) := by
  rw [← rcs_drop, Nat.succ_mul]
theorem rcs_zeros (n : Nat) (z : α) : (List.replicate n ((Row.dcs z).map AC.d)).flatten = rcs (List.replicate n z) := by
  induction n with
  | zero => rfl
  | succ n ih => rw [List.replicate_succ, List.flatten_cons, ih, List.replicate_succ, rcs_cons]
@[simp] theorem mapM_dcs (l : List DC) : (l.map AC.d).mapM AC.dc? = some l := by
  induction l with
  | nil => rfl
  | cons b bs ih => rw [List.map_cons, List.mapM_cons, ih]; rfl
@[simp] theorem mapM_rcs (l : List α) : (rcs l).mapM AC.dc? = some (rds l) := mapM_dcs _
@[simp] theorem flatL_rcs (l : List α) : flatL (rcs l) := by
  intro c hc
  simp only [rcs, rds, List.mem_map, List.mem_flatMap] at hc
  obtain ⟨d, ⟨a, _, hd⟩, rfl⟩ := hc
  exact Row.flat a d hd
@[simp] theorem ren_dcs (ρ : Nat → Nat) (l : List DC) : (l.map AC.d).map (AC.ren ρ) = l.map AC.d := by
  rw [List.map_map]; rfl
@[simp] theorem ren_rcs (ρ : Nat → Nat) (l : List α) : (rcs l).map (AC.ren ρ) = rcs l := ren_dcs ρ _
@[simp] theorem ren_rcs2 (ρ τ : Nat → Nat) (l : List α) : (rcs l).map (AC.ren ρ ∘ AC.ren τ) = rcs l := by
  rw [← List.map_map, ren_rcs, ren_rcs]
theorem rds_inj {a b : List α} (h : rds a = rds b) : a = b := by
  induction a generalizing b with
  | nil =>
    cases b with
    | nil => rfl
    | cons y b =>
      have h1 := congrArg List.length h
      have := Row.pos (α := α)
      rw [rds_length, rds_length, List.length_nil, List.length_cons, Nat.succ_mul] at h1
      omega
  | cons x a ih =>
    cases b with
    | nil =>
      have h1 := congrArg List.length h
      have := Row.pos (α := α)
      rw [rds_length, rds_length, List.length_nil, List.length_cons, Nat.succ_mul] at h1
      omega
    | cons y b =>
      rw [rds_cons, rds_cons] at h
      obtain ⟨h1, h2⟩ := List.append_inj h (by rw [Row.len, Row.len])
      rw [Row.inj x y h1, ih h2]
@[simp] theorem rcs_inj (a b : List α) : rcs a = rcs b ↔ a = b :=
  ⟨fun h => rds_inj ((List.map_inj_right (fun x y e => by cases e; rfl)).1 h), fun h => by rw [h]⟩
end
/-- The element at a place, what is behind it. -/
theorem drop_at {α : Type} (l : List α) {i : Nat} (h : i < l.length) : ∃ o t, l.drop i = o :: t ∧ l[i]? = some o ∧ l.drop (i + 1) = t ∧ l.take (i + 1) = l.take i ++ [o] := by
  refine ⟨l[i], l.drop (i + 1), List.drop_eq_getElem_cons h, List.getElem?_eq_getElem h, rfl, ?_⟩
  rw [List.take_succ_eq_append_getElem h]
end Go.Abs
