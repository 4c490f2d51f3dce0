/-
  Lists of objects and of changes: rows.
-/
import Derived.Test.YtiogdfliailenaaQ6
import Derived.Test.YtiogdfliailenaaK5
namespace Go.Proofs.Ytiogdfliailenaa
set_option maxRecDepth 100000
set_option linter.unusedSimpArgs false
set_option linter.unusedVariables false
set_option linter.unnecessarySimpa false
open Go Go.Abs Go.Proofs
def ob0 : Ob := ⟨0, 0, 0, 0, 0, 0, 0⟩
structure Ch where
  rev : Int
  gone : Bool
  ob : Ob
  deriving DecidableEq
abbrev Ch.dcs (c : Ch) : List DC := [dc c.rev, .s (.bool c.gone), dc c.ob.kind, dc c.ob.id, dc c.ob.a, dc c.ob.b, dc c.ob.c, dc c.ob.d, dc c.ob.rev]
abbrev Ch.cells (c : Ch) : List AC := [ic c.rev, .d (.s (.bool c.gone)), ic c.ob.kind, ic c.ob.id, ic c.ob.a, ic c.ob.b, ic c.ob.c, ic c.ob.d, ic c.ob.rev]
abbrev Ch.av (c : Ch) : AV := .agg c.cells
def ch0 : Ch := ⟨0, false, ob0⟩
instance : Row Ob where
  w := 7
  dcs := Ob.dcs
  len _ := rfl
  pos := by decide
  flat a d h := by simp at h; rcases h with rfl | rfl | rfl | rfl | rfl | rfl | rfl <;> rfl
  inj a b h := by cases a; cases b; simpa using h
instance : Row Ch where
  w := 9
  dcs := Ch.dcs
  len _ := rfl
  pos := by decide
  flat a d h := by simp at h; rcases h with rfl | rfl | rfl | rfl | rfl | rfl | rfl | rfl | rfl <;> rfl
  inj a b h := by
    obtain ⟨r, g, o⟩ := a; obtain ⟨r', g', o'⟩ := b; cases o; cases o'; simpa using h
@[simp] theorem dcs_ob (o : Ob) : Row.dcs o = o.dcs := rfl
@[simp] theorem dcs_ch (o : Ch) : Row.dcs o = o.dcs := rfl
section
variable (l : List Ob) (m : List Ch) (i n : Nat)
@[simp] theorem rds_len7 : (rds l).length = l.length * 7 := rds_length l
@[simp] theorem rds_len9 : (rds m).length = m.length * 9 := rds_length m
@[simp] theorem rcs_len7 : (rcs l).length = l.length * 7 := rcs_length l
@[simp] theorem rcs_len9 : (rcs m).length = m.length * 9 := rcs_length m
@[simp] theorem rds_drop7 : (rds l).drop (i * 7) = rds (l.drop i) := rds_drop l i
@[simp] theorem rds_drop9 : (rds m).drop (i * 9) = rds (m.drop i) := rds_drop m i
@[simp] theorem rcs_drop7 : (rcs l).drop (i * 7) = rcs (l.drop i) := rcs_drop l i
@[simp] theorem rcs_drop9 : (rcs m).drop (i * 9) = rcs (m.drop i) := rcs_drop m i
@[simp] theorem rcs_drop17 : (rcs l).drop (i * 7 + 7) = rcs (l.drop (i + 1)) := rcs_drop1 l i
@[simp] theorem rcs_drop19 : (rcs m).drop (i * 9 + 9) = rcs (m.drop (i + 1)) := rcs_drop1 m i
@[simp] theorem rds_take7 : (rds l).take (i * 7) = rds (l.take i) := rds_take l i
@[simp] theorem rds_take9 : (rds m).take (i * 9) = rds (m.take i) := rds_take m i
@[simp] theorem rcs_take7 : (rcs l).take (i * 7) = rcs (l.take i) := rcs_take l i
@[simp] theorem rcs_take9 : (rcs m).take (i * 9) = rcs (m.take i) := rcs_take m i
@[simp] theorem rcs_zeros7 : (List.replicate n [ic 0, ic 0, ic 0, ic 0, ic 0, ic 0, ic 0]).flatten = rcs (List.replicate n ob0) := rcs_zeros n ob0
@[simp] theorem rcs_zeros9 : (List.replicate n [ic 0, .d (.s (.bool false)), ic 0, ic 0, ic 0, ic 0, ic 0, ic 0, ic 0]).flatten = rcs (List.replicate n ch0) := rcs_zeros n ch0
end
@[simp high] theorem eqVs_ob (x y : Ob) : eqVs [.int .i64 x.kind, .int .i64 x.id, .int .i64 x.a, .int .i64 x.b, .int .i64 x.c, .int .i64 x.d, .int .i64 x.rev] [.int .i64 y.kind, .int .i64 y.id, .int .i64 y.a, .int .i64 y.b, .int .i64 y.c, .int .i64 y.d, .int .i64 y.rev] = decide (x = y) := by
  cases x; cases y; simp [Bool.decide_and]
@[simp high] theorem eqVs_ch (x y : Ch) : eqVs [.int .i64 x.rev, .bool x.gone, .int .i64 x.ob.kind, .int .i64 x.ob.id, .int .i64 x.ob.a, .int .i64 x.ob.b, .int .i64 x.ob.c, .int .i64 x.ob.d, .int .i64 x.ob.rev] [.int .i64 y.rev, .bool y.gone, .int .i64 y.ob.kind, .int .i64 y.ob.id, .int .i64 y.ob.a, .int .i64 y.ob.b, .int .i64 y.ob.c, .int .i64 y.ob.d, .int .i64 y.ob.rev] = decide (x = y) := by
  obtain ⟨r, g, o⟩ := x; obtain ⟨r', g', o'⟩ := y; cases o; cases o'; cases g <;> cases g' <;> simp [Bool.decide_and]
theorem take_set_row {α : Type} (l : List α) (z o : α) {i : Nat} (h : i < l.length) (ho : l[i]? = some o) : (l.take i ++ List.replicate (l.length - i) z).take i ++ (o :: (l.take i ++ List.replicate (l.length - i) z).drop (i + 1)) = l.take (i + 1) ++ List.replicate (l.length - (i + 1)) z := by
  have h1 : l.length - i = (l.length - (i + 1)) + 1 := by omega
  have e : (l.take i).length = i := by rw [List.length_take]; omega
  rw [List.take_append, e, Nat.sub_self, List.take_zero, List.append_nil, List.take_take, Nat.min_self, h1, List.replicate_succ, List.drop_append, e, List.drop_eq_nil_of_le (by rw [e]; omega)]
  rw [show i + 1 - i = 1 by omega]
  have : l.take (i + 1) = l.take i ++ [o] := by
    rw [List.take_add_one, ho]; rfl
  rw [this]; simp
structure St where
  rev : Int
  obs : List Ob
  hist : List Ch
  deriving DecidableEq
abbrev St.av (s : St) : AV := .agg [ic s.rev, .d (.list s.obs.length (rds s.obs)), .d (.list s.hist.length (rds s.hist))]
theorem take_snoc_row {α : Type} {a b : List α} {i : Nat} {x y : α} (ha : a[i]? = some x) (hb : b[i]? = some y) (h : a.take i = b.take i) (he : x = y) : a.take (i + 1) = b.take (i + 1) := by
  rw [List.take_add_one, List.take_add_one, h, ha, hb, he]
theorem ne_at {α : Type} {a b : List α} {i : Nat} {x y : α} (ha : a[i]? = some x) (hb : b[i]? = some y) (he : ¬ x = y) : ¬ a = b := by
  rintro rfl; rw [ha] at hb; cases hb; exact he rfl
end Go.Proofs.Ytiogdfliailenaa
