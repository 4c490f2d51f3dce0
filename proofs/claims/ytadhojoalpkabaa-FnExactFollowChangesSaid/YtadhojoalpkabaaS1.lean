/-
  Lists of objects and of changes: rows.
-/
import Derived.Test.YtadhojoalpkabaaA2
import Derived.Test.YtadhojoalpkabaaK5
namespace Go.Proofs.Ytadhojoalpkabaa
set_option maxRecDepth 100000
set_option linter.unusedSimpArgs false
set_option linter.unusedVariables false
set_option linter.unnecessarySimpa false
open Go Go.Abs Go.Proofs
def ob0 : Ob := ⟨0, 0, 0, 0, 0, 0, 0⟩
structure Ch where
  rev : Int
  gone : Bool
  ob : Ob
  deriving DecidableEq
abbrev Ch.dcs (c : Ch) : List DC := [dc c.rev, .s (.bool c.gone), dc c.ob.kind, dc c.ob.id, dc c.ob.a, dc c.ob.b, dc c.ob.c, dc c.ob.d, dc c.ob.rev]
abbrev Ch.cells (c : Ch) : List AC := [ic c.rev, .d (.s (.bool c.gone)), ic c.ob.kind, ic c.ob.id, ic c.ob.a, ic c.ob.b, ic c.ob.c, ic c.ob.d, ic c.ob.rev]
abbrev Ch.av (c : Ch) : AV := .agg c.cells
def ch0 : Ch := ⟨0, false, ob0⟩
instance : Row Ob where
  w := 7
  dcs := Ob.dcs
  len _ := rfl
  pos := by decide
  flat a d h := by simp at h; rcases h with rfl | rfl | rfl | rfl | rfl | rfl | rfl <;> rfl
  inj a b h := by cases a; cases b; simpa using h
instance : Row Ch where
  w := 9
  dcs := Ch.dcs
  len _ := rfl
  pos := by decide
  flat a d h := by simp at h; rcases h with rfl | rfl | rfl | rfl | rfl | rfl | rfl | rfl | rfl <;> rfl
  inj a b h := by
    obtain ⟨r, g, o⟩ := a; obtain ⟨r', g', o'⟩ := b; cases o; cases o'; simpa using h
@[simp] theorem dcs_ob (o : Ob) : Row.dcs o = o.dcs := rfl
@[simp] theorem dcs_ch (o : Ch) : Row.dcs o = o.dcs := rfl
section
variable (l : List Ob) (m : List Ch) (i n : Nat)
@[simp] theorem rds_len7 : (rds l).length = l.length * 7 := rds_length l
@[simp] theorem rds_len9 : (rds m).length = m.length * 9 := rds_length m
@[simp] theorem rcs_len7 : (rcs l).length = l.length * 7 := rcs_length l
@[simp] theorem rcs_len9 : (rcs m).length = m.length * 9 := rcs_length m
@[simp] theorem rds_drop7 : (rds l).drop (i * 7) = rds (l.drop i) := rds_drop l i
@[simp] theorem rds_drop9 : (rds m).drop (i * 9) = rds (m.drop i) := rds_drop m i
@[simp] theorem rcs_drop7 : (rcs l).drop (i * 7) = rcs (l.drop i) := rcs_drop l i
@[simp] theorem rcs_drop9 : (rcs m).drop (i * 9) = rcs (m.drop i) := rcs_drop m i
@[simp] theorem rcs_drop17 : (rcs l).drop (i * 7 + 7) = rcs (l.drop (i + 1)) := rcs_drop1 l i
@[simp] theorem rcs_drop19 : (rcs m).drop (i * 9 + 9) = rcs (m.drop (i + 1)) := rcs_drop1 m i
@[simp] theorem rds_take7 : (rds l).take (i * 7) = rds (l.take i) := rds_take l i
@[simp] theorem rds_take9 : (rds m).take (i * 9) = rds (m.take i) := rds_take m i
@[simp] theorem rcs_take7 : (rcs l).take (i * 7) = rcs (l.take i) := rcs_take l i
@[simp] theorem rcs_take9 : (rcs m).take (i * 9) = rcs (m.take i) := rcs_take m i
@[simp] theorem rcs_zeros7 : (List.replicate n [ic 0, ic 0, ic 0, ic 0, ic 0, ic 0, ic 0]).flatten = rcs (List.replicate n ob0) := rcs_zeros n ob0
@[simp] theorem rcs_zeros9 : (List.replicate n [ic 0, .d (.s (.bool false)), ic 0, ic 0, ic 0, ic 0, ic 0, ic 0, ic 0]).flatten = rcs (List.replicate n ch0) := rcs_zeros n ch0
end
@[simp high] theorem eqVs_ob (x y : Ob) : eqVs [.int .i64 x.kind, .int .i64 x.id, .int .i64 x.a, .int .i64 x.b, .int .i64 x.c, .int .i64 x.d, .int .i64 x.rev] [.int .i64 y.kind, .int .i64 y.id, .int .i64 y.a, .int .i64 y.b, .int .i64 y.c, .int .i64 y.d, .int .i64 y.rev] = decide (x = y) := by
  cases x; cases y; simp [Bool.decide_and]
@[simp high] theorem eqVs_ch (x y : Ch) : eqVs [.int .i64 x.rev, .bool x.gone, .int .i64 x.ob.kind, .int .i64 x.ob.id, .int .i64 x.ob.a, .int .i64 x.ob.b, .int .i64 x.ob.c, .int .i64 x.ob.d, .int .i64 x.ob.rev] [.int .i64 y.rev, .bool y.gone, .int .i64 y.ob.kind, .int .i64 y.ob.id, .int .i64 y.ob.a, .int .i64 y.ob.b, .int .i64 y.ob.c, .int .i64 y.ob.d, .int .i64 y.ob.rev] = decide (x = y) := by
  obtain ⟨r, g, o⟩ := x; obtain ⟨r', g', o'⟩ := y; cases o; cases o'; cases g <;> cases g' <;> simp [Bool.decide_and]
theorem take_set_row {α : Type} (l : List α) (z o : α) {i : Nat} (h : i < l.length) (ho : l[i]? = some o) : (l.take i ++ List.replicate (l.length - i) z).take i ++ (o :: (l.take i ++ List.replicate (l.length - i) z).drop (i + 1)) = l.take (i + 1) ++ List.replicate (l.length - (i + 1)) z := by
  have h1 : l.length - i = (l.length - (i + 1)) + 1 := by omega
  have e : (l.take i).length = i := by rw [List.length_take]; omega
  rw [List.take_append, e, Nat.sub_self, List.take_zero, List.append_nil, List.take_take, Nat.min_self, h1, List.replicate_succ, List.drop_append, e, List.drop_eq_nil_of_le (by rw [e]; omega)]
  rw [show i + 1 - i = 1 by omega]
  have : l.take (i + 1) = l.take i ++ [o] := by
    rw [List.take_add_one, ho]; rfl
  rw [this]; simp
theorem c_toObjectS (l : List Ob) (hn : l.length ≤ 1048576) : FCall Try.prog 20 [rlist l] fun r H => ∃ g, r = .one (.own 0 g 0 l.length) ∧ H = [some ⟨g, 51, 7, rcs l⟩] := by
  intro clk
  refine acall_of_aw Try.func20 rfl ?_
  simp
  refine ⟨⟨by omega, by omega⟩, ?_⟩
  refine codeOk_loop [true, false, false, true, true] 1 (fun s => ∃ (i g c : Nat), i ≤ l.length ∧ s = ⟨[rlist l, unknown, unknown, .one (.own 0 g 0 l.length), iv .i64 i] ++
    List.replicate 18 unknown, [some ⟨g, 51, 7, rcs (l.take i ++ List.replicate (l.length - i) ob0)⟩], c⟩)
    (fun s => match s.tmps.getD 4 unknown with | .one (.d (.s (.int _ i))) => l.length - i.toNat | _ => 0) ?_ ?_
  · simp
    exact ⟨0, Nat.zero_le _, _, ⟨rfl, rfl⟩, rfl, by simp⟩
  · rintro s ⟨i, g, c, hi, rfl⟩
    by_cases hlt : i < l.length
    · have hw := wrap_succ (i := i) (by omega)
      obtain ⟨o, t, hd, ho, ht, _⟩ := drop_at l hlt
      simp [hlt, hw, hd]
      refine acall_val (c_toObject o) (by simp) (by simp) ?_
      simp [hlt, hw]
      refine ⟨by rw [Nat.min_eq_left hi]; omega, ⟨i + 1, by omega, _, ⟨rfl, by omega⟩, rfl, ?_⟩, by omega⟩
      rw [← take_set_row l ob0 o hlt ho, ← rcs_append, rcs_cons]; rfl
    · have e : i = l.length := by omega
      subst e
      simp
set_option maxRecDepth 100000 in
theorem c_toChange (o : Ch) : FCall Try.prog 21 [o.av] fun r H => r = o.av ∧ H = [] := by
  refine fcall_gather [] id fun clk => acall_of_aw Try.func21 rfl ?_
  simp
  refine acall_val (c_toObject o.ob) (by simp) (by simp) ?_
  simp
theorem c_toChangeS (l : List Ch) (hn : l.length ≤ 1048576) : FCall Try.prog 8 [rlist l] fun r H => ∃ g, r = .one (.own 0 g 0 l.length) ∧ H = [some ⟨g, 53, 9, rcs l⟩] := by
  intro clk
  refine acall_of_aw Try.func8 rfl ?_
  simp
  refine ⟨⟨by omega, by omega⟩, ?_⟩
  refine codeOk_loop [true, false, false, true, true] 1 (fun s => ∃ (i g c : Nat), i ≤ l.length ∧ s = ⟨[rlist l, unknown, unknown, .one (.own 0 g 0 l.length), iv .i64 i] ++
    List.replicate 18 unknown, [some ⟨g, 53, 9, rcs (l.take i ++ List.replicate (l.length - i) ch0)⟩], c⟩)
    (fun s => match s.tmps.getD 4 unknown with | .one (.d (.s (.int _ i))) => l.length - i.toNat | _ => 0) ?_ ?_
  · simp
    exact ⟨0, Nat.zero_le _, _, ⟨rfl, rfl⟩, rfl, by simp⟩
  · rintro s ⟨i, g, c, hi, rfl⟩
    by_cases hlt : i < l.length
    · have hw := wrap_succ (i := i) (by omega)
      obtain ⟨o, t, hd, ho, ht, _⟩ := drop_at l hlt
      simp [hlt, hw, hd]
      refine acall_val (c_toChange o) (by simp) (by simp) ?_
      simp [hlt, hw]
      refine ⟨by rw [Nat.min_eq_left hi]; omega, ⟨i + 1, by omega, _, ⟨rfl, by omega⟩, rfl, ?_⟩, by omega⟩
      rw [← take_set_row l ch0 o hlt ho, ← rcs_append, rcs_cons]; rfl
    · have e : i = l.length := by omega
      subst e
      simp
structure St where
  rev : Int
  obs : List Ob
  hist : List Ch
  deriving DecidableEq
abbrev St.av (s : St) : AV := .agg [ic s.rev, .d (.list s.obs.length (rds s.obs)), .d (.list s.hist.length (rds s.hist))]
theorem c_szObjectS (l : List Ob) (n : Int) (hl : l.length ≤ 9223372036854775807) (h0 : 0 ≤ n) (h1 : n ≤ 1048576) : FCall Try.prog 17 [rlist l, iv .i64 n] fun r H => r = iv .i64 (if (l.length : Int) ≤ n then n - l.length else -1) ∧ H = [] := by
  intro clk
  refine acall_of_aw Try.func17 rfl ?_
  have hw : IntKind.i64.wrap (n - l.length) = n - l.length := wrap_i64 (by omega) (by omega)
  by_cases h : (l.length : Int) ≤ n
  · have h' : ¬ (n - l.length < 0) := by omega
    simp [hw, h, h']
  · have h' : n - l.length < 0 := by omega
    simp [hw, h, h']
theorem c_szChangeS (l : List Ch) (n : Int) (hl : l.length ≤ 9223372036854775807) (h0 : 0 ≤ n) (h1 : n ≤ 1048576) : FCall Try.prog 5 [rlist l, iv .i64 n] fun r H => r = iv .i64 (if (l.length : Int) ≤ n then n - l.length else -1) ∧ H = [] := by
  intro clk
  refine acall_of_aw Try.func5 rfl ?_
  have hw : IntKind.i64.wrap (n - l.length) = n - l.length := wrap_i64 (by omega) (by omega)
  by_cases h : (l.length : Int) ≤ n
  · have h' : ¬ (n - l.length < 0) := by omega
    simp [hw, h, h']
  · have h' : n - l.length < 0 := by omega
    simp [hw, h, h']
theorem take_snoc_row {α : Type} {a b : List α} {i : Nat} {x y : α} (ha : a[i]? = some x) (hb : b[i]? = some y) (h : a.take i = b.take i) (he : x = y) : a.take (i + 1) = b.take (i + 1) := by
  rw [List.take_add_one, List.take_add_one, h, ha, hb, he]
theorem ne_at {α : Type} {a b : List α} {i : Nat} {x y : α} (ha : a[i]? = some x) (hb : b[i]? = some y) (he : ¬ x = y) : ¬ a = b := by
  rintro rfl; rw [ha] at hb; cases hb; exact he rfl
theorem c_eqObjectS (a b : List Ob) (ha : a.length ≤ 1048576) : FCall Try.prog 27 [rlist a, rlist b] fun r H => r = bv (decide (a = b)) ∧ H = [] := by
  intro clk
  refine acall_of_aw Try.func27 rfl ?_
  by_cases hl : a.length = b.length
  · simp [hl]
    refine codeOk_loop [true, true, false, false, false, true] 0 (fun s => ∃ (i c : Nat), i ≤ a.length ∧ a.take i = b.take i ∧ s = ⟨[rlist a, rlist b, unknown, unknown, unknown, iv .i64 i] ++ List.replicate 21 unknown, [], c⟩)
      (fun s => match s.tmps.getD 5 unknown with | .one (.d (.s (.int _ i))) => a.length - i.toNat | _ => 0) ?_ ?_
    · simp [hl]
      exact ⟨0, Nat.zero_le _, rfl, rfl⟩
    · rintro s ⟨i, c, hi, ht, rfl⟩
      by_cases hlt : i < a.length
      · have hw := wrap_succ (i := i) (by omega)
        have hlt' : i < b.length := by omega
        obtain ⟨x, t, hd, hx, _, _⟩ := drop_at a hlt
        obtain ⟨y, u, hd', hy, _, _⟩ := drop_at b hlt'
        simp [hlt, hw]
        refine codeOk_drawA mixed (by kernel_rfl) ?_
        simp [hlt, hlt', hd, hd']
        refine qcall_val (c_eqObject x y) (by simp) (by simp) ?_
        by_cases he : x = y
        · simp [he, hw]
          exact ⟨⟨i + 1, by omega, take_snoc_row hx hy ht he, by omega⟩, by omega⟩
        · simp [he]
          exact ne_at hx hy he
      · have e : i = a.length := by omega
        subst e
        simp
        rw [List.take_length, hl, List.take_length] at ht
        exact ht
  · have hne : a ≠ b := fun e => hl (by rw [e])
    simp [hl, hne]
end Go.Proofs.Ytadhojoalpkabaa
