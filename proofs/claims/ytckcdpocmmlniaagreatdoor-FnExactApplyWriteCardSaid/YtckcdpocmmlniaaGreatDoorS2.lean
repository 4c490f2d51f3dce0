/-
  Stores compared.
-/
import Derived.Test.YtckcdpocmmlniaaGreatDoorS1
namespace Go.Proofs.YtckcdpocmmlniaaGreatDoor
set_option maxRecDepth 100000
set_option linter.unusedSimpArgs false
set_option linter.unusedVariables false
set_option linter.unnecessarySimpa false
open Go Go.Abs Go.Proofs
set_option maxRecDepth 100000 in
theorem c_slicesEqualOb (a b : List Ob) (ha : a.length ≤ 1048576) : FCall Tryz.prog 96 [rlist a, rlist b] fun r H => r = bv (decide (a = b)) ∧ H = [] := by
  intro clk
  refine acall_of_aw Tryz.func96 rfl ?_
  by_cases hl : a.length = b.length
  · simp [hl]
    refine codeOk_loop [true, true, false, false, false, false, false, false, false, false, false, false, true, true] 0 (fun s => ∃ (i c : Nat), i ≤ a.length ∧ a.take i = b.take i ∧ s = ⟨[rlist a, rlist b] ++ List.replicate 10 unknown ++ [iv .i64 a.length, iv .i64 i] ++ List.replicate 12 unknown, [], c⟩)
      (fun s => match s.tmps.getD 13 unknown with | .one (.d (.s (.int _ i))) => a.length - i.toNat | _ => 0) ?_ ?_
    · simp [hl]
      exact ⟨0, Nat.zero_le _, rfl, rfl⟩
    · rintro s ⟨i, c, hi, ht, rfl⟩
      by_cases hlt : i < a.length
      · have hw := wrap_succ (i := i) (by omega)
        have hlt' : i < b.length := by omega
        obtain ⟨x, t, hd, hx, _, _⟩ := drop_at a hlt
        obtain ⟨y, u, hd', hy, _, _⟩ := drop_at b hlt'
        simp [hlt, hw]
        refine codeOk_drawA mixed (by kernel_rfl) ?_
        by_cases he : x = y
        · subst he
          simp [hlt, hlt', hd, hd', hw]
          exact ⟨⟨i + 1, by omega, take_snoc_row hx hy ht rfl, by omega⟩, by omega⟩
        · simp [-eqVs, -eqV, hlt, hlt', hd, hd', he]
          exact ne_at hx hy he
      · have e : i = a.length := by omega
        subst e
        simp
        rw [List.take_length, hl, List.take_length] at ht
        exact ht
  · have hne : a ≠ b := fun e => hl (by rw [e])
    simp [hl, hne]
set_option maxRecDepth 100000 in
theorem c_eqChange (x y : Ch) : FCall Tryz.prog 193 [x.av, y.av] fun r H => r = bv (decide (x = y)) ∧ H = [] := by
  have e : (x = y) ↔ (x.rev = y.rev ∧ x.gone = y.gone ∧ x.ob = y.ob) := by cases x; cases y; simp
  refine fcall_gather [] id fun clk => acall_of_aw Tryz.func193 rfl ?_
  by_cases h1 : x.rev = y.rev
  · by_cases h2 : x.gone = y.gone
    · simp [h1, h2]
      refine acall_val (c_eqObject x.ob y.ob) (by simp) (by simp) ?_
      simp [e, h1, h2]
    · simp [h1, h2, e]
  · simp [h1, e]
theorem c_eqChangeS (a b : List Ch) (ha : a.length ≤ 1048576) : FCall Tryz.prog 143 [rlist a, rlist b] fun r H => r = bv (decide (a = b)) ∧ H = [] := by
  intro clk
  refine acall_of_aw Tryz.func143 rfl ?_
  by_cases hl : a.length = b.length
  · simp [hl]
    refine codeOk_loop [true, true, false, false, false, true] 0 (fun s => ∃ (i c : Nat), i ≤ a.length ∧ a.take i = b.take i ∧ s = ⟨[rlist a, rlist b, unknown, unknown, unknown, iv .i64 i] ++ List.replicate 21 unknown, [], c⟩)
      (fun s => match s.tmps.getD 5 unknown with | .one (.d (.s (.int _ i))) => a.length - i.toNat | _ => 0) ?_ ?_
    · simp [hl]
      exact ⟨0, Nat.zero_le _, rfl, rfl⟩
    · rintro s ⟨i, c, hi, ht, rfl⟩
      by_cases hlt : i < a.length
      · have hw := wrap_succ (i := i) (by omega)
        have hlt' : i < b.length := by omega
        obtain ⟨x, t, hd, hx, _, _⟩ := drop_at a hlt
        obtain ⟨y, u, hd', hy, _, _⟩ := drop_at b hlt'
        simp [hlt, hw]
        refine codeOk_drawA mixed (by kernel_rfl) ?_
        simp [hlt, hlt', hd, hd']
        refine qcall_val (c_eqChange x y) (by simp) (by simp) ?_
        by_cases he : x = y
        · simp [he, hw]
          exact ⟨⟨i + 1, by omega, take_snoc_row hx hy ht he, by omega⟩, by omega⟩
        · simp [he]
          exact ne_at hx hy he
      · have e : i = a.length := by omega
        subst e
        simp
        rw [List.take_length, hl, List.take_length] at ht
        exact ht
  · have hne : a ≠ b := fun e => hl (by rw [e])
    simp [hl, hne]
set_option maxRecDepth 100000 in
theorem c_slicesEqualCh (a b : List Ch) (ha : a.length ≤ 1048576) : FCall Tryz.prog 97 [rlist a, rlist b] fun r H => r = bv (decide (a = b)) ∧ H = [] := by
  intro clk
  refine acall_of_aw Tryz.func97 rfl ?_
  by_cases hl : a.length = b.length
  · simp [hl]
    refine codeOk_loop [true, true, false, false, false, false, false, false, false, false, false, false, true, true] 0 (fun s => ∃ (i c : Nat), i ≤ a.length ∧ a.take i = b.take i ∧ s = ⟨[rlist a, rlist b] ++ List.replicate 10 unknown ++ [iv .i64 a.length, iv .i64 i] ++ List.replicate 12 unknown, [], c⟩)
      (fun s => match s.tmps.getD 13 unknown with | .one (.d (.s (.int _ i))) => a.length - i.toNat | _ => 0) ?_ ?_
    · simp [hl]
      exact ⟨0, Nat.zero_le _, rfl, rfl⟩
    · rintro s ⟨i, c, hi, ht, rfl⟩
      by_cases hlt : i < a.length
      · have hw := wrap_succ (i := i) (by omega)
        have hlt' : i < b.length := by omega
        obtain ⟨x, t, hd, hx, _, _⟩ := drop_at a hlt
        obtain ⟨y, u, hd', hy, _, _⟩ := drop_at b hlt'
        simp [hlt, hw]
        refine codeOk_drawA mixed (by kernel_rfl) ?_
        by_cases he : x = y
        · subst he
          simp [hlt, hlt', hd, hd', hw]
          exact ⟨⟨i + 1, by omega, take_snoc_row hx hy ht rfl, by omega⟩, by omega⟩
        · simp [-eqVs, -eqV, hlt, hlt', hd, hd', he]
          exact ne_at hx hy he
      · have e : i = a.length := by omega
        subst e
        simp
        rw [List.take_length, hl, List.take_length] at ht
        exact ht
  · have hne : a ≠ b := fun e => hl (by rw [e])
    simp [hl, hne]
set_option maxRecDepth 100000 in
theorem c_l3SameObjects (a b : List Ob) (ha : a.length ≤ 1048576) : FCall Tryz.prog 98 [rlist a, rlist b] fun r H => r = bv (decide (a = b)) ∧ H = [] := by
  intro clk
  refine acall_of_aw Tryz.func98 rfl ?_
  by_cases hl : a.length = b.length
  · simp [hl]
    refine codeOk_loop [true, true, false, false, false, true] 0 (fun s => ∃ (i c : Nat), i ≤ a.length ∧ a.take i = b.take i ∧ s = ⟨[rlist a, rlist b, unknown, unknown, unknown, iv .i64 i] ++ List.replicate 20 unknown, [], c⟩)
      (fun s => match s.tmps.getD 5 unknown with | .one (.d (.s (.int _ i))) => a.length - i.toNat | _ => 0) ?_ ?_
    · simp [hl]
      exact ⟨0, Nat.zero_le _, rfl, rfl⟩
    · rintro s ⟨i, c, hi, ht, rfl⟩
      by_cases hlt : i < a.length
      · have hw := wrap_succ (i := i) (by omega)
        have hlt' : i < b.length := by omega
        obtain ⟨x, t, hd, hx, _, _⟩ := drop_at a hlt
        obtain ⟨y, u, hd', hy, _, _⟩ := drop_at b hlt'
        simp [hlt, hw]
        refine codeOk_drawA mixed (by kernel_rfl) ?_
        by_cases he : x = y
        · subst he
          simp [hlt, hlt', hd, hd', hw]
          exact ⟨⟨i + 1, by omega, take_snoc_row hx hy ht rfl, by omega⟩, by omega⟩
        · simp [-eqVs, -eqV, hlt, hlt', hd, hd', he]
          exact ne_at hx hy he
      · have e : i = a.length := by omega
        subst e
        simp
        rw [List.take_length, hl, List.take_length] at ht
        exact ht
  · have hne : a ≠ b := fun e => hl (by rw [e])
    simp [hl, hne]
set_option maxRecDepth 100000 in
theorem c_eqStore (s t : St) (h1 : s.obs.length ≤ 1048576) (h2 : s.hist.length ≤ 1048576) : FCall Tryz.prog 62 [s.av, t.av] fun r H => r = bv (decide (s = t)) ∧ H = [] := by
  have e : (s = t) ↔ (s.rev = t.rev ∧ s.obs = t.obs ∧ s.hist = t.hist) := by cases s; cases t; simp
  refine fcall_gather [] id fun clk => acall_of_aw Tryz.func62 rfl ?_
  by_cases g1 : s.rev = t.rev
  · simp [g1]
    refine acall_val (c_eqObjectS s.obs t.obs h1) (by simp) (by simp) ?_
    by_cases g2 : s.obs = t.obs
    · simp [g2]
      refine acall_val (c_eqChangeS s.hist t.hist h2) (by simp) (by simp) ?_
      simp [e, g1, g2]
    · simp [g2, e]
  · simp [g1, e]
set_option maxRecDepth 100000 in
theorem c_SameStores (s t : St) (h1 : s.obs.length ≤ 1048576) (h2 : s.hist.length ≤ 1048576) : FCall Tryz.prog 23 [s.av, t.av] fun r H => r = bv (decide (s = t)) ∧ H = [] := by
  have e : (s = t) ↔ (s.rev = t.rev ∧ s.obs = t.obs ∧ s.hist = t.hist) := by cases s; cases t; simp
  refine fcall_gather [] id fun clk => acall_of_aw Tryz.func23 rfl ?_
  by_cases g1 : s.rev = t.rev
  · simp [g1]
    refine acall_val (c_slicesEqualOb s.obs t.obs h1) (by simp) (by simp) ?_
    by_cases g2 : s.obs = t.obs
    · simp [g2]
      refine acall_val (c_slicesEqualCh s.hist t.hist h2) (by simp) (by simp) ?_
      simp [e, g1, g2]
    · simp [g2, e]
  · simp [g1, e]
set_option maxRecDepth 100000 in
theorem c_sSameStores (s t : St) (h1 : s.obs.length ≤ 1048576) (h2 : s.hist.length ≤ 1048576) : FCall Tryz.prog 24 [s.av, t.av] fun r H => r = bv (decide (s = t)) ∧ H = [] := by
  have e : (s = t) ↔ (s.rev = t.rev ∧ s.obs = t.obs ∧ s.hist = t.hist) := by cases s; cases t; simp
  refine fcall_gather [] id fun clk => acall_of_aw Tryz.func24 rfl ?_
  by_cases g1 : s.rev = t.rev
  · simp [g1]
    refine acall_val (c_l3SameObjects s.obs t.obs h1) (by simp) (by simp) ?_
    by_cases g2 : s.obs = t.obs
    · by_cases hl : s.hist.length = t.hist.length
      · simp [g2, hl]
        refine codeOk_loop [false, false, true, true, false, true] 2 (fun z => ∃ (i c : Nat), i ≤ s.hist.length ∧ s.hist.take i = t.hist.take i ∧ z = ⟨[unknown, unknown, .one (.ptr 0 clk 0), .one (.ptr 1 (clk + 1) 0), unknown, iv .i64 i] ++ List.replicate 40 unknown, [some ⟨clk, 27, 3, [ic t.rev, .d (.list t.obs.length (rds t.obs)), .d (.list t.hist.length (rds s.hist))]⟩, some ⟨clk + 1, 27, 3, [ic t.rev, .d (.list t.obs.length (rds t.obs)), .d (.list t.hist.length (rds t.hist))]⟩], c⟩)
          (fun z => match z.tmps.getD 5 unknown with | .one (.d (.s (.int _ i))) => s.hist.length - i.toNat | _ => 0) ?_ ?_
        · simp [hl]
          exact ⟨0, Nat.zero_le _, rfl, rfl⟩
        · rintro z ⟨i, c, hi, ht, rfl⟩
          by_cases hlt : i < s.hist.length
          · have hw := wrap_succ (i := i) (by omega)
            have hlt' : i < t.hist.length := by omega
            obtain ⟨x, q, hd, hx, _, _⟩ := drop_at s.hist hlt
            obtain ⟨y, u, hd', hy, _, _⟩ := drop_at t.hist hlt'
            simp [hlt, hlt', hw]
            refine codeOk_drawA mixed (by kernel_rfl) ?_
            by_cases he : x = y
            · subst he
              simp [hlt, hlt', hd, hd', hw]
              exact ⟨⟨i + 1, by omega, take_snoc_row hx hy ht rfl, by omega⟩, by omega⟩
            · simp [-eqVs, -eqV, hlt, hlt', hd, hd', he]
              rw [e]
              exact fun h => ne_at hx hy he h.2.2
          · have e' : i = s.hist.length := by omega
            subst e'
            simp [hl, e, g1, g2]
            rw [List.take_length, hl, List.take_length] at ht
            exact ht
      · have hne : s.hist ≠ t.hist := fun e => hl (by rw [e])
        simp [g2, hl, e, hne]
    · simp [g2, e]
  · simp [g1, e]
end Go.Proofs.YtckcdpocmmlniaaGreatDoor
