/-
  Marks in numbers; the law of the indexes of an owner's pods.
-/
import Derived.Test.YtcminohhdbhikaaN13
import Derived.Test.YtcminohhdbhikaaC3
namespace Go.Proofs.Ytcminohhdbhikaa
set_option maxRecDepth 100000
set_option linter.unusedSimpArgs false
set_option linter.unusedVariables false
set_option linter.unnecessarySimpa false
open Go Go.Abs Go.Proofs
theorem rcs_ints (l : List Int) : rcs l = l.map ic := by
  induction l with
  | nil => rfl
  | cons a t ih => rw [rcs_cons, ih]; rfl
theorem rcs_setI (l : List Int) (i : Nat) (v : Int) : (rcs l).set i (ic v) = rcs (l.set i v) := by rw [rcs_ints, rcs_ints, List.map_set]
def iMarks (k : Int) (n : Nat) : List Int := (List.range n).map fun i : Nat => k + i
@[simp] theorem iMarks_len (k : Int) (n : Nat) : (iMarks k n).length = n := by simp [iMarks]
theorem iMarks_succ (k : Int) (n : Nat) : iMarks k (n + 1) = iMarks k n ++ [k + n] := by simp [iMarks, List.range_succ]
theorem iMarks_set (l : List Int) (k : Int) {i : Nat} (h : i < l.length) : (iMarks k i ++ l.drop i).set i (k + i) = iMarks k (i + 1) ++ l.drop (i + 1) := by
  rw [List.set_append, if_neg (by simp), iMarks_len, Nat.sub_self, List.drop_eq_getElem_cons h, List.set_cons_zero, iMarks_succ, List.append_assoc]; rfl
theorem iMarks_drop (k : Int) {n i : Nat} (h : i < n) : (iMarks k n).drop i = (k + i) :: (iMarks k n).drop (i + 1) := by
  have hl : i < (iMarks k n).length := by simpa using h
  rw [List.drop_eq_getElem_cons hl]
  congr 1
  simp [iMarks]
set_option maxRecDepth 100000 in
theorem c_eqInt64S (a b : List Int) (ha : a.length ≤ 1048576) : FCall Try.prog 45 [rlist a, rlist b] fun r H => r = bv (decide (a = b)) ∧ H = [] := by
  refine fcall_gather [] id fun clk => acall_of_aw Try.func45 rfl ?_
  by_cases hl : a.length = b.length
  · simp [hl]
    refine codeOk_loop [true, true, false, false, false, true] 0 (fun s => ∃ (i c : Nat), i ≤ a.length ∧ a.take i = b.take i ∧ s = ⟨[rlist a, rlist b, unknown, unknown, unknown, iv .i64 i] ++ List.replicate 20 unknown, [], c⟩)
      (fun s => match s.tmps.getD 5 unknown with | .one (.d (.s (.int _ i))) => a.length - i.toNat | _ => 0) ?_ ?_
    · simp [hl]
      exact ⟨0, Nat.zero_le _, rfl, rfl⟩
    · rintro s ⟨i, c, hi, ht, rfl⟩
      by_cases hlt : i < a.length
      · have hw := wrap_succ (i := i) (by omega)
        have hlt' : i < b.length := by omega
        obtain ⟨x, t, hd, hx, _, _⟩ := drop_at a hlt
        obtain ⟨y, u, hd', hy, _, _⟩ := drop_at b hlt'
        simp [hlt, hw]
        refine codeOk_drawA mixed (by kernel_rfl) ?_
        simp [hlt, hlt', hd, hd']
        by_cases he : x = y
        · simp [he, hw]
          exact ⟨⟨i + 1, by omega, take_snoc_row hx hy ht he, by omega⟩, by omega⟩
        · simp [he]
          exact ne_at hx hy he
      · have e : i = a.length := by omega
        subst e
        simp
        rw [List.take_length, hl, List.take_length] at ht
        exact ht
  · have hne : a ≠ b := fun e => hl (by rw [e])
    simp [hl, hne]
set_option maxRecDepth 100000 in
theorem c_eqIntsResult (x y : Int) (a b : List Int) (ha : a.length ≤ 1048576) : FCall Try.prog 16 [.agg [ic x, .d (.list a.length (rds a))], .agg [ic y, .d (.list b.length (rds b))]] fun r H => r = bv (decide (x = y ∧ a = b)) ∧ H = [] := by
  refine fcall_gather [] id fun clk => acall_of_aw Try.func16 rfl ?_
  by_cases g1 : x = y
  · simp [g1]
    refine acall_val (c_eqInt64S a b ha) (by simp) (by simp) ?_
    by_cases g2 : a = b <;> simp [g2]
  · simp [g1]
set_option maxRecDepth 100000 in
theorem c_markInt64S (l : List Int) (k : Int) (g : Nat) (hn : l.length ≤ 1048576) (hk : 0 ≤ k ∧ k ≤ 1073741824) : RCall Try.prog 48 [.one (.own 0 g 0 l.length), iv .i64 k] ⟨g, 2, 1, rcs l⟩ fun r B Hn =>
    r = iv .i64 (k + l.length) ∧ B = ⟨g, 2, 1, rcs (iMarks k l.length)⟩ ∧ Hn = [] := by
  intro clk
  refine acall_of_aw Try.func48 rfl ?_
  simp
  refine codeOk_loop [true, true, false, false, false, true] 1 (fun s => ∃ (i c : Nat), i ≤ l.length ∧ s = ⟨[.one (.own 0 g 0 l.length), iv .i64 (k + i), unknown, unknown, unknown, iv .i64 i] ++ List.replicate 13 unknown,
      [some ⟨g, 2, 1, rcs (iMarks k i ++ l.drop i)⟩], c⟩)
    (fun s => match s.tmps.getD 5 unknown with | .one (.d (.s (.int _ i))) => l.length - i.toNat | _ => 0) ?_ ?_
  · simp
    exact ⟨0, Nat.zero_le _, by simp [iMarks], rfl⟩
  · rintro s ⟨i, c, hi, rfl⟩
    by_cases hlt : i < l.length
    · have hw := wrap_succ (i := i) (by omega)
      have hs := iMarks_set l k hlt
      obtain ⟨x, hx⟩ : ∃ x : Int, x = k + i := ⟨_, rfl⟩
      rw [← hx] at hs ⊢
      have w1 : IntKind.i64.wrap (x + 1) = x + 1 := wrap_i64 (by omega) (by omega)
      have hL : (iMarks k i ++ l.drop i).length = l.length := by simp; omega
      obtain ⟨M, hM⟩ : ∃ M, M = iMarks k i ++ l.drop i := ⟨_, rfl⟩
      rw [← hM] at hs hL ⊢
      simp [hlt, hw, w1, hL, rcs_setI, hs]
      exact ⟨by omega, ⟨i + 1, by omega, ⟨by omega, by omega⟩, rfl⟩, by omega⟩
    · have e : i = l.length := by omega
      subst e
      simp
theorem c_markInt64Sn (k : Int) : FCall Try.prog 48 [.one (.d (.list 0 [])), iv .i64 k] fun r H => r = iv .i64 k ∧ H = [] := by
  intro clk
  refine acall_of_aw Try.func48 rfl ?_
  simp
  refine codeOk_rounds 1 ?_
  rw [AR_succ]
  simp
set_option maxRecDepth 100000 in
theorem c_heldInt64S (n : Nat) (k : Int) (hn : n ≤ 1048576) (hk : 0 ≤ k ∧ k ≤ 1073741824) : FCall Try.prog 49 [.one (.d (.list n (rds (iMarks k n)))), iv .i64 k] fun r H => r = iv .i64 (k + n) ∧ H = [] := by
  intro clk
  refine acall_of_aw Try.func49 rfl ?_
  simp
  refine codeOk_loop [true, true, false, false, false, true] 0 (fun s => ∃ (i c : Nat), i ≤ n ∧ s = ⟨[.one (.d (.list n (rds (iMarks k n)))), iv .i64 (k + i), unknown, unknown, unknown, iv .i64 i] ++ List.replicate 15 unknown, [], c⟩)
    (fun s => match s.tmps.getD 5 unknown with | .one (.d (.s (.int _ i))) => n - i.toNat | _ => 0) ?_ ?_
  · simp
    exact ⟨0, Nat.zero_le _, by simp, rfl⟩
  · rintro s ⟨i, c, hi, rfl⟩
    by_cases hlt : i < n
    · have hw := wrap_succ (i := i) (by omega)
      have hd := iMarks_drop k hlt
      obtain ⟨x, hx⟩ : ∃ x : Int, x = k + i := ⟨_, rfl⟩
      rw [← hx] at hd ⊢
      have w1 : IntKind.i64.wrap (x + 1) = x + 1 := wrap_i64 (by omega) (by omega)
      simp [hlt, hw, w1, hd]
      exact ⟨⟨i + 1, by omega, by omega, by omega⟩, by omega⟩
    · have e : i = n := by omega
      subst e
      simp
set_option maxRecDepth 100000 in
theorem c_markIntsResult (u : Int) (l : List Int) (k : Int) (g : Nat) (hn : l.length ≤ 1048576) (hk : 0 ≤ k ∧ k ≤ 1073741824) : RCall Try.prog 19 [.agg [ic u, .own 0 g 0 l.length], iv .i64 k] ⟨g, 2, 1, rcs l⟩ fun r B Hn =>
    r = iv .i64 (k + l.length) ∧ B = ⟨g, 2, 1, rcs (iMarks k l.length)⟩ ∧ Hn = [] := by
  refine rcall_take fun clk => acall_of_aw Try.func19 rfl ?_
  simp
  refine acall_ref (k := 0) (c_markInt64S l k g hn hk) (by simp) (by simp) ?_
  rintro r B Hn c ⟨rfl, rfl, rfl⟩ _
  simp
theorem c_markIntsResultn (u : Int) (k : Int) : FCall Try.prog 19 [.agg [ic u, .d (.list 0 [])], iv .i64 k] fun r H => r = iv .i64 k ∧ H = [] := by
  refine fcall_gather [] id fun clk => acall_of_aw Try.func19 rfl ?_
  simp
  refine acall_val (c_markInt64Sn k) (by simp) (by simp) ?_
  simp
theorem c_heldIntsResult (u : Int) (n : Nat) (k : Int) (hn : n ≤ 1048576) (hk : 0 ≤ k ∧ k ≤ 1073741824) : FCall Try.prog 20 [.agg [ic u, .d (.list n (rds (iMarks k n)))], iv .i64 k] fun r H => r = iv .i64 (k + n) ∧ H = [] := by
  have hq : ¬ k + (n : Int) < 0 := by omega
  refine fcall_gather [] id fun clk => acall_of_aw Try.func20 rfl ?_
  simp
  refine acall_val (c_heldInt64S n k hn hk) (by simp) (by simp) ?_
  simp [hq]
set_option maxRecDepth 100000 in
theorem c_markCacheN (v : Int) (l : List Ob) (k : Int) (g : Nat) (hn : l.length ≤ 1048576) (hk : 0 ≤ k ∧ k ≤ 1073741824) : RCall Try.prog 18 [.agg [ic v, .own 0 g 0 l.length], iv .i64 k] ⟨g, 50, 7, rcs l⟩ fun r B Hn =>
    r = iv .i64 (k + 7 * l.length) ∧ B = ⟨g, 50, 7, rcs (obMarks k l.length)⟩ ∧ Hn = [] := by
  refine rcall_take fun clk => acall_of_aw Try.func18 rfl ?_
  simp
  refine acall_ref (k := 0) (c_markObjectS l k g hn hk) (by simp) (by simp) ?_
  rintro r B Hn c ⟨rfl, rfl, rfl⟩ _
  simp
end Go.Proofs.Ytcminohhdbhikaa
