/-
  Objects cloned; a store's list on both sides; marks in objects.
-/
import Derived.Test.YtadhojoalpkabaaC1
import Derived.Test.YtadhojoalpkabaaK6
namespace Go.Proofs.Ytadhojoalpkabaa
set_option maxRecDepth 100000
set_option linter.unusedSimpArgs false
set_option linter.unusedVariables false
set_option linter.unnecessarySimpa false
open Go Go.Abs Go.Proofs
theorem stFault_ok2 {s : St} (h : stFault s = 0) : s.obs.length ≤ 60 ∧ s.hist.length ≤ 12 := by
  unfold stFault at h
  split at h
  · split at h
    · rename_i h2; exact h2
    · omega
  · omega
/-- An object of marks. -/
def mkOb (x : Int) : Ob := ⟨x, x + 1, x + 1 + 1, x + 1 + 1 + 1, x + 1 + 1 + 1 + 1, x + 1 + 1 + 1 + 1 + 1, x + 1 + 1 + 1 + 1 + 1 + 1⟩
def obMarks : Int → Nat → List Ob
  | _, 0 => []
  | k, n + 1 => mkOb k :: obMarks (k + 7) n
@[simp] theorem obMarks_length (k : Int) (n : Nat) : (obMarks k n).length = n := by
  induction n generalizing k with
  | zero => rfl
  | succ n ih => simp [obMarks, ih]
theorem obMarks_at (k : Int) (n i : Nat) (h : i < n) : (obMarks k n)[i]? = some (mkOb (k + 7 * i)) := by
  induction n generalizing k i with
  | zero => omega
  | succ n ih =>
    match i with
    | 0 => simp [obMarks]
    | i + 1 =>
      simp only [obMarks, List.getElem?_cons_succ]
      rw [ih (k + 7) i (by omega)]
      congr 2; push_cast; omega
theorem take_obMarks_set (l : List Ob) (k : Int) (i : Nat) (h : i < l.length) : (obMarks k i ++ l.drop i).set i (mkOb (k + 7 * i)) = obMarks k (i + 1) ++ l.drop (i + 1) := by
  apply List.ext_getElem?
  intro j
  simp only [List.getElem?_set, List.getElem?_append, obMarks_length, List.length_append, List.length_drop, List.getElem?_drop]
  by_cases h1 : i = j
  · subst h1
    rw [if_pos rfl, if_pos (by omega), if_pos (by omega), obMarks_at _ _ _ (by omega)]
  · rw [if_neg h1]
    by_cases h2 : j < i
    · rw [if_pos h2, if_pos (by omega), obMarks_at _ _ _ h2, obMarks_at _ _ _ (by omega)]
    · rw [if_neg h2, if_neg (by omega)]; congr 1; omega
theorem rcs_split {α : Type} [Row α] (l : List α) {i : Nat} (h : i < l.length) : ∃ o : α, rcs l = rcs (l.take i) ++ ((Row.dcs o).map AC.d ++ rcs (l.drop (i + 1))) ∧ ∀ x : α, rcs (l.set i x) = rcs (l.take i) ++ ((Row.dcs x).map AC.d ++ rcs (l.drop (i + 1))) := by
  refine ⟨l[i], ?_, fun x => ?_⟩
  · conv => lhs; rw [← List.take_append_drop i l, List.drop_eq_getElem_cons h]
    rw [← rcs_append, rcs_cons]
  · rw [List.set_eq_take_append_cons_drop, if_pos h, ← rcs_append, rcs_cons]
theorem set_app {α : Type} {A L : List α} {n j : Nat} {v : α} (h : A.length = n) : (A ++ L).set (n + j) v = A ++ L.set j v := by
  rw [List.set_append, if_neg (by omega)]; congr 2; omega
theorem set7 (l : List Ob) {i : Nat} (h : i < l.length) (a b c d e f g : Int) : ((((((((rcs l).set (i * 7) (ic a)).set (i * 7 + 1) (ic b)).set (i * 7 + 2) (ic c)).set (i * 7 + 3) (ic d)).set (i * 7 + 4) (ic e)).set (i * 7 + 5) (ic f)).set (i * 7 + 6) (ic g)) = rcs (l.set i ⟨a, b, c, d, e, f, g⟩) := by
  obtain ⟨o, h1, h2⟩ := rcs_split l h
  have hA : (rcs (l.take i)).length = i * 7 := by simp; omega
  have h0 := fun (L : List AC) v => set_app (A := rcs (l.take i)) (L := L) (j := 0) (v := v) hA
  simp only [Nat.add_zero] at h0
  rw [h2, h1, h0, set_app hA, set_app hA, set_app hA, set_app hA, set_app hA, set_app hA]
  rfl
theorem set9 (l : List Ch) {i : Nat} (h : i < l.length) (r : Int) (z : Bool) (a b c d e f g : Int) : ((((((((((rcs l).set (i * 9) (ic r)).set (i * 9 + 1) (.d (.s (.bool z)))).set (i * 9 + 2) (ic a)).set (i * 9 + 3) (ic b)).set (i * 9 + 4) (ic c)).set (i * 9 + 5) (ic d)).set (i * 9 + 6) (ic e)).set (i * 9 + 7) (ic f)).set (i * 9 + 8) (ic g)) = rcs (l.set i ⟨r, z, ⟨a, b, c, d, e, f, g⟩⟩) := by
  obtain ⟨o, h1, h2⟩ := rcs_split l h
  have hA : (rcs (l.take i)).length = i * 9 := by simp; omega
  have h0 := fun (L : List AC) v => set_app (A := rcs (l.take i)) (L := L) (j := 0) (v := v) hA
  simp only [Nat.add_zero] at h0
  rw [h2, h1, h0, set_app hA, set_app hA, set_app hA, set_app hA, set_app hA, set_app hA, set_app hA, set_app hA]
  rfl
set_option maxRecDepth 100000 in
set_option maxHeartbeats 1000000 in
theorem c_markObjectS (l : List Ob) (k : Int) (g : Nat) (hn : l.length ≤ 1048576) (hk : 0 ≤ k ∧ k ≤ 1073741824) : RCall Try.prog 29 [.one (.own 0 g 0 l.length), iv .i64 k] ⟨g, 51, 7, rcs l⟩ fun r B Hn =>
    r = iv .i64 (k + 7 * l.length) ∧ B = ⟨g, 51, 7, rcs (obMarks k l.length)⟩ ∧ Hn = [] := by
  intro clk
  refine acall_of_aw Try.func29 rfl ?_
  simp
  refine codeOk_loop [true, true, false, false, false, true] 1 (fun s => ∃ (i c : Nat), i ≤ l.length ∧ s = ⟨[.one (.own 0 g 0 l.length), iv .i64 (k + 7 * i), unknown, unknown, unknown, iv .i64 i] ++ List.replicate 56 unknown,
      [some ⟨g, 51, 7, rcs (obMarks k i ++ l.drop i)⟩], c⟩)
    (fun s => match s.tmps.getD 5 unknown with | .one (.d (.s (.int _ i))) => l.length - i.toNat | _ => 0) ?_ ?_
  · simp
    exact ⟨0, Nat.zero_le _, by simp, rfl⟩
  · rintro s ⟨i, c, hi, rfl⟩
    by_cases hlt : i < l.length
    · have hw := wrap_succ (i := i) (by omega)
      obtain ⟨x, hx⟩ : ∃ x : Int, x = k + 7 * i := ⟨_, rfl⟩
      rw [← hx]
      have w1 : IntKind.i64.wrap (x + 1) = x + 1 := wrap_i64 (by omega) (by omega)
      have w2 : IntKind.i64.wrap (x + 1 + 1) = x + 1 + 1 := wrap_i64 (by omega) (by omega)
      have w3 : IntKind.i64.wrap (x + 1 + 1 + 1) = x + 1 + 1 + 1 := wrap_i64 (by omega) (by omega)
      have w4 : IntKind.i64.wrap (x + 1 + 1 + 1 + 1) = x + 1 + 1 + 1 + 1 := wrap_i64 (by omega) (by omega)
      have w5 : IntKind.i64.wrap (x + 1 + 1 + 1 + 1 + 1) = x + 1 + 1 + 1 + 1 + 1 := wrap_i64 (by omega) (by omega)
      have w6 : IntKind.i64.wrap (x + 1 + 1 + 1 + 1 + 1 + 1) = x + 1 + 1 + 1 + 1 + 1 + 1 := wrap_i64 (by omega) (by omega)
      have w7 : IntKind.i64.wrap (x + 1 + 1 + 1 + 1 + 1 + 1 + 1) = x + 1 + 1 + 1 + 1 + 1 + 1 + 1 := wrap_i64 (by omega) (by omega)
      have hL : (obMarks k i ++ l.drop i).length = l.length := by simp; omega
      have hs := set7 (obMarks k i ++ l.drop i) (i := i) (by omega) x (x + 1) (x + 1 + 1) (x + 1 + 1 + 1) (x + 1 + 1 + 1 + 1) (x + 1 + 1 + 1 + 1 + 1) (x + 1 + 1 + 1 + 1 + 1 + 1)
      have ht := take_obMarks_set l k i hlt
      rw [← hx] at ht
      rw [show (⟨x, x + 1, x + 1 + 1, x + 1 + 1 + 1, x + 1 + 1 + 1 + 1, x + 1 + 1 + 1 + 1 + 1, x + 1 + 1 + 1 + 1 + 1 + 1⟩ : Ob) = mkOb x from rfl, ht] at hs
      obtain ⟨M, hM⟩ : ∃ M, M = obMarks k i ++ l.drop i := ⟨_, rfl⟩
      rw [← hM] at hs hL ⊢
      have hL2 : (rcs M).length = l.length * 7 := by simp [hL]
      simp [hlt, hw, w1, w2, w3, w4, w5, w6, w7, hL2, hs]
      refine ⟨by omega, by omega, by omega, by omega, by omega, by omega, by omega, ⟨i + 1, by omega, ⟨by push_cast; omega, by push_cast; rfl⟩, rfl⟩, by omega⟩
    · have e : i = l.length := by omega
      subst e
      simp
theorem c_markObjectSn (k : Int) : FCall Try.prog 29 [.one (.d (.list 0 [])), iv .i64 k] fun r H => r = iv .i64 k ∧ H = [] := by
  intro clk
  refine acall_of_aw Try.func29 rfl ?_
  simp
  refine codeOk_rounds 1 ?_
  rw [AR_succ]
  simp
set_option maxRecDepth 100000 in
set_option maxHeartbeats 1000000 in
theorem c_heldObjectS (n : Nat) (k : Int) (hn : n ≤ 1048576) (hk : 0 ≤ k ∧ k ≤ 1073741824) : FCall Try.prog 45 [.one (.d (.list n (rds (obMarks k n)))), iv .i64 k] fun r H => r = iv .i64 (k + 7 * n) ∧ H = [] := by
  intro clk
  refine acall_of_aw Try.func45 rfl ?_
  simp
  refine codeOk_loop [true, true, false, false, false, true] 0 (fun s => ∃ (i c : Nat), i ≤ n ∧ s = ⟨[.one (.d (.list n (rds (obMarks k n)))), iv .i64 (k + 7 * i), unknown, unknown, unknown, iv .i64 i] ++ List.replicate 70 unknown, [], c⟩)
    (fun s => match s.tmps.getD 5 unknown with | .one (.d (.s (.int _ i))) => n - i.toNat | _ => 0) ?_ ?_
  · simp
    exact ⟨0, Nat.zero_le _, by simp, rfl⟩
  · rintro s ⟨i, c, hi, rfl⟩
    by_cases hlt : i < n
    · have hw := wrap_succ (i := i) (by omega)
      obtain ⟨x, hx⟩ : ∃ x : Int, x = k + 7 * i := ⟨_, rfl⟩
      rw [← hx]
      have w1 : IntKind.i64.wrap (x + 1) = x + 1 := wrap_i64 (by omega) (by omega)
      have w2 : IntKind.i64.wrap (x + 1 + 1) = x + 1 + 1 := wrap_i64 (by omega) (by omega)
      have w3 : IntKind.i64.wrap (x + 1 + 1 + 1) = x + 1 + 1 + 1 := wrap_i64 (by omega) (by omega)
      have w4 : IntKind.i64.wrap (x + 1 + 1 + 1 + 1) = x + 1 + 1 + 1 + 1 := wrap_i64 (by omega) (by omega)
      have w5 : IntKind.i64.wrap (x + 1 + 1 + 1 + 1 + 1) = x + 1 + 1 + 1 + 1 + 1 := wrap_i64 (by omega) (by omega)
      have w6 : IntKind.i64.wrap (x + 1 + 1 + 1 + 1 + 1 + 1) = x + 1 + 1 + 1 + 1 + 1 + 1 := wrap_i64 (by omega) (by omega)
      have w7 : IntKind.i64.wrap (x + 1 + 1 + 1 + 1 + 1 + 1 + 1) = x + 1 + 1 + 1 + 1 + 1 + 1 + 1 := wrap_i64 (by omega) (by omega)
      obtain ⟨o, t, hd, ho, _, _⟩ := drop_at (obMarks k n) (i := i) (by simpa using hlt)
      rw [obMarks_at k n i hlt, ← hx] at ho
      cases ho
      simp [hlt, hw, w1, w2, w3, w4, w5, w6, w7, hd, mkOb]
      exact ⟨⟨i + 1, by omega, by push_cast; omega, by push_cast; rfl⟩, by omega⟩
    · have e : i = n := by omega
      subst e
      simp
set_option maxRecDepth 100000 in
set_option maxHeartbeats 1000000 in
theorem c_markChangeS (l : List Ch) (k : Int) (g : Nat) (hn : l.length ≤ 1048576) (hk : 0 ≤ k ∧ k ≤ 1073741824) : RCall Try.prog 14 [.one (.own 0 g 0 l.length), iv .i64 k] ⟨g, 53, 9, rcs l⟩ fun r B Hn =>
    r = iv .i64 (k + 9 * l.length) ∧ (∃ l' : List Ch, l'.length = l.length ∧ B = ⟨g, 53, 9, rcs l'⟩) ∧ Hn = [] := by
  intro clk
  refine acall_of_aw Try.func14 rfl ?_
  simp
  refine codeOk_loop [true, true, false, false, false, true] 1 (fun s => ∃ (i : Nat) (M : List Ch) (c : Nat), i ≤ l.length ∧ M.length = l.length ∧ s = ⟨[.one (.own 0 g 0 l.length), iv .i64 (k + 9 * i), unknown, unknown, unknown, iv .i64 i] ++ List.replicate 79 unknown,
      [some ⟨g, 53, 9, rcs M⟩], c⟩)
    (fun s => match s.tmps.getD 5 unknown with | .one (.d (.s (.int _ i))) => l.length - i.toNat | _ => 0) ?_ ?_
  · simp
    exact ⟨0, Nat.zero_le _, by simp⟩
  · rintro s ⟨i, M, c, hi, hL, rfl⟩
    by_cases hlt : i < l.length
    · have hw := wrap_succ (i := i) (by omega)
      obtain ⟨x, hx⟩ : ∃ x : Int, x = k + 9 * i := ⟨_, rfl⟩
      rw [← hx]
      have w1 : IntKind.i64.wrap (x + 1) = x + 1 := wrap_i64 (by omega) (by omega)
      have w2 : IntKind.i64.wrap (x + 1 + 1) = x + 1 + 1 := wrap_i64 (by omega) (by omega)
      have w3 : IntKind.i64.wrap (x + 1 + 1 + 1) = x + 1 + 1 + 1 := wrap_i64 (by omega) (by omega)
      have w4 : IntKind.i64.wrap (x + 1 + 1 + 1 + 1) = x + 1 + 1 + 1 + 1 := wrap_i64 (by omega) (by omega)
      have w5 : IntKind.i64.wrap (x + 1 + 1 + 1 + 1 + 1) = x + 1 + 1 + 1 + 1 + 1 := wrap_i64 (by omega) (by omega)
      have w6 : IntKind.i64.wrap (x + 1 + 1 + 1 + 1 + 1 + 1) = x + 1 + 1 + 1 + 1 + 1 + 1 := wrap_i64 (by omega) (by omega)
      have w7 : IntKind.i64.wrap (x + 1 + 1 + 1 + 1 + 1 + 1 + 1) = x + 1 + 1 + 1 + 1 + 1 + 1 + 1 := wrap_i64 (by omega) (by omega)
      have w8 : IntKind.i64.wrap (x + 1 + 1 + 1 + 1 + 1 + 1 + 1 + 1) = x + 1 + 1 + 1 + 1 + 1 + 1 + 1 + 1 := wrap_i64 (by omega) (by omega)
      have w9 : IntKind.i64.wrap (x + 1 + 1 + 1 + 1 + 1 + 1 + 1 + 1 + 1) = x + 1 + 1 + 1 + 1 + 1 + 1 + 1 + 1 + 1 := wrap_i64 (by omega) (by omega)
      have hs := fun z => set9 M (i := i) (by omega) x z (x + 1 + 1) (x + 1 + 1 + 1) (x + 1 + 1 + 1 + 1) (x + 1 + 1 + 1 + 1 + 1) (x + 1 + 1 + 1 + 1 + 1 + 1) (x + 1 + 1 + 1 + 1 + 1 + 1 + 1) (x + 1 + 1 + 1 + 1 + 1 + 1 + 1 + 1)
      have hL2 : (rcs M).length = l.length * 9 := by simp [hL]
      simp [hlt, hw, w1, w2, w3, w4, w5, w6, w7, w8, w9, hL2, hs]
      refine ⟨by omega, by omega, by omega, by omega, by omega, by omega, by omega, by omega, by omega, ⟨i + 1, by omega, hL, by push_cast; omega, by push_cast; rfl⟩, by omega⟩
    · have e : i = l.length := by omega
      subst e
      simp [hL]
set_option maxRecDepth 100000 in
theorem c_markCache (v : Int) (l : List Ob) (k : Int) (g : Nat) (hn : l.length ≤ 1048576) (hk : 0 ≤ k ∧ k ≤ 1073741824) : RCall Try.prog 13 [.agg [ic v, .own 0 g 0 l.length], iv .i64 k] ⟨g, 51, 7, rcs l⟩ fun r B Hn =>
    r = iv .i64 (k + 7 * l.length) ∧ B = ⟨g, 51, 7, rcs (obMarks k l.length)⟩ ∧ Hn = [] := by
  refine rcall_take fun clk => acall_of_aw Try.func13 rfl ?_
  simp
  refine acall_ref (k := 0) (c_markObjectS l k g hn hk) (by simp) (by simp) ?_
  rintro r B Hn c ⟨rfl, rfl, rfl⟩ _
  simp
set_option maxRecDepth 100000 in
theorem c_markCacheResult (u v : Int) (l : List Ob) (k : Int) (g : Nat) (hn : l.length ≤ 1048576) (hk : 0 ≤ k ∧ k ≤ 1073741824) : RCall Try.prog 15 [.agg [ic u, ic v, .own 0 g 0 l.length], iv .i64 k] ⟨g, 51, 7, rcs l⟩ fun r B Hn =>
    r = iv .i64 (k + 7 * l.length) ∧ B = ⟨g, 51, 7, rcs (obMarks k l.length)⟩ ∧ Hn = [] := by
  refine rcall_take fun clk => acall_of_aw Try.func15 rfl ?_
  simp
  refine acall_ref (k := 0) (c_markCache v l k g hn hk) (by simp) (by simp) ?_
  rintro r B Hn c ⟨rfl, rfl, rfl⟩ _
  simp
set_option maxRecDepth 100000 in
theorem c_markCacheResultn (u v : Int) (k : Int) : FCall Try.prog 15 [.agg [ic u, ic v, .d (.list 0 [])], iv .i64 k] fun r H => r = iv .i64 k ∧ H = [] := by
  have h : FCall Try.prog 13 [.agg [ic v, .d (.list 0 [])], iv .i64 k] fun r H => r = iv .i64 k ∧ H = [] := by
    refine fcall_gather [] id fun clk => acall_of_aw Try.func13 rfl ?_
    simp
    refine acall_val (c_markObjectSn k) (by simp) (by simp) ?_
    simp
  refine fcall_gather [] id fun clk => acall_of_aw Try.func15 rfl ?_
  simp
  refine acall_val h (by simp) (by simp) ?_
  simp
set_option maxRecDepth 100000 in
theorem c_heldCacheResult (u v : Int) (n : Nat) (k : Int) (hn : n ≤ 1048576) (hk : 0 ≤ k ∧ k ≤ 1073741824) : FCall Try.prog 16 [.agg [ic u, ic v, .d (.list n (rds (obMarks k n)))], iv .i64 k] fun r H => r = iv .i64 (k + 7 * n) ∧ H = [] := by
  have hq : ¬ k + 7 * (n : Int) < 0 := by omega
  have h : FCall Try.prog 30 [.agg [ic v, .d (.list n (rds (obMarks k n)))], iv .i64 k] fun r H => r = iv .i64 (k + 7 * n) ∧ H = [] := by
    refine fcall_gather [] id fun clk => acall_of_aw Try.func30 rfl ?_
    simp
    refine acall_val (c_heldObjectS n k hn hk) (by simp) (by simp) ?_
    simp [hq]
  refine fcall_gather [] id fun clk => acall_of_aw Try.func16 rfl ?_
  simp
  refine acall_val h (by simp) (by simp) ?_
  simp [hq]
set_option maxRecDepth 100000 in
theorem c_eqCacheResult (x y : Int) (s t : Ca) (h1 : s.obs.length ≤ 1048576) : FCall Try.prog 10 [.agg [ic x, ic s.rev, .d (.list s.obs.length (rds s.obs))], .agg [ic y, ic t.rev, .d (.list t.obs.length (rds t.obs))]] fun r H => r = bv (decide (x = y ∧ s = t)) ∧ H = [] := by
  refine fcall_gather [] id fun clk => acall_of_aw Try.func10 rfl ?_
  by_cases g1 : x = y
  · simp [g1]
    refine acall_val (c_eqCache s t h1) (by simp) (by simp) ?_
    by_cases g2 : s = t <;> simp [g2]
  · simp [g1]
end Go.Proofs.Ytadhojoalpkabaa
