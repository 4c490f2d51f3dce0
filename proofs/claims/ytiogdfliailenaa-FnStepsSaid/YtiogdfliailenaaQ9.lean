/-
  Objects compared; the faults of a store's objects, as the program tells them.
-/
import Derived.Test.YtiogdfliailenaaQ8
namespace Go.Proofs.Ytiogdfliailenaa
set_option maxRecDepth 100000
set_option linter.unusedSimpArgs false
set_option linter.unusedVariables false
set_option linter.unnecessarySimpa false
open Go Go.Abs Go.Proofs
def cmpI (a b : Int) : Int := if a < b then -1 else if b < a then 1 else 0
theorem c_isNaN (a : Int) : FCall Try.prog 94 [iv .i64 a] fun r H => r = bv false ∧ H = [] := by
  intro clk
  refine acall_of_aw Try.func94 rfl ?_
  simp
theorem c_cmpCompare (a b : Int) : FCall Try.prog 85 [iv .i64 a, iv .i64 b] fun r H => r = iv .i64 (cmpI a b) ∧ H = [] := by
  intro clk
  refine acall_of_aw Try.func85 rfl ?_
  simp
  refine acall_val (c_isNaN a) (by simp) (by simp) ?_
  simp
  refine acall_val (c_isNaN b) (by simp) (by simp) ?_
  by_cases h : a < b
  · simp [h, cmpI]
  · by_cases h' : b < a <;> simp [h, h', cmpI]
theorem c_cmpOr2 (a b : Int) : FCall Try.prog 84 [.one (.d (.list 2 [dc a, dc b]))] fun r H => r = iv .i64 (if a = 0 then b else a) ∧ H = [] := by
  intro clk
  refine acall_of_aw Try.func84 rfl ?_
  simp
  refine codeOk_rounds 3 ?_
  rw [AR_succ]
  by_cases h : a = 0
  · simp [h]
    rw [AR_succ]
    by_cases h2 : b = 0
    · simp [h2]
      rw [AR_succ]
      simp
    · simp [h2]
  · simp [h]
def cmpOb (a b : Ob) : Int := if cmpI a.kind b.kind = 0 then cmpI a.id b.id else cmpI a.kind b.kind
theorem cmpOb_less (a b : Ob) : cmpOb a b < 0 ↔ less a b = true := by
  unfold cmpOb cmpI less
  simp
  split <;> split <;> (try split) <;> omega
set_option maxRecDepth 100000 in
theorem c_compareObjects (a b : Ob) : FCall Try.prog 73 [a.av, b.av] fun r H => r = iv .i64 (cmpOb a b) ∧ H = [] := by
  refine fcall_gather [] id fun clk => acall_of_aw Try.func73 rfl ?_
  simp
  refine codeOk_drawA mixed (by kernel_rfl) ?_
  simp
  refine qcall_val (c_cmpCompare a.kind b.kind) (by simp) (by simp) ?_
  simp
  refine qcall_val (c_cmpCompare a.id b.id) (by simp) (by simp) ?_
  simp
  refine qcall_val (c_cmpOr2 (cmpI a.kind b.kind) (cmpI a.id b.id)) (by simp [AC.dc?]) (by simp) ?_
  simp [cmpOb]
set_option maxRecDepth 100000 in
set_option maxHeartbeats 1000000 in
theorem c_objectsFault (l : List Ob) (rev : Int) (hl : l.length ≤ 1048576) : FCall Try.prog 52 [rlist l, iv .i64 rev] fun r H => r = iv .i64 (if obsBad rev l = 0 then (if rises l then 0 else 1) else obsBad rev l) ∧ H = [] := by
  refine fcall_gather [] id fun clk => acall_of_aw Try.func52 rfl ?_
  simp
  refine codeOk_loop [true, true, false, false, false, false, false, false, false, true, true, true] 0 (fun z => ∃ (i c : Nat), i ≤ l.length ∧ obsBad rev (l.take i) = 0 ∧ z = ⟨[rlist l, iv .i64 rev, unknown, unknown, unknown, unknown, unknown, unknown, unknown, rlist l, iv .i64 l.length, iv .i64 i] ++ List.replicate 33 unknown, [], c⟩)
    (fun z => match z.tmps.getD 11 unknown with | .one (.d (.s (.int _ i))) => l.length - i.toNat | _ => 0) ?_ ?_
  · simp
    exact ⟨0, by omega, rfl, rfl⟩
  · rintro z ⟨i, c0, hi, hb, rfl⟩
    by_cases hlt : i < l.length
    · have hw := wrap_succ (i := i) (by omega)
      obtain ⟨o, t, hd, ho, _, htk⟩ := drop_at l hlt
      have hat := obsBad_at hb ho
      simp [hlt, hd]
      refine acall_val (c_ObjectFault o) (by simp) (by simp) ?_
      by_cases f1 : obFault o = 0
      · rw [if_pos f1] at hat
        simp [f1]
        refine acall_val (c_inBounds [⟨o.rev, 1, rev⟩] (by simp)) (by simp [sps, AC.dc?]) (by simp) ?_
        by_cases f2 : 1 ≤ o.rev ∧ o.rev ≤ rev
        · simp [OkAll, Sp.ok, f2, hw]
          refine ⟨⟨i + 1, by omega, ?_, by omega⟩, by omega⟩
          rw [htk]; exact obsBad_snoc hb f1 f2
        · rw [if_neg f2] at hat
          have e2 : OkAll [⟨o.rev, 1, rev⟩] = false := by simp [OkAll, Sp.ok]; omega
          rw [e2]
          simp [hat]
      · rw [if_neg f1] at hat
        simp [f1, hat]
    · have e : i = l.length := by omega
      subst e
      rw [List.take_length] at hb
      simp
      refine codeOk_loop [true, false, false, false, false, false, false, false, true] 0 (fun z => ∃ (k c : Nat), (∀ (j : Nat) (a b : Ob), j < k → l[j]? = some a → l[j + 1]? = some b → less a b = true) ∧ z = ⟨[rlist l, unknown, unknown, unknown, unknown, unknown, unknown, unknown, iv .i64 ((k + 1 : Nat) : Int)] ++ List.replicate 36 unknown, [], c⟩)
        (fun z => match z.tmps.getD 8 unknown with | .one (.d (.s (.int _ i))) => l.length - i.toNat | _ => 0) ?_ ?_
      · simp
        exact ⟨0, fun j a b h => absurd h (by omega), by simp⟩
      · rintro z ⟨k, c1, hk, rfl⟩
        by_cases hlt : k + 1 < l.length
        · have hlt' : (k : Int) + 1 < l.length := by omega
          have hw : IntKind.i64.wrap ((k : Int) + 1 + 1) = (k : Int) + 1 + 1 := wrap_i64 (by omega) (by omega)
          have hw0 : IntKind.i64.wrap (k : Int) = k := wrap_i64 (by omega) (by omega)
          obtain ⟨a, b, t, hd, hd', ha, hb'⟩ := drop_two l hlt
          simp [hlt', hd, hd']
          refine codeOk_drawA mixed (by kernel_rfl) ?_
          simp [hlt, hlt', hd, hd', hw0]
          refine ⟨by omega, by omega, ?_⟩
          refine qcall_val (c_compareObjects a b) (by simp) (by simp) ?_
          by_cases f : less a b = true
          · have f2 := (cmpOb_less a b).2 f
            have f3 : ¬ 0 ≤ cmpOb a b := by omega
            simp [f3, hw]
            refine ⟨⟨k + 1, fun j x y hj hx hy => ?_, by omega⟩, by omega⟩
            rcases Nat.lt_or_ge j k with h1 | h1
            · exact hk j x y h1 hx hy
            · obtain rfl : j = k := by omega
              rw [ha] at hx; rw [hb'] at hy; cases hx; cases hy; exact f
          · have f' : less a b = false := by simpa using f
            have f3 : 0 ≤ cmpOb a b := by
              rcases Int.lt_or_le (cmpOb a b) 0 with h | h
              · exact absurd ((cmpOb_less a b).1 h) f
              · exact h
            have hr := rises_not ha hb' f'
            simp [f3, hb, hr]
        · have hlt' : ¬ (k : Int) + 1 < l.length := by omega
          have hr : rises l = true := (rises_iff _).2 fun j x y hx hy => hk j x y (by have := (List.getElem?_eq_some_iff.1 hy).1; omega) hx hy
          simp [hlt', hb, hr]
end Go.Proofs.Ytiogdfliailenaa
