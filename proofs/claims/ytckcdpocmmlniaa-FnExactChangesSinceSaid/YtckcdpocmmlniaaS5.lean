/-
  What a store can be: the model's StoreFault.
-/
import Derived.Test.YtckcdpocmmlniaaS4
namespace Go.Proofs.Ytckcdpocmmlniaa
set_option maxRecDepth 100000
set_option linter.unusedSimpArgs false
set_option linter.unusedVariables false
set_option linter.unnecessarySimpa false
open Go Go.Abs Go.Proofs
/-- Two that stand one behind the other. -/
theorem drop_two {α : Type} (l : List α) {k : Nat} (h : k + 1 < l.length) : ∃ a b t, l.drop k = a :: b :: t ∧ l.drop (k + 1) = b :: t ∧ l[k]? = some a ∧ l[k + 1]? = some b := by
  refine ⟨l[k], l[k + 1], l.drop (k + 2), ?_, List.drop_eq_getElem_cons h, List.getElem?_eq_getElem _, List.getElem?_eq_getElem _⟩
  rw [List.drop_eq_getElem_cons (by omega), List.drop_eq_getElem_cons h]
theorem obsBad_at {rev : Int} {l : List Ob} {i : Nat} {o : Ob} (h : obsBad rev (l.take i) = 0) (ho : l[i]? = some o) : obsBad rev l = if obFault o = 0 then (if 1 ≤ o.rev ∧ o.rev ≤ rev then obsBad rev (l.drop (i + 1)) else 3) else obFault o := by
  have hi := (List.getElem?_eq_some_iff.1 ho).1
  rw [obsBad_take h ho, List.drop_eq_getElem_cons hi, obsBad]
  have : l[i] = o := by rw [List.getElem?_eq_getElem hi] at ho; exact Option.some.inj ho
  rw [this]
set_option maxRecDepth 100000 in
set_option maxHeartbeats 1000000 in
theorem c_sStoreFault (s : St) : FCall Try.prog 28 [s.av] fun r H => r = iv .i64 (stFault s) ∧ H = [] := by
  refine fcall_gather [] id fun clk => acall_of_aw Try.func28 rfl ?_
  simp
  refine acall_val (c_l1In s.rev 0 100000) (by simp) (by simp) ?_
  by_cases g1 : 0 ≤ s.rev ∧ s.rev ≤ 100000
  · have e1 : (decide (0 ≤ s.rev) && decide (s.rev ≤ 100000)) = true := by simp [g1]
    rw [e1]
    by_cases g2 : s.obs.length ≤ 60
    · have g2' : ¬ (60 : Int) < s.obs.length := by omega
      by_cases g3 : s.hist.length ≤ 12
      · have g3' : ¬ (12 : Int) < s.hist.length := by omega
        simp [g2', g3']
        refine codeOk_loop [false, true, false, true] 1 (fun z => ∃ (i c : Nat), i ≤ s.obs.length ∧ obsBad s.rev (s.obs.take i) = 0 ∧ z = ⟨[unknown, .one (.ptr 0 clk 0), unknown, iv .i64 i] ++ List.replicate 62 unknown, [some ⟨clk, 33, 3, [ic s.rev, .d (.list s.obs.length (rds s.obs)), .d (.list s.hist.length (rds s.hist))]⟩], c⟩)
          (fun z => match z.tmps.getD 3 unknown with | .one (.d (.s (.int _ i))) => s.obs.length - i.toNat | _ => 0) ?_ ?_
        · simp
          exact ⟨0, by omega, rfl, rfl⟩
        · rintro z ⟨i, c0, hi, hb, rfl⟩
          by_cases hlt : i < s.obs.length
          · have hw := wrap_succ (i := i) (by omega)
            obtain ⟨o, t, hd, ho, _, htk⟩ := drop_at s.obs hlt
            have hat := obsBad_at hb ho
            simp [hlt, hd]
            refine acall_val (c_sObjectFault o) (by simp) (by simp) ?_
            by_cases f1 : obFault o = 0
            · rw [if_pos f1] at hat
              simp [f1]
              refine codeOk_drawA mixed (by kernel_rfl) ?_
              simp [hlt, hd]
              refine qcall_val (c_l1In o.rev 1 s.rev) (by simp) (by simp) ?_
              by_cases f2 : 1 ≤ o.rev ∧ o.rev ≤ s.rev
              · simp [f2, hw]
                refine ⟨⟨i + 1, by omega, ?_, by omega⟩, by omega⟩
                rw [htk]; exact obsBad_snoc hb f1 f2
              · rw [if_neg f2] at hat
                have e2 : (decide (1 ≤ o.rev) && decide (o.rev ≤ s.rev)) = false := by simp; omega
                rw [e2]
                simp
                simp [stFault, g1, g2, g3, hat]
            · rw [if_neg f1] at hat
              simp [f1]
              simp [stFault, g1, g2, g3, hat, f1]
          · have e : i = s.obs.length := by omega
            subst e
            rw [List.take_length] at hb
            simp
            refine codeOk_loop [false, true, false, false, false, true] 1 (fun z => ∃ (k c : Nat), (∀ (j : Nat) (a b : Ob), j < k → s.obs[j]? = some a → s.obs[j + 1]? = some b → less a b = true) ∧ z = ⟨[unknown, .one (.ptr 0 clk 0), unknown, unknown, unknown, iv .i64 ((k + 1 : Nat) : Int)] ++ List.replicate 60 unknown, [some ⟨clk, 33, 3, [ic s.rev, .d (.list s.obs.length (rds s.obs)), .d (.list s.hist.length (rds s.hist))]⟩], c⟩)
              (fun z => match z.tmps.getD 5 unknown with | .one (.d (.s (.int _ i))) => s.obs.length - i.toNat | _ => 0) ?_ ?_
            · simp
              exact ⟨0, fun j a b h => absurd h (by omega), by simp⟩
            · rintro z ⟨k, c1, hk, rfl⟩
              by_cases hlt : k + 1 < s.obs.length
              · have hlt' : (k : Int) + 1 < s.obs.length := by omega
                have hw : IntKind.i64.wrap ((k : Int) + 1 + 1) = (k : Int) + 1 + 1 := wrap_i64 (by omega) (by omega)
                have hw0 : IntKind.i64.wrap (k : Int) = k := wrap_i64 (by omega) (by omega)
                obtain ⟨a, b, t, hd, hd', ha, hb'⟩ := drop_two s.obs hlt
                simp [hlt', hd, hd']
                refine codeOk_drawA mixed (by kernel_rfl) ?_
                simp [hlt, hlt', hd, hd', hw0]
                refine ⟨by omega, by omega, ?_⟩
                refine qcall_val (c_l3Less a b (b.dcs ++ rds t) (rds t)) (by simp) (by simp) ?_
                by_cases f : less a b = true
                · simp [f, hw]
                  refine ⟨⟨k + 1, fun j x y hj hx hy => ?_, by omega⟩, by omega⟩
                  rcases Nat.lt_or_ge j k with h1 | h1
                  · exact hk j x y h1 hx hy
                  · obtain rfl : j = k := by omega
                    rw [ha] at hx; rw [hb'] at hy; cases hx; cases hy; exact f
                · have f' : less a b = false := by simpa using f
                  have hr := rises_not ha hb' f'
                  simp [f', stFault, g1, g2, g3, hb, hr]
              · have hlt' : ¬ (k : Int) + 1 < s.obs.length := by omega
                have hr : rises s.obs = true := (rises_iff _).2 fun j x y hx hy => hk j x y (by have := (List.getElem?_eq_some_iff.1 hy).1; omega) hx hy
                simp [hlt']
                refine acall_val (c_l3History s g1 g3) (by simp [AC.dc?]) (by simp) ?_
                by_cases f : histOk s.rev s.hist = true
                · simp [f, stFault, g1, g2, g3, hb, hr]
                · have f' : histOk s.rev s.hist = false := by simpa using f
                  simp [f', stFault, g1, g2, g3, hb, hr]
      · have g3' : (12 : Int) < s.hist.length := by omega
        simp [g2', g3', stFault, g1, g2, g3]
    · have g2' : (60 : Int) < s.obs.length := by omega
      simp [g2', stFault, g1, g2]
  · have e1 : (decide (0 ≤ s.rev) && decide (s.rev ≤ 100000)) = false := by simp; omega
    rw [e1]
    simp [stFault, g1]
theorem stFault_ok {s : St} (h : stFault s = 0) : s.obs.length ≤ 60 ∧ rises s.obs = true := by
  unfold stFault at h
  split at h
  · split at h
    · rename_i h2
      split at h
      · split at h
        · rename_i h4; exact ⟨h2.1, h4⟩
        · omega
      · rename_i h3; exact absurd h h3
    · omega
  · omega
end Go.Proofs.Ytckcdpocmmlniaa
