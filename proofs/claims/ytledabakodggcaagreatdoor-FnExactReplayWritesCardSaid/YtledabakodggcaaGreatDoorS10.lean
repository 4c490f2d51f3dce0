/-
  What a history can be, and what a store can be: the program's StoreFault.
-/
import Derived.Test.YtledabakodggcaaGreatDoorS9
namespace Go.Proofs.YtledabakodggcaaGreatDoor
set_option maxRecDepth 100000
set_option linter.unusedSimpArgs false
set_option linter.unusedVariables false
set_option linter.unnecessarySimpa false
open Go Go.Abs Go.Proofs
def chFault (rev : Int) (c : Ch) : Int := if obFault c.ob = 0 ∧ c.ob.rev = c.rev then (if c.rev = rev then 0 else 8) else 1
set_option maxRecDepth 100000 in
theorem c_changeFault (c : Ch) (rev : Int) : FCall Tryz.prog 121 [c.av, iv .i64 rev] fun r H => r = iv .i64 (chFault rev c) ∧ H = [] := by
  refine fcall_gather [] id fun clk => acall_of_aw Tryz.func121 rfl ?_
  simp
  refine acall_val (c_ObjectFault c.ob) (by simp) (by simp) ?_
  by_cases h1 : obFault c.ob = 0
  · by_cases h2 : c.ob.rev = c.rev
    · by_cases h3 : c.rev = rev <;> simp [chFault, h1, h2, h3]
    · simp [chFault, h1, h2]
  · simp [chFault, h1]
theorem chFault_ok {rev : Int} {c : Ch} (h : 1 ≤ rev) : chFault rev c = 0 ↔ chOk 1 rev c := by
  unfold chFault chOk
  constructor
  · intro h1
    split at h1
    · rename_i h2
      split at h1
      · rename_i h3; exact ⟨h2.1, h2.2, h3, by omega⟩
      · omega
    · omega
  · rintro ⟨h1, h2, h3, h4⟩
    rw [if_pos ⟨h1, h2⟩, if_pos h3]
theorem histOk_len {l : List Ch} {rev : Int} (hr : 0 ≤ rev) (hl : l.length ≤ 12) (h : ¬ (l.length : Int) = min rev 12) : histOk rev l = false := by
  rw [Bool.eq_false_iff]
  intro hk
  rw [histOk, Bool.and_eq_true, decide_eq_true_eq, histAll_iff] at hk
  obtain ⟨h1, h2⟩ := hk
  have h3 : l.length = 12 ∧ rev < 12 := by omega
  have h4 : 0 < l.length := by omega
  obtain ⟨_, _, h5, h6⟩ := h2 0 l[0] (List.getElem?_eq_getElem h4)
  have h7 : (l.length : Int) = 12 := by rw [h3.1]; rfl
  rw [h7] at h5
  simp at h5
  omega
set_option maxRecDepth 100000 in
set_option maxHeartbeats 1000000 in
theorem c_isHistory (l : List Ch) (rev : Int) (hr : 0 ≤ rev ∧ rev ≤ 100000) (hl : l.length ≤ 12) : FCall Tryz.prog 105 [rlist l, iv .i64 rev] fun r H => r = bv (histOk rev l) ∧ H = [] := by
  refine fcall_gather [] id fun clk => acall_of_aw Tryz.func105 rfl ?_
  by_cases g : (l.length : Int) = min rev 12
  · have hok : histOk rev l = histAll 1 (rev - l.length + 1) l := by rw [histOk, decide_eq_true (by omega), Bool.true_and]
    have w1 : IntKind.i64.wrap (rev - l.length) = rev - l.length := wrap_i64 (by omega) (by omega)
    have w2 : IntKind.i64.wrap (rev - l.length + 1) = rev - l.length + 1 := wrap_i64 (by omega) (by omega)
    rw [hok]
    simp [eq_true g, w1, w2]
    refine codeOk_loop [false, false, false, false, false, false, true, false, false, false, false, false, false, false, false, false, false, false, false, true, true, true] 0 (fun z => ∃ (i c : Nat), i ≤ l.length ∧ (∀ (j : Nat) (c : Ch), j < i → l[j]? = some c → chOk 1 (rev - l.length + 1 + j) c) ∧ z = ⟨[unknown, unknown, unknown, unknown, unknown, unknown, iv .i64 (rev - l.length + 1 + i), unknown, unknown, unknown, unknown, unknown, unknown, unknown, unknown, unknown, unknown, unknown, unknown, rlist l, iv .i64 l.length, iv .i64 i] ++ List.replicate 10 unknown, [], c⟩)
      (fun z => match z.tmps.getD 21 unknown with | .one (.d (.s (.int _ i))) => l.length - i.toNat | _ => 0) ?_ ?_
    · simp
      exact ⟨0, by omega, fun j c h => absurd h (by omega), by simp⟩
    · rintro z ⟨i, c0, hi, hok, rfl⟩
      by_cases hlt : i < l.length
      · have hw := wrap_succ (i := i) (by omega)
        have w3 : IntKind.i64.wrap (rev - l.length + 1 + i + 1) = rev - l.length + 1 + i + 1 := wrap_i64 (by omega) (by omega)
        obtain ⟨c, t, hd, hc, _, _⟩ := drop_at l hlt
        simp [hlt, hd]
        refine acall_val (c_changeFault c (rev - l.length + 1 + i)) (by simp) (by simp) ?_
        by_cases f : chFault (rev - l.length + 1 + i) c = 0
        · have f2 := (chFault_ok (by omega)).1 f
          simp [f, hw, w3]
          exact ⟨⟨i + 1, by omega, lt_succ_cases hok hc f2, by omega, by push_cast; omega⟩, by omega⟩
        · simp [f]
          exact histAll_not hc fun h => f ((chFault_ok (by omega)).2 h)
      · have e : i = l.length := by omega
        subst e
        simp
        exact (histAll_iff _ _ _).2 fun j c hc => hok j c (List.getElem?_eq_some_iff.1 hc).1 hc
  · have hn := histOk_len hr.1 hl g
    simp [eq_false g, hn]
set_option maxRecDepth 100000 in
set_option maxHeartbeats 1000000 in
theorem c_StoreFault (s : St) (h1 : s.obs.length ≤ 1048576) (h2 : s.hist.length ≤ 1048576) : FCall Tryz.prog 86 [s.av] fun r H => r = iv .i64 (stFault s) ∧ H = [] := by
  refine fcall_gather [] id fun clk => acall_of_aw Tryz.func86 rfl ?_
  simp
  refine acall_val (c_inBounds [⟨s.rev, 0, 100000⟩] (by simp)) (by simp [sps, AC.dc?]) (by simp) ?_
  by_cases g1 : 0 ≤ s.rev ∧ s.rev ≤ 100000
  · by_cases g2 : s.obs.length ≤ 60
    · have g2' : ¬ (60 : Int) < s.obs.length := by omega
      by_cases g3 : s.hist.length ≤ 12
      · have g3' : ¬ (12 : Int) < s.hist.length := by omega
        simp [OkAll, Sp.ok, g1, g2', g3']
        refine acall_val (c_objectsFault s.obs s.rev h1) (by simp) (by simp) ?_
        by_cases hb : obsBad s.rev s.obs = 0
        · by_cases hr : rises s.obs = true
          · simp [hb, hr]
            refine acall_val (c_isHistory s.hist s.rev g1 g3) (by simp) (by simp) ?_
            by_cases f : histOk s.rev s.hist = true
            · simp [f, stFault, g1, g2, g3, hb, hr]
            · have f' : histOk s.rev s.hist = false := by simpa using f
              simp [f', stFault, g1, g2, g3, hb, hr]
          · have hr' : rises s.obs = false := by simpa using hr
            simp [hb, hr', stFault, g1, g2, g3]
        · simp [hb, stFault, g1, g2, g3]
      · have g3' : (12 : Int) < s.hist.length := by omega
        simp [OkAll, Sp.ok, g1, g2', g3', stFault, g2, g3]
    · have g2' : (60 : Int) < s.obs.length := by omega
      simp [OkAll, Sp.ok, g1, g2', stFault, g2]
  · have e2 : OkAll [⟨s.rev, 0, 100000⟩] = false := by simp [OkAll, Sp.ok]; omega
    rw [e2]
    simp [stFault, g1]
end Go.Proofs.YtledabakodggcaaGreatDoor
