/-
  What the controller asks for: right writes; and when it asks for what. Lists alone.
  The laws of the functions that are asked of a cache what is to be done.
-/
import Derived.Test.YtiogdfliailenaaQ42
import Derived.Test.YtiogdfliailenaaQ22
namespace Go.Proofs.Ytiogdfliailenaa
set_option maxRecDepth 100000
set_option linter.unusedSimpArgs false
set_option linter.unusedVariables false
set_option linter.unnecessarySimpa false
open Go Go.Abs Go.Proofs
theorem wr_mk {p : Ob} {op : Int} (h : obFault p = 0) (hr : 1 ≤ p.rev ∧ p.rev ≤ 100000) (ho : op = 1 ∨ op = 2) : wrFault (mkW op p) = 0 := by
  have h0 := obFault_rev h (r := 0) (by omega)
  unfold wrFault mkW
  rw [if_neg (by simp; omega), if_neg (by simpa using h0), if_neg (by simp; omega), if_neg (by simp; omega)]
theorem wr_new {p : Ob} (h : obFault p = 0) (hr : p.rev = 0) : wrFault (mkW 1 p) = 0 := by
  have h0 := obFault_rev h (r := 0) (by omega)
  unfold wrFault mkW
  rw [if_neg (by simp), if_neg (by simpa using h0), if_neg (by simp; omega), if_neg (by simp)]
theorem newPod_ok {k w i : Int} (hk : k = 1 ∨ k = 2) (hw : 0 ≤ w ∧ w ≤ 19) (hi : 0 ≤ i ∧ i ≤ podMost k) : obFault (newPod k w i) = 0 := by
  have hc : podCode k w i = 0 := by unfold podCode; rw [if_pos hk, if_pos ⟨hw.1, hw.2, hi.1, hi.2⟩]
  have hv : podVal k w i = podNum k w i := by unfold podVal; rw [if_pos hc]
  unfold obFault
  have hr : obRight (newPod k w i) := by
    refine ⟨by show (0 : Int) ≤ 0 ∧ (0 : Int) ≤ 100000; omega, ?_⟩
    unfold kindOk
    rw [if_neg (by show ¬ (3 : Int) = 1; omega), if_neg (by show ¬ (3 : Int) = 2; omega), if_pos (by show (3 : Int) = 3; rfl)]
    exact ⟨hc, hv, by show (0 : Int) ≤ 0 ∧ (0 : Int) ≤ 2; omega⟩
  rw [if_pos (by show (1 : Int) ≤ 3 ∧ (3 : Int) ≤ 4; omega), if_pos hr]
theorem ca_each {s : Ca} (h : caFault s = 0) : ∀ o ∈ s.obs, obFault o = 0 ∧ 1 ≤ o.rev ∧ o.rev ≤ 100000 := by
  unfold caFault at h
  split at h
  · rename_i h1
    split at h
    · split at h
      · rename_i h3
        intro o ho
        obtain ⟨g1, g2, g3⟩ := obsBad_each h3 o ho
        exact ⟨g1, g2, by omega⟩
      · rename_i h3; exact absurd h h3
    · omega
  · omega
theorem podsL_mem {l : List Ob} {k w : Int} {p : Ob} (h : p ∈ podsL l k w) : p ∈ l ∧ p.kind = 3 ∧ p.a = k ∧ p.b = w := by
  have := List.mem_filter.1 h
  exact ⟨this.1, isPodB_iff.1 this.2⟩
theorem badPod_no {l : List Ob} (h : badPod l = none) : ∀ p ∈ l, p.d = 0 := by
  intro p hp
  have := List.find?_eq_none.1 h p hp
  simpa using this
theorem live_all {l : List Ob} (h : ∀ p ∈ l, p.d = 0) : liveN l = l.length := by
  unfold liveN
  rw [List.filter_eq_self.2 (fun p hp => by simp [h p hp])]
theorem live_some {l : List Ob} {p : Ob} (h : badPod l = some p) : p ∈ l ∧ liveN l < l.length := by
  have hm := List.mem_of_find?_eq_some h
  have hd := List.find?_some h
  refine ⟨hm, ?_⟩
  unfold liveN
  have hle := List.length_filter_le (fun o : Ob => decide (o.d = 0)) l
  have hne : (l.filter fun o : Ob => decide (o.d = 0)).length ≠ l.length := by
    intro e
    have := List.length_filter_eq_length_iff.1 e p hm
    simp at this hd
    exact hd this
  omega
/-- What is asked for a set, and when. -/
theorem setStep_when {s : Ca} (h : caFault s = 0) {q : Int} {o : Ob} (ho : findOb s.obs 1 q = some o) :
    match setStep s.obs o with
    | none => liveN (podsL s.obs 1 q) = o.a ∧ o.a = (podsL s.obs 1 q).length
    | some w => wrFault w = 0 ∧ (w.op = 1 ∧ liveN (podsL s.obs 1 q) < o.a ∨ w.op = 2 ∧ (o.a < liveN (podsL s.obs 1 q) ∨ liveN (podsL s.obs 1 q) < (podsL s.obs 1 q).length)) := by
  obtain ⟨hm, hk, hid⟩ := findOb_mem ho
  have hset := ob_set (ca_each h o hm).1 hk
  obtain ⟨⟨i0, i1⟩, ⟨a0, a1⟩, _⟩ := hset
  have hP := podsL_ok (caFault_obs h) 1 q
  unfold setStep setGo
  rw [hk, hid]
  cases hb : badPod (podsL s.obs 1 q) with
  | some p =>
    obtain ⟨hp, hl⟩ := live_some hb
    obtain ⟨hp1, _⟩ := podsL_mem hp
    obtain ⟨g1, g2, g3⟩ := ca_each h p hp1
    exact ⟨wr_mk g1 ⟨g2, g3⟩ (.inr rfl), .inr ⟨rfl, .inr hl⟩⟩
  | none =>
    have hl := live_all (badPod_no hb)
    have hf := free_le (podsL s.obs 1 q)
    by_cases g : ((podsL s.obs 1 q).length : Int) < o.a
    · simp only [if_pos g]
      refine ⟨wr_new (newPod_ok (.inl rfl) (by rw [← hid]; exact ⟨i0, i1⟩) ⟨hf.1, ?_⟩) rfl, .inl ⟨rfl, by omega⟩⟩
      show _ ≤ (15 : Int)
      omega
    · by_cases g2 : o.a < ((podsL s.obs 1 q).length : Int)
      · simp only [if_neg g, if_pos g2]
        cases hlast : (podsL s.obs 1 q).getLast? with
        | none =>
          rw [List.getLast?_eq_none_iff] at hlast
          rw [hlast] at g2
          simp at g2
          omega
        | some p =>
          have hp := List.mem_of_getLast? hlast
          obtain ⟨hp1, _⟩ := podsL_mem hp
          obtain ⟨e1, e2, e3⟩ := ca_each h p hp1
          exact ⟨wr_mk e1 ⟨e2, e3⟩ (.inr rfl), .inr ⟨rfl, .inl (by omega)⟩⟩
      · simp only [if_neg g, if_neg g2]
        exact ⟨by omega, by omega⟩
theorem orphan_ok {s : Ca} (h : caFault s = 0) {w : Wr} (hw : orphan s.obs = some w) : wrFault w = 0 ∧ w.op = 2 := by
  unfold orphan at hw
  cases hf : s.obs.find? (isOrph s.obs) with
  | none => rw [hf] at hw; cases hw
  | some p =>
    rw [hf] at hw
    simp at hw; subst hw
    obtain ⟨e1, e2, e3⟩ := ca_each h p (List.mem_of_find?_eq_some hf)
    exact ⟨wr_mk e1 ⟨e2, e3⟩ (.inr rfl), rfl⟩
theorem runTry_nn : ∀ {l : List Ob} {nx : Int} {go : Bool} {x : Int × Bool}, (∀ p ∈ l, 0 ≤ p.c) → 0 ≤ nx → runTry l nx go = some x → 0 ≤ x.1
  | [], nx, go, x, _, hn, h => by rw [runTry] at h; cases h; exact hn
  | p :: t, nx, go, x, hl, hn, h => by
    rw [runTry] at h
    split at h
    · cases h
    · exact runTry_nn (fun q hq => hl q (List.mem_cons_of_mem _ hq)) (by have := hl p (List.mem_cons_self ..); omega) h
theorem jobNext_in {l : List Ob} {a : Nat} {x : Int} (hl : ∀ p ∈ l, 0 ≤ p.c) (h : jobNext l a = some x) : 0 ≤ x ∧ x < 3 * a := by
  unfold jobNext at h
  obtain ⟨m, hm, hx⟩ := List.exists_of_findSome?_eq_some h
  have hma := List.mem_range.1 hm
  unfold jobAt at hx
  split at hx
  · rename_i nx e
    split at hx
    · cases hx
      have := runTry_nn (fun p hp => hl p (List.mem_filter.1 hp).1) (by omega) e
      exact ⟨this, by omega⟩
    · cases hx
  · cases hx
theorem jobStep_ok {s : Ca} (h : caFault s = 0) {q : Int} {o : Ob} {w : Wr} (ho : findOb s.obs 2 q = some o) (hw : jobStep s.obs o = some w) : wrFault w = 0 := by
  obtain ⟨hm, hk, hid⟩ := findOb_mem ho
  obtain ⟨e1, e2, e3⟩ := ca_each h o hm
  have hjob := ob_job e1 hk
  obtain ⟨⟨i0, i1⟩, ⟨a0, a1⟩, ⟨b0, b1⟩, c0, d0⟩ := hjob
  have hP := podsL_ok (caFault_obs h) 2 q
  have hc : ∀ p ∈ podsL s.obs 2 q, 0 ≤ p.c := fun p hp => (hP.ge p hp).1
  unfold jobStep jobGo at hw
  rw [hk, hid] at hw
  cases hn : jobNext (podsL s.obs 2 q) o.a.toNat with
  | some x =>
    rw [hn] at hw
    cases hw
    obtain ⟨x0, x1⟩ := jobNext_in hc hn
    refine wr_new (newPod_ok (.inr rfl) (by rw [← hid]; exact ⟨i0, i1⟩) ⟨x0, ?_⟩) rfl
    show _ ≤ (23 : Int)
    omega
  | none =>
    rw [hn] at hw
    simp only at hw
    split at hw
    · cases hw
    · cases hw
      have hd := doneN_le (podsL s.obs 2 q) o.a.toNat
      refine wr_mk ?_ ⟨e2, e3⟩ (.inl rfl)
      have hr : obRight ⟨2, q, o.a, doneN (podsL s.obs 2 q) o.a.toNat, o.c, o.d, o.rev⟩ := by
        refine ⟨by show 0 ≤ o.rev ∧ o.rev ≤ 100000; omega, ?_⟩
        unfold kindOk
        rw [if_neg (by show ¬ (2 : Int) = 1; omega), if_pos (by show (2 : Int) = 2; rfl)]
        exact ⟨by rw [← hid]; exact ⟨i0, i1⟩, ⟨a0, a1⟩, ⟨hd.1, by show doneN _ _ ≤ 8; omega⟩, c0, d0⟩
      unfold obFault
      rw [if_pos (by show (1 : Int) ≤ 2 ∧ (2 : Int) ≤ 4; omega), if_pos hr]
end Go.Proofs.Ytiogdfliailenaa
namespace Go.Proofs.Ytiogdfliailenaa
set_option maxRecDepth 100000
set_option linter.unusedSimpArgs false
set_option linter.unusedVariables false
set_option linter.unnecessarySimpa false
open Go Go.Abs Go.Proofs
end Go.Proofs.Ytiogdfliailenaa
