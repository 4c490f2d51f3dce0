/-
  What is done of a job, and which index of a set is free: on both sides.
-/
import Derived.Test.YtiogdfliailenaaQ35
namespace Go.Proofs.Ytiogdfliailenaa
set_option maxRecDepth 100000
set_option linter.unusedSimpArgs false
set_option linter.unusedVariables false
set_option linter.unnecessarySimpa false
open Go Go.Abs Go.Proofs
theorem doneN_succ (l : List Ob) (k : Nat) : doneN l (k + 1) = doneN l k + if isDone l k then 1 else 0 := rfl
set_option maxRecDepth 100000 in
theorem c_l6Done (l : List Ob) (j : Ob) (x : List DC) (hl : ObsOk l) (hj : 0 ≤ j.a ∧ j.a ≤ 8) : FCall Try.prog 42 [rlist l, optr j x] fun r H => r = iv .i64 (doneN (podsL l j.kind j.id) j.a.toNat) ∧ H = [] := by
  have hp := podsL_ok hl j.kind j.id
  have hlen := podsL_len l j.kind j.id
  have hl60 := hl.len
  refine fcall_gather [] id fun clk => acall_of_aw Try.func42 rfl ?_
  simp
  refine acall_val (c_l2Key j x) (by simp) (by simp) ?_
  simp
  refine a_l6Pods l j.kind j.id (by omega) ?_
  obtain ⟨L, hL⟩ : ∃ L, L = podsL l j.kind j.id := ⟨_, rfl⟩
  rw [← hL] at hp hlen ⊢
  simp
  refine codeOk_loop [false, true, false, false, false, true, true, true] 0 (fun z => ∃ (n c : Nat), (n : Int) ≤ j.a ∧ z = ⟨[unknown, optr j x, unknown, unknown, unknown, rlist L, iv .i64 (doneN L n), iv .i64 n] ++ List.replicate 24 unknown, [], c⟩)
    (fun z => match z.tmps.getD 7 unknown with | .one (.d (.s (.int _ i))) => 9 - i.toNat | _ => 0) ?_ ?_
  · simp
    exact ⟨0, by omega, by simp [doneN]⟩
  · rintro z ⟨n, c0, hn, rfl⟩
    have hd := doneN_le L n
    have hs := doneN_succ L n
    obtain ⟨D, hD⟩ : ∃ D, D = doneN L n := ⟨_, rfl⟩
    rw [← hD] at hd hs ⊢
    by_cases hlt : (n : Int) < j.a
    · have hw : IntKind.i64.wrap ((n : Int) + 1) = ((n + 1 : Nat) : Int) := wrap_succ (by omega)
      have hwd : IntKind.i64.wrap (D + 1) = D + 1 := wrap_i64 (by omega) (by omega)
      simp [hlt]
      refine acall_pure (c_l6Index L n hp (by omega) ⟨by omega, by omega⟩) (by simp) ?_
      rintro r Hn c ⟨rfl, rfl⟩ _
      by_cases h : isDone L n = true
      · rw [if_pos h] at hs
        simp [h, hw, hwd]
        exact ⟨⟨n + 1, by omega, hs.symm, by omega⟩, by omega⟩
      · rw [if_neg h] at hs
        simp [h, hw]
        exact ⟨⟨n + 1, by omega, by omega, by omega⟩, by omega⟩
    · have e : n = j.a.toNat := by omega
      simp [hlt]
      rw [hD, e]
set_option maxRecDepth 100000 in
theorem c_freeIndex (l : List Ob) (hl : l.length ≤ 60) : FCall Try.prog 50 [rlist l] fun r H => r = iv .i64 (freeC l) ∧ H = [] := by
  refine fcall_gather [] id fun clk => acall_of_aw Try.func50 rfl ?_
  simp
  refine codeOk_loop [false, false, false, true, false, false, true, true, true] 0 (fun z => ∃ (i c : Nat), i ≤ l.length ∧ freeGo (l.take i) 0 = i ∧ z = ⟨[unknown, unknown, unknown, iv .i64 i, unknown, unknown, rlist l, iv .i64 l.length, iv .i64 i] ++ List.replicate 11 unknown, [], c⟩)
    (fun z => match z.tmps.getD 8 unknown with | .one (.d (.s (.int _ i))) => l.length - i.toNat | _ => 0) ?_ ?_
  · simp
    exact ⟨0, by omega, by simp [freeGo], rfl⟩
  · rintro z ⟨i, c0, hi, hf, rfl⟩
    by_cases hlt : i < l.length
    · have hw := wrap_succ (i := i) (by omega)
      obtain ⟨p, t, hd, ho, _, htk⟩ := drop_at l hlt
      have hlen : (l.take i).length = i := by rw [List.length_take]; omega
      have hsn := freeGo_snoc (l := l.take i) (p := p) (f := 0) (by omega)
      rw [← htk, hlen] at hsn
      by_cases h : (i : Int) < p.c
      · have hfc := freeGo_take hf ho h
        simp [hlt, hd, h, hfc]
      · rw [if_neg (by omega)] at hsn
        simp [hlt, hd, h, hw]
        exact ⟨⟨i + 1, by omega, by omega, by omega⟩, by omega⟩
    · have e : i = l.length := by omega
      subst e
      rw [List.take_length] at hf
      have : freeC l = l.length := hf
      simp [this]
set_option maxRecDepth 100000 in
theorem a_tries (l : List Ob) (n : Int) (hp : Pods 0 l) (hl : l.length ≤ 60) {H : AHeap} {c : Nat} {K : AV → AHeap → Nat → Prop} (hK : K (rlist (tryL l n)) H c) : ACall Try.prog 26 [rlist l, .one (.d (.fn 72 [.rptr [dc n]]))] H c K :=
  a_those l _ _ (isTryB n) (by omega) (by decide) rfl (fun o ho => c_isTryOf1 o n (by have := hp.ge o ho; omega)) rfl hK
set_option maxRecDepth 100000 in
theorem c_doneIndexes (l : List Ob) (a : Int) (hp : Pods 0 l) (hl : l.length ≤ 60) (ha : 0 ≤ a ∧ a ≤ 8) : FCall Try.prog 41 [rlist l, iv .i64 a] fun r H => r = iv .i64 (doneN l a.toNat) ∧ H = [] := by
  refine fcall_gather [] id fun clk => acall_of_aw Try.func41 rfl ?_
  simp
  refine codeOk_loop [true, false, false, false, false, true, false, false, false, true, true] 0 (fun z => ∃ (n c : Nat), (n : Int) ≤ a ∧ z = ⟨[rlist l, unknown, unknown, unknown, unknown, iv .i64 (doneN l n), unknown, unknown, unknown, iv .i64 a, iv .i64 n] ++ List.replicate 19 unknown, [], c⟩)
    (fun z => match z.tmps.getD 10 unknown with | .one (.d (.s (.int _ i))) => 9 - i.toNat | _ => 0) ?_ ?_
  · simp
    exact ⟨0, by omega, by simp [doneN]⟩
  · rintro z ⟨n, c0, hn, rfl⟩
    have hd := doneN_le l n
    have hs := doneN_succ l n
    obtain ⟨D, hD⟩ : ∃ D, D = doneN l n := ⟨_, rfl⟩
    rw [← hD] at hd hs ⊢
    by_cases hlt : (n : Int) < a
    · have hw : IntKind.i64.wrap ((n : Int) + 1) = ((n + 1 : Nat) : Int) := wrap_succ (by omega)
      have hwd : IntKind.i64.wrap (D + 1) = D + 1 := wrap_i64 (by omega) (by omega)
      simp [hlt]
      refine acall_data (d_isTryOf n) rfl rfl ?_
      simp
      refine a_tries l n hp hl ?_
      have hTl : (tryL l n).length ≤ l.length := List.length_filter_le _ _
      have hin : isDone l n = (tryL l n).any fun p => decide (p.d = 1) := rfl
      obtain ⟨T, hT⟩ : ∃ T, T = tryL l n := ⟨_, rfl⟩
      rw [← hT] at hTl hin ⊢
      simp
      refine codeOk_loop [true, false, false, false, false, true, false, false, false, true, true, false, false, false, false, false, true, true, true] 0 (fun z => ∃ (k c : Nat), k ≤ T.length ∧ (∀ (j : Nat) (o : Ob), j < k → T[j]? = some o → ¬ o.d = 1) ∧ z = ⟨[rlist l, unknown, unknown, unknown, unknown, iv .i64 D, unknown, unknown, unknown, iv .i64 a, iv .i64 n, unknown, unknown, unknown, unknown, unknown, rlist T, iv .i64 T.length, iv .i64 k] ++ List.replicate 11 unknown, [], c⟩)
        (fun z => match z.tmps.getD 18 unknown with | .one (.d (.s (.int _ i))) => T.length - i.toNat | _ => 0) ?_ ?_
      · simp
        exact ⟨0, by omega, fun j o h => absurd h (by omega), rfl⟩
      · rintro z ⟨k, c1, hk, hno, rfl⟩
        by_cases hkl : k < T.length
        · have hwk := wrap_succ (i := k) (by omega)
          obtain ⟨o, t, hd2, ho, _, _⟩ := drop_at T hkl
          by_cases h : o.d = 1
          · have hi : isDone l n = true := by
              rw [hin, List.any_eq_true]; exact ⟨o, List.mem_of_getElem? ho, by simpa using h⟩
            rw [if_pos hi] at hs
            simp [hkl, hd2, h, hw, hwd]
            exact ⟨⟨n + 1, by omega, hs.symm, by omega⟩, by omega⟩
          · simp [hkl, hd2, h, hwk]
            exact ⟨⟨k + 1, by omega, lt_succ_cases hno ho h, by omega⟩, by omega⟩
        · have e : k = T.length := by omega
          subst e
          have hi : isDone l n = false := by
            rw [hin, List.any_eq_false]
            intro o ho
            obtain ⟨j, hj⟩ := List.mem_iff_getElem?.1 ho
            simpa using hno j o (List.getElem?_eq_some_iff.1 hj).1 hj
          rw [hi] at hs
          simp [hw]
          exact ⟨⟨n + 1, by omega, by simp at hs; omega, by omega⟩, by omega⟩
    · have e : n = a.toNat := by omega
      simp [hlt]
      rw [hD, e]
end Go.Proofs.Ytiogdfliailenaa
