/-
  What is to be done for a set and for a job: on both sides.
-/
import Derived.Test.YtiogdfliailenaaQ36
namespace Go.Proofs.Ytiogdfliailenaa
set_option maxRecDepth 100000
set_option linter.unusedSimpArgs false
set_option linter.unusedVariables false
set_option linter.unnecessarySimpa false
open Go Go.Abs Go.Proofs
def stCode (x : Option Wr) : Int := if x.isSome = true then 0 else 4
def stR (x : Option Wr) : AV := .agg (ic (stCode x) :: (x.getD wr0).cells)
theorem badPod_some {l : List Ob} {i : Nat} {p : Ob} (h : ∀ (j : Nat) (a : Ob), j < i → l[j]? = some a → a.d = 0) (ho : l[i]? = some p) (hd : ¬ p.d = 0) : badPod l = some p :=
  first_at (fun j a hj ha => by simp [h j a hj ha]) ho (by simpa using hd)
theorem badPod_none {l : List Ob} (h : ∀ (j : Nat) (a : Ob), j < l.length → l[j]? = some a → a.d = 0) : badPod l = none :=
  first_no (fun j a hj ha => by simp [h j a hj ha])
theorem last_at {l : List Ob} (h : 0 < l.length) : ∃ o t, l.drop (l.length - 1) = o :: t ∧ l[l.length - 1]? = some o ∧ l.getLast?.getD ob0 = o := by
  obtain ⟨o, t, hd, ho, _, _⟩ := drop_at l (i := l.length - 1) (by omega)
  exact ⟨o, t, hd, ho, by rw [List.getLast?_eq_getElem?, ho]; rfl⟩
set_option maxRecDepth 100000 in
theorem c_l6Set (l : List Ob) (s : Ob) (x : List DC) (hl : ObsOk l) (hk : s.kind = 1) (ha : 0 ≤ s.a ∧ s.a ≤ 8) : FCall Try.prog 33 [rlist l, optr s x] fun r H => r = .tup [((setStep l s).getD wr0).av, bv (setStep l s).isSome] ∧ H = [] := by
  have hp := podsL_ok hl s.kind s.id
  have hlen := podsL_len l s.kind s.id
  have hl60 := hl.len
  unfold setStep
  refine fcall_gather [] id fun clk => acall_of_aw Try.func33 rfl ?_
  simp
  refine acall_val (c_l2Key s x) (by simp) (by simp) ?_
  simp
  refine a_l6Pods l s.kind s.id (by omega) ?_
  obtain ⟨L, hL⟩ : ∃ L, L = podsL l s.kind s.id := ⟨_, rfl⟩
  rw [← hL] at hp hlen ⊢
  simp
  refine codeOk_loop [false, true, false, false, true, false, true, true] 1 (fun z => ∃ (i c : Nat), i ≤ L.length ∧ (∀ (j : Nat) (a : Ob), j < i → L[j]? = some a → a.d = 0) ∧ z = ⟨[unknown, optr s x, unknown, unknown, .one (.ptr 0 clk 0), unknown, rlist L, iv .i64 i] ++ List.replicate 63 unknown, [some ⟨clk, 32, 10, wr0.cells⟩], c⟩)
    (fun z => match z.tmps.getD 7 unknown with | .one (.d (.s (.int _ i))) => L.length - i.toNat | _ => 0) ?_ ?_
  · simp
    exact ⟨0, by omega, fun j a h => absurd h (by omega), by simp [wr0, ob0]⟩
  · rintro z ⟨i, c0, hi, hno, rfl⟩
    by_cases hlt : i < L.length
    · have hw := wrap_succ (i := i) (by omega)
      obtain ⟨o, t, hd, ho, _, htk⟩ := drop_at L hlt
      by_cases h : o.d = 0
      · simp [hlt, hd, h, hw]
        exact ⟨⟨i + 1, by omega, lt_succ_cases hno ho h, by omega⟩, by omega⟩
      · have hb := badPod_some hno ho h
        simp [hlt, hd, h]
        refine acall_val (c_l6Delete o) (by simp) (by simp) ?_
        simp [setGo, hb, bodyA, ressA]
    · have e : i = L.length := by omega
      subst e
      have hb := badPod_none hno
      by_cases h1 : (L.length : Int) < s.a
      · have hfl := free_le L
        simp [h1]
        refine codeOk_loop [false, true, false, false, true, false, true, false, false, true] 1 (fun z => ∃ (m c : Nat), (m : Int) ≤ freeC L ∧ z = ⟨[unknown, optr s x, unknown, unknown, .one (.ptr 0 clk 0), unknown, rlist L, unknown, unknown, iv .i64 m] ++ List.replicate 61 unknown, [some ⟨clk, 32, 10, wr0.cells⟩], c⟩)
          (fun z => match z.tmps.getD 9 unknown with | .one (.d (.s (.int _ i))) => 61 - i.toNat | _ => 0) ?_ ?_
        · simp
          exact ⟨0, by omega, by simp [wr0, ob0]⟩
        · rintro z ⟨m, c1, hm, rfl⟩
          have hwm : IntKind.i64.wrap ((m : Int) + 1) = ((m + 1 : Nat) : Int) := wrap_succ (by omega)
          simp
          refine acall_val (c_l6At L m (by omega)) (by simp) (by simp) ?_
          cases hat : atC L m with
          | some i =>
            have : ¬ (i : Int) < 0 := by omega
            have hne : ¬ (m : Int) = freeC L := fun e => by rw [e, free_none hp] at hat; cases hat
            simp [idxVal_some, hwm]
            exact ⟨⟨m + 1, by omega, by omega⟩, by omega⟩
          | none =>
            have hme : (m : Int) = freeC L := by
              rcases Int.lt_or_eq_of_le hm with g | g
              · obtain ⟨i, hi⟩ := free_some hp (m := m) (by omega) g
                rw [hi] at hat; cases hat
              · exact g
            simp [idxVal]
            refine codeOk_drawA mixed (by kernel_rfl) ?_
            simp
            refine qcall_val (c_sNewPod s.kind s.id m) (by simp) (by simp) ?_
            simp
            refine qcall_val (c_l6Put (newPod s.kind s.id m)) (by simp [newPod]) (by simp) ?_
            simp [setGo, hb, h1, bodyA, ressA, hk, hme]
      · by_cases h2 : s.a < (L.length : Int)
        · obtain ⟨o, t, hd, ho, hg⟩ := last_at (l := L) (by omega)
          have hw : IntKind.i64.wrap ((L.length : Int) - 1) = ((L.length - 1 : Nat) : Int) := by rw [wrap_i64 (by omega) (by omega)]; omega
          have hlt2 : L.length - 1 < L.length := by omega
          simp [h1, h2, hw, hd, hlt2]
          refine acall_val (c_l6Delete o) (by simp) (by simp) ?_
          simp [setGo, hb, h1, h2, hg, bodyA, ressA]
        · simp [h1, h2, setGo, hb, bodyA, ressA, wr0, ob0]
theorem a_podsP (l : List Ob) (k w : Int) (hl : l.length ≤ 60) {H : AHeap} {c : Nat} {K : AV → AHeap → Nat → Prop} (hK : K (rlist (podsL l k w)) H c) : ACall Try.prog 26 [rlist l, .one (.d (.fn 53 [.rptr [dc k, dc w]]))] H c K :=
  a_those l _ _ (isPodB k w) (by omega) (by decide) rfl (fun o ho => c_isPodOf1 o k w) rfl hK
theorem q_podsP (l : List Ob) (k w : Int) (hl : l.length ≤ 60) {H : AHeap} {K : AV → Prop} (hK : K (rlist (podsL l k w))) : QCall Try.prog 26 [rlist l, .one (.d (.fn 53 [.rptr [dc k, dc w]]))] H K :=
  q_those l _ _ (isPodB k w) (by omega) (by decide) rfl (fun o ho => c_isPodOf1 o k w) rfl hK
set_option maxRecDepth 100000 in
theorem c_stepForSet (l : List Ob) (s : Ob) (hl : ObsOk l) (hk : s.kind = 1) (ha : 0 ≤ s.a ∧ s.a ≤ 8) : FCall Try.prog 23 [rlist l, s.av] fun r H => r = stR (setStep l s) ∧ H = [] := by
  have hp := podsL_ok hl s.kind s.id
  have hlen := podsL_len l s.kind s.id
  have hl60 := hl.len
  unfold setStep
  refine fcall_gather [] id fun clk => acall_of_aw Try.func23 rfl ?_
  simp
  refine acall_val (c_keyOf s) (by simp) (by simp) ?_
  simp
  refine acall_data (d_isPodOf s.kind s.id) rfl rfl ?_
  simp
  refine a_podsP l s.kind s.id (by omega) ?_
  obtain ⟨L, hL⟩ : ∃ L, L = podsL l s.kind s.id := ⟨_, rfl⟩
  rw [← hL] at hp hlen ⊢
  simp
  refine codeOk_loop [false, false, false, true, true, true, false, false, false, false, false, false, false, false, true, true, true] 2 (fun z => ∃ (i c : Nat), i ≤ L.length ∧ (∀ (j : Nat) (a : Ob), j < i → L[j]? = some a → a.d = 0) ∧ z = ⟨[unknown, unknown, unknown, .one (.ptr 0 clk 0), .one (.ptr 1 (clk + 1) 0), rlist L, unknown, unknown, unknown, unknown, unknown, unknown, unknown, unknown, rlist L, iv .i64 L.length, iv .i64 i] ++ List.replicate 34 unknown, [some ⟨clk, 30, 7, s.cells⟩, some ⟨clk + 1, 34, 11, ic 0 :: wr0.cells⟩], c⟩)
    (fun z => match z.tmps.getD 16 unknown with | .one (.d (.s (.int _ i))) => L.length - i.toNat | _ => 0) ?_ ?_
  · simp
    exact ⟨0, by omega, fun j a h => absurd h (by omega), by simp [wr0, ob0]⟩
  · rintro z ⟨i, c0, hi, hno, rfl⟩
    by_cases hlt : i < L.length
    · have hw := wrap_succ (i := i) (by omega)
      obtain ⟨o, t, hd, ho, _, htk⟩ := drop_at L hlt
      by_cases h : o.d = 0
      · simp [hlt, hd, h, hw]
        exact ⟨⟨i + 1, by omega, lt_succ_cases hno ho h, by omega⟩, by omega⟩
      · have hb := badPod_some hno ho h
        simp [hlt, hd, h]
        refine acall_val (c_stepTo 2 o) (by simp) (by simp) ?_
        simp [setGo, hb, stR, stCode]
    · have e : i = L.length := by omega
      subst e
      have hb := badPod_none hno
      by_cases h1 : (L.length : Int) < s.a
      · simp [h1]
        refine codeOk_drawA mixed (by kernel_rfl) ?_
        simp
        refine qcall_val (c_freeIndex L (by omega)) (by simp) (by simp) ?_
        simp
        refine qcall_val (c_NewPod 1 s.id (freeC L)) (by simp) (by simp) ?_
        simp
        refine qcall_val (c_stepTo 1 (newPod 1 s.id (freeC L))) (by simp [newPod]) (by simp) ?_
        simp [setGo, hb, h1, stR, stCode]
      · by_cases h2 : s.a < (L.length : Int)
        · obtain ⟨o, t, hd, ho, hg⟩ := last_at (l := L) (by omega)
          have hw : IntKind.i64.wrap ((L.length : Int) - 1) = ((L.length - 1 : Nat) : Int) := by rw [wrap_i64 (by omega) (by omega)]; omega
          have hlt2 : L.length - 1 < L.length := by omega
          simp [h1, h2, hw, hd, hlt2]
          refine acall_val (c_stepTo 2 o) (by simp) (by simp) ?_
          simp [setGo, hb, h1, h2, hg, stR, stCode]
        · simp [h1, h2, setGo, hb, stR, stCode, wr0, ob0]
end Go.Proofs.Ytiogdfliailenaa
