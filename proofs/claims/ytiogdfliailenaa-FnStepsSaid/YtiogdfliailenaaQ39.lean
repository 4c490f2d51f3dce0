/-
  Pods whose owner is not there; the next write: on both sides.
-/
import Derived.Test.YtiogdfliailenaaQ38
import Derived.Test.YtiogdfliailenaaK7
namespace Go.Proofs.Ytiogdfliailenaa
set_option maxRecDepth 100000
set_option linter.unusedSimpArgs false
set_option linter.unusedVariables false
set_option linter.unnecessarySimpa false
open Go Go.Abs Go.Proofs
theorem isOrph_pod {l : List Ob} {p : Ob} (h : p.kind = 3) : isOrph l p = (idxOb l p.a p.b).isNone := by simp [isOrph, h]
theorem isOrph_no {l : List Ob} {p : Ob} (h : ¬ p.kind = 3) : isOrph l p = false := by simp [isOrph, h]
theorem orphan_at {l : List Ob} {i : Nat} {p : Ob} (h : ∀ (j : Nat) (a : Ob), j < i → l[j]? = some a → isOrph l a = false) (hp : l[i]? = some p) (ho : isOrph l p = true) : orphan l = some (mkW 2 p) := by
  unfold orphan; rw [first_at h hp ho]; rfl
theorem orphan_no {l : List Ob} (h : ∀ (j : Nat) (a : Ob), j < l.length → l[j]? = some a → isOrph l a = false) : orphan l = none := by
  unfold orphan; rw [first_no h]; rfl
set_option maxRecDepth 100000 in
theorem c_l6Orphan (l : List Ob) (hl : ObsOk l) : FCall Try.prog 35 [rlist l] fun r H => r = .tup [((orphan l).getD wr0).av, bv (orphan l).isSome] ∧ H = [] := by
  have hl60 := hl.len
  refine fcall_gather [] id fun clk => acall_of_aw Try.func35 rfl ?_
  simp
  refine codeOk_loop [true, false, true, false, true] 1 (fun z => ∃ (i c : Nat), i ≤ l.length ∧ (∀ (j : Nat) (a : Ob), j < i → l[j]? = some a → isOrph l a = false) ∧ z = ⟨[rlist l, unknown, .one (.ptr 0 clk 0), unknown, iv .i64 i] ++ List.replicate 34 unknown, [some ⟨clk, 32, 10, wr0.cells⟩], c⟩)
    (fun z => match z.tmps.getD 4 unknown with | .one (.d (.s (.int _ i))) => l.length - i.toNat | _ => 0) ?_ ?_
  · simp
    exact ⟨0, by omega, fun j a h => absurd h (by omega), by simp [wr0, ob0]⟩
  · rintro z ⟨i, c0, hi, hno, rfl⟩
    by_cases hlt : i < l.length
    · have hw := wrap_succ (i := i) (by omega)
      obtain ⟨o, t, hd, ho, _, htk⟩ := drop_at l hlt
      simp [hlt, hd]
      refine codeOk_drawA mixed (by kernel_rfl) ?_
      by_cases h3 : o.kind = 3
      · simp [hlt, hd, h3]
        refine qcall_val (c_l3Find l o.a o.b (by omega)) (by simp) (by simp) ?_
        have hio := isOrph_pod (l := l) h3
        cases hx : idxOb l o.a o.b with
        | none =>
          rw [hx] at hio
          have horp := orphan_at hno ho hio
          simp [idxVal, hlt, hd]
          refine acall_val (c_l6Delete o) (by simp) (by simp) ?_
          simp [horp, bodyA, ressA]
        | some y =>
          rw [hx] at hio
          have hy : ¬ (y : Int) < 0 := by omega
          simp [idxVal_some, hy, hw]
          exact ⟨⟨i + 1, by omega, lt_succ_cases hno ho hio, by omega⟩, by omega⟩
      · have hio := isOrph_no (l := l) h3
        simp [hlt, hd, h3, hw]
        exact ⟨⟨i + 1, by omega, lt_succ_cases hno ho hio, by omega⟩, by omega⟩
    · have e : i = l.length := by omega
      have horp := orphan_no (by rw [e] at hno; exact hno)
      simp [hlt, horp, bodyA, ressA, wr0, ob0]
def faR (s : Ca) (x : Option Wr) : AV := if caFault s = 0 then stR x else .agg (ic (caFault s) :: wr0.cells)
theorem filter_mem {l : List Ob} {f : Ob → Bool} {o : Ob} (h : o ∈ l.filter f) : o ∈ l ∧ f o = true := by simpa using h
theorem orphan_filter (l : List Ob) : orphan l = ((l.filter fun p => decide (p.kind = 3)).find? fun p => (idxOb l p.a p.b).isNone).map (mkW 2) := by
  unfold orphan isOrph
  rw [List.find?_filter]
  congr 1; congr 1; funext p
  by_cases h : p.kind = 3
  · cases idxOb l p.a p.b <;> simp [h]
  · simp [h]
theorem idx_none {l : List Ob} {a b : Int} (h : ∀ (j : Nat) (o : Ob), j < l.length → l[j]? = some o → ¬ (a = o.kind ∧ b = o.id)) : idxOb l a b = none := by
  rw [idxOb, List.findIdx?_eq_none_iff]
  intro o ho
  obtain ⟨j, hj⟩ := List.mem_iff_getElem?.1 ho
  have := h j o (List.getElem?_eq_some_iff.1 hj).1 hj
  simp only [isKey, decide_eq_false_iff_not]
  exact fun hh => this ⟨hh.1.symm, hh.2.symm⟩
theorem idx_isSome {l : List Ob} {a b : Int} {o : Ob} (ho : o ∈ l) (h : a = o.kind ∧ b = o.id) : (idxOb l a b).isNone = false := by
  cases hx : idxOb l a b with
  | some i => rfl
  | none =>
    rw [idxOb, List.findIdx?_eq_none_iff] at hx
    have := hx o ho
    simp only [isKey, decide_eq_false_iff_not] at this
    exact absurd ⟨h.1.symm, h.2.symm⟩ this
theorem a_podsAll (l : List Ob) (hl : l.length ≤ 60) {H : AHeap} {c : Nat} {K : AV → AHeap → Nat → Prop} (hK : K (rlist (l.filter fun p => decide (p.kind = 3))) H c) : ACall Try.prog 26 [rlist l, .one (.d (.fn 27 []))] H c K :=
  a_those l _ _ (fun p => decide (p.kind = 3)) (by omega) (by decide) rfl (fun o ho => c_isPod o) rfl hK
set_option maxRecDepth 100000 in
theorem c_NextOrphan (s : Ca) (h1 : s.obs.length ≤ 1048576) : FCall Try.prog 8 [s.av] fun r H => r = faR s (orphan s.obs) ∧ H = [] := by
  refine fcall_gather [] id fun clk => acall_of_aw Try.func8 rfl ?_
  simp
  refine acall_val (c_CacheFault s h1) (by simp) (by simp) ?_
  by_cases h : caFault s = 0
  · have hl := caFault_obs h
    have hl60 := hl.len
    obtain ⟨v, l⟩ := s
    simp only at hl hl60 h1
    simp [h]
    refine a_podsAll l (by omega) ?_
    rw [orphan_filter]
    have hTl : (l.filter fun p => decide (p.kind = 3)).length ≤ l.length := List.length_filter_le _ _
    have hTm : ∀ p ∈ l.filter (fun p => decide (p.kind = 3)), p.kind = 3 := fun p hp => by simpa using (filter_mem hp).2
    obtain ⟨T, hT⟩ : ∃ T, T = l.filter fun p => decide (p.kind = 3) := ⟨_, rfl⟩
    rw [← hT] at hTl hTm ⊢
    simp
    refine codeOk_loop [false, true, true, false, false, false, false, false, false, false, false, false, false, false, false, false, true, true, true] 2 (fun z => ∃ (i c : Nat), i ≤ T.length ∧ (∀ (j : Nat) (a : Ob), j < i → T[j]? = some a → (idxOb l a.a a.b).isNone = false) ∧ z = ⟨[unknown, .one (.ptr 0 clk 0), .one (.ptr 1 (clk + 1) 0), unknown, unknown, unknown, unknown, unknown, unknown, unknown, unknown, unknown, unknown, unknown, unknown, unknown, rlist T, iv .i64 T.length, iv .i64 i] ++ List.replicate 20 unknown, [some ⟨clk, 26, 2, [ic v, .d (.list l.length (rds l))]⟩, some ⟨clk + 1, 34, 11, ic 0 :: wr0.cells⟩], c⟩)
      (fun z => match z.tmps.getD 18 unknown with | .one (.d (.s (.int _ i))) => T.length - i.toNat | _ => 0) ?_ ?_
    · simp
      exact ⟨0, by omega, fun j a h => absurd h (by omega), by simp [wr0, ob0]⟩
    · rintro z ⟨i, c0, hi, hno, rfl⟩
      by_cases hlt : i < T.length
      · have hw : IntKind.i64.wrap ((i : Int) + 1) = (i : Int) + 1 := wrap_i64 (by omega) (by omega)
        obtain ⟨p, t, hd, hp, _, _⟩ := drop_at T hlt
        have hpk := hTm p (List.mem_of_getElem? hp)
        simp [hlt, hd]
        refine codeOk_loop [false, true, true, false, false, true, false, false, false, false, false, false, false, false, false, false, true, true, true, false, false, false, false, true, true, true] 3 (fun z => ∃ (k c g : Nat), k ≤ l.length ∧ (∀ (j : Nat) (o : Ob), j < k → l[j]? = some o → ¬ (p.a = o.kind ∧ p.b = o.id)) ∧ z = ⟨[unknown, .one (.ptr 0 clk 0), .one (.ptr 1 (clk + 1) 0), unknown, unknown, .one (.ptr 2 g 0), unknown, unknown, unknown, unknown, unknown, unknown, unknown, unknown, unknown, unknown, rlist T, iv .i64 T.length, iv .i64 i, unknown, unknown, unknown, unknown, rlist l, iv .i64 l.length, iv .i64 k] ++ List.replicate 13 unknown, [some ⟨clk, 26, 2, [ic v, .d (.list l.length (rds l))]⟩, some ⟨clk + 1, 34, 11, ic 0 :: wr0.cells⟩, some ⟨g, 30, 7, p.cells⟩], c⟩)
          (fun z => match z.tmps.getD 25 unknown with | .one (.d (.s (.int _ i))) => l.length - i.toNat | _ => 0) ?_ ?_
        · simp
          exact ⟨0, by omega, fun j a h => absurd h (by omega), _, _, ⟨rfl, rfl⟩, rfl, rfl⟩
        · rintro z ⟨k, c1, g, hk, hnk, rfl⟩
          by_cases hkl : k < l.length
          · have hwk : IntKind.i64.wrap ((k : Int) + 1) = (k : Int) + 1 := wrap_i64 (by omega) (by omega)
            obtain ⟨o, t2, hd2, ho, _, _⟩ := drop_at l hkl
            simp [hkl, hd2]
            refine codeOk_drawS [(.n, 0), (.n, 3), (.q, 1), (.q, 2), (.n, 4)] mixed rfl rfl (by kernel_rfl) ?_
            simp
            refine qcall_val (c_keyOf o) (by simp) (by simp) ?_
            simp
            refine qcall_data (d_isPodOf o.kind o.id) rfl rfl ?_
            simp
            refine acall_val (c_isPodOf1 p o.kind o.id) (by simp) (by simp) ?_
            by_cases ho2 : p.a = o.kind ∧ p.b = o.id
            · have hb : isPodB o.kind o.id p = true := isPodB_iff.2 ⟨hpk, ho2⟩
              have hs := idx_isSome (List.mem_of_getElem? ho) ho2
              simp [hb, hw]
              exact ⟨⟨i + 1, by omega, by simpa using lt_succ_cases (p := fun _ a => (idxOb l a.a a.b).isNone = false) hno hp hs, by omega⟩, by omega⟩
            · have hb : isPodB o.kind o.id p = false := by rw [Bool.eq_false_iff]; intro hh; exact ho2 (isPodB_iff.1 hh).2
              simp [hb, hwk]
              exact ⟨⟨k + 1, by omega, by simpa using lt_succ_cases (p := fun _ o => ¬ (p.a = o.kind ∧ p.b = o.id)) hnk ho ho2, _, _, ⟨rfl, by omega⟩, rfl, rfl⟩, by omega⟩
          · have e : k = l.length := by omega
            have hx : idxOb l p.a p.b = none := idx_none (by rw [e] at hnk; exact hnk)
            have hf := first_at (f := fun p : Ob => (idxOb l p.a p.b).isNone) hno hp (by simp [hx])
            simp [hkl]
            refine acall_val (c_stepTo 2 p) (by simp) (by simp) ?_
            simp [hf, stR, stCode, faR, h]
      · have e : i = T.length := by omega
        have hf := first_no (f := fun p : Ob => (idxOb l p.a p.b).isNone) (by rw [e] at hno; exact hno)
        simp [hlt, hf, stR, stCode, faR, h, wr0, ob0]
  · simp [h, faR, wr0, ob0]
end Go.Proofs.Ytiogdfliailenaa
