/-
  The checks of the program, as closures; the objects that a check is true of.
-/
import Derived.Test.YtiogdfliailenaaQ33
import Derived.Test.YtiogdfliailenaaK6
namespace Go.Proofs.Ytiogdfliailenaa
set_option maxRecDepth 100000
set_option linter.unusedSimpArgs false
set_option linter.unusedVariables false
set_option linter.unnecessarySimpa false
open Go Go.Abs Go.Proofs
set_option maxRecDepth 100000 in
theorem c_isPod (o : Ob) : FCall Try.prog 27 [o.av] fun r H => r = bv (decide (o.kind = 3)) ∧ H = [] := by
  refine fcall_gather [] id fun clk => acall_of_aw Try.func27 rfl ?_
  simp
  rfl
theorem c_isPodOf1 (o : Ob) (k w : Int) : FCall Try.prog 53 [o.av, .one (.d (.rptr [dc k, dc w]))] fun r H => r = bv (isPodB k w o) ∧ H = [] := by
  refine fcall_gather [] id fun clk => acall_of_aw Try.func53 rfl ?_
  simp
  refine acall_val (c_isPod o) (by simp) (by simp) ?_
  unfold isPodB
  by_cases h1 : o.kind = 3 <;> by_cases h2 : o.a = k <;> by_cases h3 : o.b = w <;> simp [h1, h2, h3]
theorem c_isIn1 (o : Ob) (d : Int) : FCall Try.prog 63 [o.av, .one (.d (.rptr [dc d]))] fun r H => r = bv (decide (o.d = d)) ∧ H = [] := by
  refine fcall_gather [] id fun clk => acall_of_aw Try.func63 rfl ?_
  simp
  rfl
theorem c_isTryOf1 (o : Ob) (n : Int) (hc : 0 ≤ o.c ∧ o.c ≤ 23) : FCall Try.prog 72 [o.av, .one (.d (.rptr [dc n]))] fun r H => r = bv (isTryB n o) ∧ H = [] := by
  have hw : IntKind.i64.wrap (o.c.tdiv 3) = o.c.tdiv 3 := by
    rw [Int.tdiv_eq_ediv_of_nonneg hc.1]; exact wrap_i64 (by omega) (by omega)
  refine fcall_gather [] id fun clk => acall_of_aw Try.func72 rfl ?_
  simp [isTryB, hw]
  rfl
theorem d_isPodOf (k w : Int) : DCall Try.prog 28 [kav k w] (.one (.d (.fn 53 [.rptr [dc k, dc w]]))) := by
  intro clk
  refine acall_of_ok Try.func28 rfl (codeOk_seq (aw_sound _ _ _ ?_))
  simp
  refine codeOk_freeze 0 (aw_sound _ _ _ ?_)
  simp [frzV, frzC, ofJ, snap1, blkAt, AC.dc?]
theorem d_isIn (d : Int) : DCall Try.prog 37 [iv .i64 d] (.one (.d (.fn 63 [.rptr [dc d]]))) := by
  intro clk
  refine acall_of_ok Try.func37 rfl (codeOk_seq (aw_sound _ _ _ ?_))
  simp
  refine codeOk_freeze 0 (aw_sound _ _ _ ?_)
  simp [frzV, frzC, ofJ, snap1, blkAt, AC.dc?]
theorem d_isTryOf (n : Int) : DCall Try.prog 51 [iv .i64 n] (.one (.d (.fn 72 [.rptr [dc n]]))) := by
  intro clk
  refine acall_of_ok Try.func51 rfl (codeOk_seq (aw_sound _ _ _ ?_))
  simp
  refine codeOk_freeze 0 (aw_sound _ _ _ ?_)
  simp [frzV, frzC, ofJ, snap1, blkAt, AC.dc?]
theorem mapM_data (H : AHeap) (cs : List DC) (h : cs.map DC.denil = cs) : cs.mapM (snapV H ∘ fun c => AV.one (AC.d c)) = some (cs.map fun c => AV.one (AC.d c)) := by
  have key : ∀ cs : List DC, cs.mapM (snapV H ∘ fun c => AV.one (AC.d c)) = some ((cs.map DC.denil).map fun c => AV.one (AC.d c)) := by
    intro cs
    induction cs with
    | nil => rfl
    | cons c t ih => rw [List.mapM_cons, ih]; rfl
  rw [key, h]
set_option maxRecDepth 100000 in
theorem c_those (l : List Ob) (F : FuncId) (cs : List DC) (p : Ob → Bool) (hl : l.length ≤ 1048576) (hF : callable Try.prog F = true) (hcs : cs.map DC.denil = cs) (hp : ∀ o ∈ l, FCall Try.prog F ([o.av] ++ cs.map fun c => .one (.d c)) fun r H => r = bv (p o) ∧ H = []) :
    FCall Try.prog 26 [rlist l, .one (.d (.fn F cs))] fun r H => ∃ g, r = .one (.own 0 g 0 (l.filter p).length) ∧ H = [some ⟨g, 30, 7, rcs (l.filter p)⟩] := by
  refine fcall_gather [0] id fun clk => acall_of_aw Try.func26 rfl ?_
  simp
  refine codeOk_loop [false, true, false, false, false, true, false, false, false, true, true, true] 1 (fun z => ∃ (i c g : Nat), i ≤ l.length ∧ z = ⟨[unknown, .one (.d (.fn F cs)), unknown, unknown, unknown, .one (.own 0 g 0 ((l.take i).filter p).length), unknown, unknown, unknown, rlist l, iv .i64 l.length, iv .i64 i] ++ List.replicate 12 unknown, [some ⟨g, 30, 7, rcs ((l.take i).filter p)⟩], c⟩)
    (fun z => match z.tmps.getD 11 unknown with | .one (.d (.s (.int _ i))) => l.length - i.toNat | _ => 0) ?_ ?_
  · simp
    exact ⟨0, by omega, by simp⟩
  · rintro z ⟨i, c0, g, hi, rfl⟩
    by_cases hlt : i < l.length
    · have hw := wrap_succ (i := i) (by omega)
      obtain ⟨o, t, hd, ho, _, htk⟩ := drop_at l hlt
      have hsn := filter_snoc p ho
      have hfl : ((l.take i).filter p).length ≤ i := by
        have := List.length_filter_le p (l.take i)
        have h2 := List.length_take_le i l
        omega
      obtain ⟨L, hL⟩ : ∃ L, L = (l.take i).filter p := ⟨_, rfl⟩
      rw [← hL] at hsn hfl ⊢
      simp [hlt, hd]
      refine ⟨hF, ?_⟩
      refine acall_val (hp o (List.mem_of_getElem? ho)) (by simp [mapM_data _ _ hcs]) (by simp) ?_
      by_cases hpo : p o = true
      · rw [if_pos hpo] at hsn
        simp [hpo, hw]
        have hm : L.length + 1 ≤ maxLen := by show L.length + 1 ≤ 9223372036854775807; omega
        have he : rcs (L ++ [o]) = rcs L ++ o.cells := by rw [← rcs_append, rcs_cons, rcs_nil, List.append_nil]; rfl
        exact ⟨⟨by omega, hm⟩, ⟨i + 1, by omega, _, _, ⟨⟨rfl, by rw [hsn]; simp⟩, by omega⟩, ⟨rfl, by rw [hsn, he]⟩, rfl⟩, by omega⟩
      · rw [if_neg hpo, List.append_nil] at hsn
        simp [hpo, hw]
        exact ⟨⟨i + 1, by omega, _, _, ⟨⟨rfl, by rw [hsn]⟩, by omega⟩, ⟨rfl, hsn.symm⟩, rfl⟩, by omega⟩
    · have e : i = l.length := by omega
      subst e
      simp
theorem a_those (l : List Ob) (F : FuncId) (cs : List DC) (p : Ob → Bool) (hl : l.length ≤ 1048576) (hF : callable Try.prog F = true) (hcs : cs.map DC.denil = cs) (hp : ∀ o ∈ l, FCall Try.prog F ([o.av] ++ cs.map fun c => .one (.d c)) fun r H => r = bv (p o) ∧ H = []) {H : AHeap} {c : Nat} {K : AV → AHeap → Nat → Prop} {args : List AV}
    (ha : args.mapM (snapV H) = some [rlist l, .one (.d (.fn F cs))]) (hK : K (rlist (l.filter p)) H c) : ACall Try.prog 26 args H c K :=
  acall_froze (c_those l F cs p hl hF hcs hp) ha (by rintro r Hn ⟨g, rfl, rfl⟩; exact ⟨_, by simp, hK⟩)
theorem q_those (l : List Ob) (F : FuncId) (cs : List DC) (p : Ob → Bool) (hl : l.length ≤ 1048576) (hF : callable Try.prog F = true) (hcs : cs.map DC.denil = cs) (hp : ∀ o ∈ l, FCall Try.prog F ([o.av] ++ cs.map fun c => .one (.d c)) fun r H => r = bv (p o) ∧ H = []) {H : AHeap} {K : AV → Prop} {args : List AV}
    (ha : args.mapM (snapV H) = some [rlist l, .one (.d (.fn F cs))]) (hK : K (rlist (l.filter p))) : QCall Try.prog 26 args H K :=
  qcall (rlist (l.filter p)) (c_those l F cs p hl hF hcs hp) ha (by rintro r Hn ⟨g, rfl, rfl⟩; simp) hK
end Go.Proofs.Ytiogdfliailenaa
