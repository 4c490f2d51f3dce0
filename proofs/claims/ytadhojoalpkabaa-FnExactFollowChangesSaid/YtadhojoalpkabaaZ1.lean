/-
  Changes behind a revision, each with its code: the iterator of the program.
-/
import Derived.Test.YtadhojoalpkabaaU11
import Derived.Test.YtadhojoalpkabaaS10
import Derived.Test.YtadhojoalpkabaaK7
namespace Go.Proofs.Ytadhojoalpkabaa
set_option maxRecDepth 100000
set_option linter.unusedSimpArgs false
set_option linter.unusedVariables false
set_option linter.unnecessarySimpa false
open Go Go.Abs Go.Proofs
def pairsB (rev : Int) (l : List Ch) : List (Ch × Int) := l.zipIdx.map fun p => (p.1, chFault (rev + p.2 + 1) p.1)
theorem pairsB_len (rev : Int) (l : List Ch) : (pairsB rev l).length = l.length := by simp [pairsB]
theorem pairsB_snoc (rev : Int) {l : List Ch} {n : Nat} {o : Ch} (ho : l[n]? = some o) : pairsB rev (l.take (n + 1)) = pairsB rev (l.take n) ++ [(o, chFault (rev + n + 1) o)] := by
  have hn := (List.getElem?_eq_some_iff.1 ho).1
  have hl : (l.take n).length = n := by rw [List.length_take]; omega
  unfold pairsB
  rw [List.take_add_one, ho, Option.toList_some, List.zipIdx_append, hl]
  simp
abbrev encB (x : Ch × Int) : List Value := [x.1.val, .int .i64 x.2]
set_option maxRecDepth 100000 in
theorem s_changesBehind (l : List Ch) (rev : Int) (hl : l.length ≤ 12) (hr : 0 ≤ rev ∧ rev ≤ 100000) : ASeq Try.prog 39 [.rptr [.list l.length (rds l)], .rptr [dc rev]] encB (fun xs => xs = pairsB rev l) (fun xs => ∃ n, n < l.length ∧ xs = pairsB rev (l.take (n + 1))) l.length := by
  refine aseq_of Try.func39 rfl rfl fun y J A => ?_
  refine yok_seq (yok_region (yl_take 3 ?_))
  simp
  refine yl_nil ?_
  simp
  refine yok_block ?_
  refine yok_loop [true, true, true, false, false, false, true, true, true] 0 (fun g s => ∃ (n c : Nat), n ≤ l.length ∧ g = ⟨false, pairsB rev (l.take n), none⟩ ∧
      s = ⟨[sv (.func (.yield y) #[] #[]), .one (.d (.rptr [.list l.length (rds l)])), .one (.d (.rptr [dc rev])), unknown, unknown, unknown, rlist l, iv .i64 l.length, iv .i64 n] ++ List.replicate 15 unknown, [], c⟩)
    (fun g s => match s.tmps.getD 8 unknown with | .one (.d (.s (.int _ i))) => l.length - i.toNat | _ => 0) ?_ ?_
  · simp [ASt.clean, keepA]
    exact ⟨0, Nat.zero_le _, by simp [pairsB], rfl⟩
  · rintro g s ⟨n, c, hn, rfl, rfl⟩
    refine yok_seq (yok_region (yl_take 1 ?_))
    by_cases hlt : n < l.length
    · obtain ⟨o, t, hd, ho, hl1, hl2⟩ := drop_at l (i := n) hlt
      have hw := wrap_succ (i := n) (by omega)
      have hw1 : IntKind.i64.wrap (rev + (n : Int)) = rev + n := wrap_i64 (by omega) (by omega)
      have hw2 : IntKind.i64.wrap (rev + (n : Int) + 1) = rev + n + 1 := wrap_i64 (by omega) (by omega)
      have hsn := pairsB_snoc rev ho
      have hpt : (pairsB rev (l.take n)).length ≤ n := by rw [pairsB_len]; simp; omega
      simp [hlt]
      refine yl_nil ?_
      simp
      refine yok_seq (yok_cond (b := true) (by simp [ASt.eval]) (fun _ => yok_skip ?_) (fun h => by cases h))
      simp
      refine yok_seq (yok_block (yok_seq (yok_region (yl_take 6 ?_))))
      simp [hlt, hd]
      refine yl_nil ?_
      simp
      refine yok_seq (yok_drawPre 8 [8, 9] [(.n, 0), (.n, 1), (.n, 2), (.n, 3), (.n, 4), (.n, 5), (.n, 6), (.n, 7)] mixed rfl rfl rfl (by kernel_rfl) ?_)
      simp [hw1, hw2]
      refine acall_val (c_changeFault o (rev + n + 1)) (by simp) (by simp) ?_
      simp
      refine yl_yield A rfl (by simp [wants]) (by simp [ASt.eval]) (o, chFault (rev + n + 1) o) (by simp [ASt.eval, Ch.val]) rfl (by simp; omega) (fun b => ?_)
      refine yl_take 1 ?_
      simp [ASt.put]
      refine yl_nil ?_
      simp
      refine yok_cond (b := !b) (by simp [ASt.eval]) (fun hb => yok_ret ?_) (fun hb => yok_skip ?_)
      · simp at hb
        simp [hb]
        exact ⟨n, hlt, hsn.symm⟩
      · simp at hb
        simp [hb]
        refine yok_region (yl_take 2 ?_)
        simp [hw]
        refine yl_nil ?_
        simp [ASt.clean, keepA]
        exact ⟨⟨n + 1, by omega, hsn.symm, by push_cast; rfl⟩, by omega⟩
    · have e : n = l.length := by omega
      subst e
      simp
      refine yl_nil ?_
      simp
      refine yok_seq (yok_cond (b := false) (by simp [ASt.eval]) (fun h => by cases h) (fun _ => yok_exit ?_))
      simp
end Go.Proofs.Ytadhojoalpkabaa
