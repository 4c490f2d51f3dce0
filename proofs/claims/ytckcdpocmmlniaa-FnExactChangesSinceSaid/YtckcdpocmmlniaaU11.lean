/-
  Changes above a revision: the iterator of the program, and what is collected from it.
-/
import Derived.Test.YtckcdpocmmlniaaS1
import Derived.Test.YtckcdpocmmlniaaK6
import Derived.Test.YtckcdpocmmlniaaK7
namespace Go.Proofs.Ytckcdpocmmlniaa
set_option maxRecDepth 100000
set_option linter.unusedSimpArgs false
set_option linter.unusedVariables false
set_option linter.unnecessarySimpa false
open Go Go.Abs Go.Proofs
theorem fcall_weak {P : Program} {f : FuncId} {args : List AV} {p q : AV → AHeap → Prop} (h : FCall P f args p) (hp : ∀ r H, p r H → q r H) : FCall P f args q :=
  fun clk => (h clk).mono fun r H c ⟨h1, h2, h3⟩ => ⟨h1, h2, hp r H h3⟩
def Ch.val (c : Ch) : Value := .agg #[.int .i64 c.rev, .bool c.gone, .int .i64 c.ob.kind, .int .i64 c.ob.id, .int .i64 c.ob.a, .int .i64 c.ob.b, .int .i64 c.ob.c, .int .i64 c.ob.d, .int .i64 c.ob.rev]
theorem Ch.ofV (c : Ch) : AV.ofV c.val = c.av := rfl
def aboveCh (rev : Int) (l : List Ch) : List Ch := l.filter fun c => decide (rev < c.rev)
theorem aboveCh_snoc (rev : Int) (l : List Ch) (c : Ch) : aboveCh rev (l ++ [c]) = aboveCh rev l ++ (if rev < c.rev then [c] else []) := by
  unfold aboveCh
  rw [List.filter_append]
  by_cases h : rev < c.rev <;> simp [h]
theorem aboveCh_len (rev : Int) (l : List Ch) : (aboveCh rev l).length ≤ l.length := List.length_filter_le _ _
set_option maxRecDepth 100000 in
theorem s_changesAbove (l : List Ch) (rev : Int) (hl : l.length ≤ 1048576) : ASeq Try.prog 56 [.rptr [.list l.length (rds l)], .rptr [dc rev]] (fun c : Ch => [c.val]) (fun xs => xs = aboveCh rev l) (fun _ => True) l.length := by
  refine aseq_of Try.func56 rfl rfl fun y J A => ?_
  refine yok_seq (yok_region (yl_take 3 ?_))
  simp
  refine yl_nil ?_
  simp
  refine yok_block ?_
  refine yok_loop [true, true, true, false, false, false, true, true, true] 0 (fun g s => ∃ (n c : Nat), n ≤ l.length ∧ g = ⟨false, aboveCh rev (l.take n), none⟩ ∧
      s = ⟨[sv (.func (.yield y) #[] #[]), .one (.d (.rptr [.list l.length (rds l)])), .one (.d (.rptr [dc rev])), unknown, unknown, unknown, rlist l, iv .i64 l.length, iv .i64 n] ++ List.replicate 14 unknown, [], c⟩)
    (fun g s => match s.tmps.getD 8 unknown with | .one (.d (.s (.int _ i))) => l.length - i.toNat | _ => 0) ?_ ?_
  · simp [ASt.clean, keepA]
    exact ⟨0, Nat.zero_le _, by simp [aboveCh], rfl⟩
  · rintro g s ⟨n, c, hn, rfl, rfl⟩
    refine yok_seq (yok_region (yl_take 1 ?_))
    by_cases hlt : n < l.length
    · obtain ⟨o, t, hd, ho, hl1, hl2⟩ := drop_at l (i := n) hlt
      have hw := wrap_succ (i := n) (by omega)
      have hsn : aboveCh rev (l.take (n + 1)) = aboveCh rev (l.take n) ++ (if rev < o.rev then [o] else []) := by
        rw [List.take_add_one, ho]; exact aboveCh_snoc _ _ _
      have hpl := aboveCh_len rev (l.take n)
      have hpt : (l.take n).length ≤ n := by simp; omega
      simp [hlt]
      refine yl_nil ?_
      simp
      refine yok_seq (yok_cond (b := true) (by simp [ASt.eval]) (fun _ => yok_skip ?_) (fun h => by cases h))
      simp
      refine yok_seq (yok_block (yok_seq (yok_region (yl_take 4 ?_))))
      simp [hlt, hd]
      refine yl_nil ?_
      simp
      by_cases hr : rev < o.rev
      · rw [if_pos hr] at hsn
        refine yok_seq (yok_region (yl_take 7 ?_))
        simp [hr]
        refine yl_yield A rfl (by simp [wants]) (by simp [ASt.eval]) o (by simp [ASt.eval, Ch.val]) rfl (by simp; omega) (fun b => ?_)
        refine yl_take 2 ?_
        simp [ASt.put]
        refine yl_nil ?_
        simp
        refine yok_cond (b := !b) (by simp [ASt.eval]) (fun hb => yok_ret ?_) (fun hb => yok_skip ?_)
        · simp at hb
          simp [hb]
        · simp at hb
          simp [hb]
          refine yok_region (yl_take 2 ?_)
          simp [hw]
          refine yl_nil ?_
          simp [ASt.clean, keepA]
          exact ⟨⟨n + 1, by omega, hsn.symm, by push_cast; rfl⟩, by omega⟩
      · rw [if_neg hr] at hsn
        refine yok_seq (yok_region (yl_take 10 ?_))
        simp [hr]
        refine yl_nil ?_
        simp
        refine yok_cond (b := false) (by simp [ASt.eval]) (fun h => by cases h) (fun _ => yok_skip ?_)
        simp
        refine yok_region (yl_take 2 ?_)
        simp [hw]
        refine yl_nil ?_
        simp [ASt.clean, keepA]
        rw [List.append_nil] at hsn
        exact ⟨⟨n + 1, by omega, hsn.symm, by push_cast; rfl⟩, by omega⟩
    · have e : n = l.length := by omega
      subst e
      simp
      refine yl_nil ?_
      simp
      refine yok_seq (yok_cond (b := false) (by simp [ASt.eval]) (fun h => by cases h) (fun _ => yok_exit ?_))
      simp
set_option maxRecDepth 100000 in
theorem c_AppendSeqCh (F : FuncId) (cs : List DC) (S Sp : List Ch → Prop) (N : Nat) (hf : callable Try.prog F = true) (hseq : ASeq Try.prog F cs (fun o : Ch => [o.val]) S Sp N) (hN : N ≤ 1048576) :
    FCall Try.prog 55 [.one (.d .nil), .one (.d (.fn F cs))] fun r H => ∃ xs, S xs ∧ ((xs = [] ∧ r = .one (.d .nil) ∧ H = []) ∨ (xs ≠ [] ∧ ∃ g, r = .one (.own 0 g 0 xs.length) ∧ H = [some ⟨g, 72, 9, rcs xs⟩])) := by
  refine fcall_gatherE fun clk => acall_of_aw Try.func55 rfl ?_
  simp
  refine codeOk_range (fun o : Ch => [o.av]) (fun pre H' c => (pre = [] ∧ H' = [some ⟨clk, 27, 1, [.d .nil]⟩]) ∨ (pre ≠ [] ∧ ∃ g, H' = [some ⟨clk, 27, 1, [.own 3 g 0 pre.length]⟩, none, none, some ⟨g, 72, 9, rcs pre⟩])) (fun _ _ _ _ => False) (by simp [ASt.eval]) hf hseq ?_ ?_ rfl rfl ?_ ?_ ?_ ?_
  · intro x W E
    refine ⟨rfl, fun j y v hy hv => ?_⟩
    match j with
    | 0 =>
      simp at hy hv; subst hy; subst hv
      have h := ofV_rel (w := W) (E := E) (v := x.val) rfl
      rw [Ch.ofV] at h; exact h
    | j + 1 => simp at hy
  · intro x; rfl
  · simp
  · rintro pre o H' c' (⟨rfl, rfl⟩ | ⟨hne, g, rfl⟩) hlt
    · simp [putsA, roundK]
      refine ⟨by decide, _, ?_, c' + 1 + 1 + 1, rfl⟩
      simp
    · have hm : pre.length + 1 ≤ maxLen := by show pre.length + 1 ≤ 9223372036854775807; omega
      simp [putsA, roundK]
      refine ⟨⟨by omega, hm⟩, _, ?_, c' + 1 + 1, rfl⟩
      have he : rcs (pre ++ [o]) = rcs pre ++ o.cells := by rw [← rcs_append, rcs_cons, rcs_nil, List.append_nil]; rfl
      rw [he]
      simp
  · rintro xs H' c hS (⟨rfl, rfl⟩ | ⟨hne, g, rfl⟩)
    · simp
      refine ⟨[], id, ?_⟩
      simp
      exact hS
    · simp
      refine ⟨[3], fun j => j - 3, ?_⟩
      simp
      exact ⟨xs, hS, hne, g, ⟨rfl, rfl⟩, rfl, rfl⟩
  · intro c pre H' c' _ h; exact h.elim
set_option maxRecDepth 100000 in
theorem c_CollectCh (F : FuncId) (cs : List DC) (S Sp : List Ch → Prop) (N : Nat) (hf : callable Try.prog F = true) (hseq : ASeq Try.prog F cs (fun o : Ch => [o.val]) S Sp N) (hN : N ≤ 1048576) :
    FCall Try.prog 34 [.one (.d (.fn F cs))] fun r H => ∃ xs g, S xs ∧ r = .one (.own 0 g 0 xs.length) ∧ H = [some ⟨g, 72, 9, rcs xs⟩] := by
  have h := c_AppendSeqCh F cs S Sp N hf hseq hN
  have h2 : FCall Try.prog 34 [.one (.d (.fn F cs))] fun r H => (r = .one (.d .nil) ∧ H = []) ∧ S [] ∨ (∃ xs g, S xs ∧ r = .one (.own 0 g 0 xs.length) ∧ H = [some ⟨g, 72, 9, rcs xs⟩]) := by
    refine fcall_gatherE fun clk => acall_of_aw Try.func34 rfl ?_
    simp
    refine (h _).mono ?_
    rintro r Hn c ⟨_, _, xs, hS, ⟨rfl, rfl, rfl⟩ | ⟨hne, g, rfl, rfl⟩⟩
    · simp
      refine ⟨[], id, ?_⟩
      simp
      exact hS
    · simp
      refine ⟨[0], id, ?_⟩
      simp
      exact ⟨xs, hS, g, ⟨rfl, rfl⟩, rfl, rfl⟩
  by_cases h0 : S []
  · refine fcall_weak (fcall_own_nil 72 9 (fcall_weak h2 fun r H hp => hp.imp (fun h => h.1) fun h => h)) ?_
    rintro r H (⟨g, rfl, rfl⟩ | hq)
    · exact ⟨[], g, h0, rfl, rfl⟩
    · exact hq
  · exact fcall_weak h2 fun r H hp => hp.resolve_left fun h => h0 h.2
end Go.Proofs.Ytckcdpocmmlniaa
