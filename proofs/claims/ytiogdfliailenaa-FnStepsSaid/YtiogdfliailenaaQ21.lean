/-
  ApplyWrite of the model: the store behind a write.
  Marks in StoreResults; StoreResults compared.
  The law of ApplyWrite.
-/
import Derived.Test.YtiogdfliailenaaQ20
import Derived.Test.YtiogdfliailenaaQ14
namespace Go.Proofs.Ytiogdfliailenaa
set_option maxRecDepth 100000
set_option linter.unusedSimpArgs false
set_option linter.unusedVariables false
set_option linter.unnecessarySimpa false
open Go Go.Abs Go.Proofs
theorem rcs_snocCh (l : List Ch) (c : Ch) : rcs (l ++ [c]) = rcs l ++ [.d (.s (.int .i64 c.rev)), .d (.s (.bool c.gone)), .d (.s (.int .i64 c.ob.kind)), .d (.s (.int .i64 c.ob.id)), .d (.s (.int .i64 c.ob.a)), .d (.s (.int .i64 c.ob.b)), .d (.s (.int .i64 c.ob.c)), .d (.s (.int .i64 c.ob.d)), .d (.s (.int .i64 c.ob.rev))] := by
  rw [← rcs_append, rcs_cons, rcs_nil, List.append_nil]; rfl
set_option maxRecDepth 100000 in
set_option maxHeartbeats 1000000 in
theorem c_l3Apply (s : St) (w : Wr) (x : List DC) (hrev : 0 ≤ s.rev ∧ s.rev ≤ 100000) (hl : s.obs.length ≤ 60) (hh : s.hist.length ≤ 12) : FCall Try.prog 79 [stPtr s, wPtr w x] fun r H => ∃ g1 g2 off cells, r = .agg [ic (nxSt s w).rev, .own 0 g1 0 (nxSt s w).obs.length, .own 1 g2 off (nxSt s w).hist.length] ∧ H = [some ⟨g1, 30, 7, rcs (nxSt s w).obs⟩, some ⟨g2, 116, 9, rcs cells⟩] ∧ off = (cells.length - (nxSt s w).hist.length) * 9 ∧ cells.drop (cells.length - (nxSt s w).hist.length) = (nxSt s w).hist ∧ (nxSt s w).hist.length ≤ cells.length := by
  have hwr : IntKind.i64.wrap (s.rev + 1) = s.rev + 1 := wrap_i64 (by omega) (by omega)
  refine fcall_gatherE fun clk => acall_of_aw Try.func79 rfl ?_
  simp [hwr]
  refine codeOk_drawA mixed (by kernel_rfl) ?_
  simp [hwr]
  refine codeOk_freeze 1 ?_
  simp [frzV, frzC, ofJ, snap1, blkAt, AC.dc?]
  have b1 : s.hist.length * 72 ≤ 140737488355328 := by omega
  have b2 : s.hist.length ≤ maxLen := Nat.le_trans (m := 2000000) (by omega) (by decide)
  have b3 : (s.hist.length + 1) * 72 ≤ 140737488355328 := by omega
  have b4 : s.hist.length + 1 ≤ maxLen := Nat.le_trans (m := 2000000) (by omega) (by decide)
  have hput := c_l3Put s.obs (nxCh s w) [] (by omega)
  have e0 : (nxSt s w).rev = s.rev + 1 := rfl
  have e1 : (nxSt s w).obs = turnOb (nxCh s w).gone (nxCh s w).ob s.obs := rfl
  rw [e0, e1]
  generalize turnOb (nxCh s w).gone (nxCh s w).ob s.obs = O at *
  have hx : rcs (s.hist ++ [nxCh s w]) = rcs s.hist ++ [.d (.s (.int .i64 (s.rev + 1))), .d (.s (.bool (w.op == 2))), .d (dc w.ob.kind), .d (dc w.ob.id), .d (dc w.ob.a), .d (dc w.ob.b), .d (dc w.ob.c), .d (dc w.ob.d), .d (.s (.int .i64 (s.rev + 1)))] := rcs_snocCh _ _
  refine codeOk_drawW (.still 1 (.still 2 (.still 3 (.still 4 (.still 6 (.two 0 (.two 5 (.next 7 (.next 8 (.next 9 .nil))) 7 (.next 5 (.next 8 (.next 9 .nil)))) 7 (.next 0 (.next 5 (.next 8 (.next 9 .nil)))))))))) mixed rfl (by kernel_rfl) ?_
  by_cases hg : s.hist.length = 12
  · have t1 : (12 : Int) < (s.hist.length : Int) + 1 := by omega
    have t2 : (1 : Int) ≤ (s.hist.length : Int) + 1 := by omega
    have hn : (nxSt s w).hist = s.hist.drop 1 ++ [nxCh s w] := by show addCh s.hist (nxCh s w) = _; unfold addCh; rw [hg]
    have hn1 : s.hist.length = (nxSt s w).hist.length := by rw [hn]; simp; omega
    have ho : 9 = ((s.hist ++ [nxCh s w]).length - (nxSt s w).hist.length) * 9 := by rw [← hn1]; simp
    have hdr : List.drop ((s.hist ++ [nxCh s w]).length - (nxSt s w).hist.length) (s.hist ++ [nxCh s w]) = (nxSt s w).hist := by
      rw [← hn1, hn, List.length_append, List.length_singleton, Nat.add_sub_cancel_left, List.drop_append_of_le_length (by omega)]
    have hle : (nxSt s w).hist.length ≤ (s.hist ++ [nxCh s w]).length := by rw [← hn1]; simp
    simp [b1, b2, b3, b4, eq_true t1, eq_true t2]
    refine ⟨⟨?_, ?_⟩, ?_⟩
    all_goals (
      refine codeOk_drawS [(.s, 0), (.s, 1), (.s, 2), (.s, 3), (.s, 4), (.s, 5), (.s, 7), (.n, 6), (.n, 8), (.n, 9)] mixed rfl rfl (by kernel_rfl) ?_
      simp
      refine acall_pure hput (by simp [nxCh, nxOb, AC.dc?]) ?_
      rintro r Hn c' ⟨g, rfl, rfl⟩ _
      simp
      rw [← hx]
      first
        | (refine ⟨[4, 2], fun j => if j = 4 then 0 else 1, ?_⟩; simp; exact ⟨g, _, 9, ⟨rfl, rfl, rfl, hn1⟩, _, ⟨rfl, rfl, rfl⟩, ho, hdr, hle⟩)
        | (refine ⟨[4, 3], fun j => if j = 4 then 0 else 1, ?_⟩; simp; exact ⟨g, _, 9, ⟨rfl, rfl, rfl, hn1⟩, _, ⟨rfl, rfl, rfl⟩, ho, hdr, hle⟩))
  · have t1 : ¬ (12 : Int) < (s.hist.length : Int) + 1 := by omega
    have hn : (nxSt s w).hist = s.hist ++ [nxCh s w] := by show addCh s.hist (nxCh s w) = _; unfold addCh; rw [show s.hist.length + 1 - 12 = 0 by omega]; rfl
    have hn1 : s.hist.length + 1 = (nxSt s w).hist.length := by rw [hn]; simp
    have ho : 0 = ((s.hist ++ [nxCh s w]).length - (nxSt s w).hist.length) * 9 := by rw [← hn1]; simp
    have hdr : List.drop ((s.hist ++ [nxCh s w]).length - (nxSt s w).hist.length) (s.hist ++ [nxCh s w]) = (nxSt s w).hist := by rw [← hn, Nat.sub_self]; rfl
    have hle : (nxSt s w).hist.length ≤ (s.hist ++ [nxCh s w]).length := by rw [← hn1]; simp
    simp [b1, b2, b3, b4, eq_false t1]
    refine ⟨⟨?_, ?_⟩, ?_⟩
    all_goals (
      refine codeOk_drawS [(.s, 0), (.s, 1), (.s, 2), (.s, 3), (.s, 4), (.s, 5), (.s, 7), (.n, 6), (.n, 8), (.n, 9)] mixed rfl rfl (by kernel_rfl) ?_
      simp
      refine acall_pure hput (by simp [nxCh, nxOb, AC.dc?]) ?_
      rintro r Hn c' ⟨g, rfl, rfl⟩ _
      simp
      rw [← hx]
      first
        | (refine ⟨[4, 2], fun j => if j = 4 then 0 else 1, ?_⟩; simp; exact ⟨g, _, 0, ⟨rfl, rfl, rfl, hn1⟩, _, ⟨rfl, rfl, rfl⟩, ho, hdr, hle⟩)
        | (refine ⟨[4, 3], fun j => if j = 4 then 0 else 1, ?_⟩; simp; exact ⟨g, _, 0, ⟨rfl, rfl, rfl, hn1⟩, _, ⟨rfl, rfl, rfl⟩, ho, hdr, hle⟩))
/-- A StoreResult as data. -/
abbrev srAv (c : Int) (s : St) : AV := .agg [ic c, ic s.rev, .d (.list s.obs.length (rds s.obs)), .d (.list s.hist.length (rds s.hist))]
def st0 : St := ⟨0, [], []⟩
def apC (s : St) (w : Wr) : Int := chkW s w
def apS (s : St) (w : Wr) : St := if chkW s w = 0 then nxSt s w else st0
end Go.Proofs.Ytiogdfliailenaa
namespace Go.Proofs.Ytiogdfliailenaa
set_option maxRecDepth 100000
set_option linter.unusedSimpArgs false
set_option linter.unusedVariables false
set_option linter.unnecessarySimpa false
open Go Go.Abs Go.Proofs
end Go.Proofs.Ytiogdfliailenaa
namespace Go.Proofs.Ytiogdfliailenaa
set_option maxRecDepth 100000
set_option linter.unusedSimpArgs false
set_option linter.unusedVariables false
set_option linter.unnecessarySimpa false
open Go Go.Abs Go.Proofs
theorem putL_len (o : Ob) : ∀ (l : List Ob) (d : Bool), (putL o d l).length ≤ l.length + (if d then 0 else 1)
  | [], d => by cases d <;> simp [putL]
  | a :: l, d => by
    unfold putL
    have h1 := putL_len o l d
    have h2 := putL_len o l true
    split
    · simp; omega
    · split
      · rename_i h; simp [h.1] at *; omega
      · simp; omega
theorem turnOb_len (gone : Bool) (o : Ob) (l : List Ob) : (turnOb gone o l).length ≤ l.length + 1 := by
  have := putL_len o l gone
  unfold turnOb; split at this <;> omega
end Go.Proofs.Ytiogdfliailenaa
