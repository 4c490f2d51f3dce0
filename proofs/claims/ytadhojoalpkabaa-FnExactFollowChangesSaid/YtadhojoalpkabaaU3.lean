/-
  Objects in order: what is collected from an iterator, and sorted.
-/
import Derived.Test.YtadhojoalpkabaaU2
import Derived.Test.YtadhojoalpkabaaK8
import Derived.Test.YtadhojoalpkabaaLay
namespace Go.Proofs.Ytadhojoalpkabaa
set_option maxRecDepth 100000
set_option linter.unusedSimpArgs false
set_option linter.unusedVariables false
set_option linter.unnecessarySimpa false
open Go Go.Abs Go.Proofs
theorem fcall_mono {P : Program} {f : FuncId} {args : List AV} {p q : AV → AHeap → Prop} (h : FCall P f args p) (hp : ∀ r H, p r H → q r H) : FCall P f args q :=
  fun clk => (h clk).mono fun r H c ⟨h1, h2, h3⟩ => ⟨h1, h2, hp r H h3⟩
set_option maxRecDepth 100000 in
theorem c_AppendSeqOb (F : FuncId) (cs : List DC) (S Sp : List Ob → Prop) (N : Nat) (hf : callable Try.prog F = true) (hseq : ASeq Try.prog F cs (fun o : Ob => [o.val]) S Sp N) (hN : N ≤ 1048576) :
    FCall Try.prog 57 [.one (.d .nil), .one (.d (.fn F cs))] fun r H => ∃ xs, S xs ∧ ((xs = [] ∧ r = .one (.d .nil) ∧ H = []) ∨ (xs ≠ [] ∧ ∃ g, r = .one (.own 0 g 0 xs.length) ∧ H = [some ⟨g, 51, 7, rcs xs⟩])) := by
  refine fcall_gatherE fun clk => acall_of_aw Try.func57 rfl ?_
  simp
  refine codeOk_range (fun o : Ob => [o.av]) (fun pre H' c => (pre = [] ∧ H' = [some ⟨clk, 28, 1, [.d .nil]⟩]) ∨ (pre ≠ [] ∧ ∃ g, H' = [some ⟨clk, 28, 1, [.own 3 g 0 pre.length]⟩, none, none, some ⟨g, 51, 7, rcs pre⟩])) (fun _ _ _ _ => False) (by simp [ASt.eval]) hf hseq ?_ ?_ rfl rfl ?_ ?_ ?_ ?_
  · intro x W E
    refine ⟨rfl, fun j y v hy hv => ?_⟩
    match j with
    | 0 =>
      simp at hy hv; subst hy; subst hv
      have h := ofV_rel (w := W) (E := E) (v := x.val) rfl
      rw [Ob.ofV] at h; exact h
    | j + 1 => simp at hy
  · intro x; rfl
  · simp
  · rintro pre o H' c' (⟨rfl, rfl⟩ | ⟨hne, g, rfl⟩) hlt
    · simp [putsA, roundK]
      refine ⟨by decide, _, ?_, c' + 1 + 1 + 1, rfl⟩
      simp
    · have hm : pre.length + 1 ≤ maxLen := by show pre.length + 1 ≤ 9223372036854775807; omega
      simp [putsA, roundK]
      refine ⟨⟨by omega, hm⟩, _, ?_, c' + 1 + 1, rfl⟩
      have he : rcs (pre ++ [o]) = rcs pre ++ [ic o.kind, ic o.id, ic o.a, ic o.b, ic o.c, ic o.d, ic o.rev] := by rw [← rcs_append, rcs_cons, rcs_nil, List.append_nil]; rfl
      rw [he]
      simp
  · rintro xs H' c hS (⟨rfl, rfl⟩ | ⟨hne, g, rfl⟩)
    · simp
      refine ⟨[], id, ?_⟩
      simp
      exact hS
    · simp
      refine ⟨[3], fun j => j - 3, ?_⟩
      simp
      exact ⟨xs, hS, hne, g, ⟨rfl, rfl⟩, rfl, rfl⟩
  · intro c pre H' c' _ h; exact h.elim
set_option maxRecDepth 100000 in
theorem c_CollectOb (F : FuncId) (cs : List DC) (S Sp : List Ob → Prop) (N : Nat) (hf : callable Try.prog F = true) (hseq : ASeq Try.prog F cs (fun o : Ob => [o.val]) S Sp N) (hN : N ≤ 1048576) :
    FCall Try.prog 49 [.one (.d (.fn F cs))] fun r H => ∃ xs g, S xs ∧ r = .one (.own 0 g 0 xs.length) ∧ H = [some ⟨g, 51, 7, rcs xs⟩] := by
  have h := c_AppendSeqOb F cs S Sp N hf hseq hN
  have h2 : FCall Try.prog 49 [.one (.d (.fn F cs))] fun r H => (r = .one (.d .nil) ∧ H = []) ∧ S [] ∨ (∃ xs g, S xs ∧ r = .one (.own 0 g 0 xs.length) ∧ H = [some ⟨g, 51, 7, rcs xs⟩]) := by
    refine fcall_gatherE fun clk => acall_of_aw Try.func49 rfl ?_
    simp
    refine (h _).mono ?_
    rintro r Hn c ⟨_, _, xs, hS, ⟨rfl, rfl, rfl⟩ | ⟨hne, g, rfl, rfl⟩⟩
    · simp
      refine ⟨[], id, ?_⟩
      simp
      exact hS
    · simp
      refine ⟨[0], id, ?_⟩
      simp
      exact ⟨xs, hS, g, ⟨rfl, rfl⟩, rfl, rfl⟩
  by_cases h0 : S []
  · refine fcall_mono (fcall_own_nil 51 7 (fcall_mono h2 fun r H hp => hp.imp (fun h => h.1) fun h => h)) ?_
    rintro r H (⟨g, rfl, rfl⟩ | hq)
    · exact ⟨[], g, h0, rfl, rfl⟩
    · exact hq
  · exact fcall_mono h2 fun r H hp => hp.resolve_left fun h => h0 h.2
def obCmp (a b : Ob) : Int := cmpOb a b
instance : Inhabited Ob := ⟨ob0⟩
def obEnc (o : Ob) : List Value := [.int .i64 o.kind, .int .i64 o.id, .int .i64 o.a, .int .i64 o.b, .int .i64 o.c, .int .i64 o.d, .int .i64 o.rev]
theorem obSwo : Go.Sort.SWO (Go.Proofs.ltOf cmpOb) := by
  have h : ∀ a b, Go.Proofs.ltOf cmpOb a b = less a b := fun a b => by
    rw [Bool.eq_iff_iff]; simp only [Go.Proofs.ltOf, decide_eq_true_eq]; exact cmpOb_less a b
  refine ⟨fun a => ?_, fun a b c h1 h2 => ?_, fun a b c h1 h2 => ?_⟩
  · rw [h]; simp [less]
  · rw [h] at *; exact less_trans h1 h2
  · rw [h] at *; unfold less at *; simp at *; omega
set_option maxRecDepth 100000 in
theorem c_SortFuncOb1 (l : List Ob) (hne : l ≠ []) (hl : l.length ≤ 1048576) (g : Nat) : RCall Try.prog 50 [.one (.own 0 g 0 l.length), .one (.d (.fn 43 []))] ⟨g, 51, 7, rcs l⟩ fun r B Hn =>
    ∃ d : List Ob, d.Perm l ∧ (∀ (i j : Nat) (x y : Ob), i < j → d[i]? = some x → d[j]? = some y → ¬ cmpOb y x < 0) ∧ r = .tup [] ∧ B = ⟨g, 51, 7, rcs d⟩ ∧ Hn = [] :=
  sort_rcall (α := Ob) Try.sortOb obEnc (fun a => rfl) (fun a v hv => by simp [obEnc] at hv; rcases hv with rfl | rfl | rfl | rfl | rfl | rfl | rfl <;> rfl)
    Try.isAgg51 Try.sizeOf51 cmpOb obSwo 43 (by decide) (fun x y => c_compareObjects x y) l hne hl g 51
set_option maxRecDepth 100000 in
theorem c_insNil (g : FuncId) : FCall Try.prog 63 [.one (.d (.list 0 [])), iv .i64 0, iv .i64 0, .one (.d (.fn g []))] fun r H => r = .tup [] ∧ H = [] := by
  refine fcall_gather [] id fun clk => acall_of_aw Try.func63 rfl ?_
  simp
  refine codeOk_rounds 1 ?_
  rw [AR_succ]
  simp
  simp [bodyA, ressA, okRes, AV.ofResults]
set_option maxRecDepth 100000 in
theorem c_pdqNil (g : FuncId) (n : Int) : FCall Try.prog 58 [.one (.d (.list 0 [])), iv .i64 0, iv .i64 0, iv .i64 n, .one (.d (.fn g []))] fun r H => r = .tup [] ∧ H = [] := by
  refine fcall_gather [] id fun clk => acall_of_aw Try.func58 rfl ?_
  simp
  refine codeOk_rounds 1 ?_
  rw [AR_succ]
  simp
  refine acall_pure (c_insNil g) (by simp) ?_
  rintro r Hn c ⟨rfl, rfl⟩ _
  simp [bodyA, ressA, okRes, AV.ofResults]
set_option maxRecDepth 100000 in
theorem c_bitsLen64 : FCall Try.prog 72 [iv .u64 0] fun r H => r = iv .i64 0 ∧ H = [] := by
  refine fcall_gather [] id fun clk => acall_of_aw Try.func72 rfl ?_
  simp
  exact ⟨⟨by decide, by decide⟩, by decide⟩
theorem c_bitsLen : FCall Try.prog 59 [iv .u64 0] fun r H => r = iv .i64 0 ∧ H = [] := by
  refine fcall_gather [] id fun clk => acall_of_aw Try.func59 rfl ?_
  simp
  refine acall_val c_bitsLen64 (by simp) (by simp) ?_
  simp
set_option maxRecDepth 100000 in
theorem c_SortFuncOb0 (g : FuncId) : FCall Try.prog 50 [.one (.d (.list 0 [])), .one (.d (.fn g []))] fun r H => r = .tup [] ∧ H = [] := by
  refine fcall_gather [] id fun clk => acall_of_aw Try.func50 rfl ?_
  have w0 : IntKind.u64.wrap 0 = 0 := rfl
  simp [w0]
  refine acall_val c_bitsLen (by simp) (by simp) ?_
  simp
  refine acall_pure (c_pdqNil g 0) (by simp) ?_
  rintro r Hn c ⟨rfl, rfl⟩ _
  simp [bodyA, ressA, okRes, AV.ofResults]
set_option maxRecDepth 100000 in
theorem c_SortedFuncOb (F : FuncId) (cs : List DC) (S Sp : List Ob → Prop) (N : Nat) (hf : callable Try.prog F = true) (hseq : ASeq Try.prog F cs (fun o : Ob => [o.val]) S Sp N) (hN : N ≤ 1048576) (hS : ∀ xs, S xs → xs.length ≤ 1048576) :
    FCall Try.prog 41 [.one (.d (.fn F cs)), .one (.d (.fn 43 []))] fun r H => ∃ xs d g, S xs ∧ d.Perm xs ∧ (∀ (i j : Nat) (x y : Ob), i < j → d[i]? = some x → d[j]? = some y → ¬ cmpOb y x < 0) ∧ r = .one (.own 0 g 0 d.length) ∧ H = [some ⟨g, 51, 7, rcs d⟩] := by
  refine fcall_gather [0] id fun clk => acall_of_aw Try.func41 rfl ?_
  simp
  refine (c_CollectOb F cs S Sp N hf hseq hN _).mono ?_
  rintro r Hn c ⟨_, _, xs, g, hx, rfl, rfl⟩
  simp
  by_cases h0 : xs = []
  · subst h0
    refine acall_pure (c_SortFuncOb0 43) (by simp) ?_
    rintro r Hn c ⟨rfl, rfl⟩ _
    simp
    exact ⟨[], hx, [], List.Perm.refl _, fun i j x y _ h => by simp at h, g, ⟨rfl, rfl⟩, rfl, rfl⟩
  · refine acall_ref (k := 0) (c_SortFuncOb1 xs h0 (hS xs hx) g) (by simp) (by simp) ?_
    rintro r B Hn c' ⟨d, hp, hs, rfl, rfl, rfl⟩ _
    have hl := hp.length_eq
    simp
    exact ⟨xs, hx, d, hp, fun i j x y hij h1 h2 => by have := hs i j x y hij h1 h2; omega, g, ⟨rfl, hl.symm⟩, rfl, rfl⟩
end Go.Proofs.Ytadhojoalpkabaa
