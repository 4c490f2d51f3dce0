/-
  Frames on a disk: what is read first.
-/
import Derived.Test.YtcfkmdapadejmaaW10
import Derived.Test.YtcfkmdapadejmaaW5
import Derived.Test.YtcfkmdapadejmaaW3
import Derived.Test.YtcfkmdapadejmaaK5
namespace Go.Proofs.Ytcfkmdapadejmaa
set_option maxRecDepth 100000
set_option linter.unusedSimpArgs false
set_option linter.unusedVariables false
set_option linter.unnecessarySimpa false
open Go Go.Abs Go.Proofs
theorem c_bytesHasPrefix (a b : List UInt8) : FCall Try.prog 40 [blist a, blist b] fun r H => r = bv (decide (b.length ≤ a.length ∧ a.take b.length = b)) ∧ H = [] := by
  intro clk
  refine acall_of_aw Try.func40 rfl ?_
  by_cases h : b.length ≤ a.length
  · simp [h]
    refine acall_val (c_bytesEqual (a.take b.length) b) (by simp [h]) (by simp) ?_
    simp [h]
  · have h' : ¬ ((b.length : Int) ≤ a.length) := by omega
    simp [h, h']
theorem c_bytesClone (a : UInt8) (t : List UInt8) (ht : t.length ≤ 1048576) : FCall Try.prog 24 [blist (a :: t)] fun r H => ∃ g, r = .one (.own 0 g 0 (t.length + 1)) ∧ H = [some ⟨g, 5, 1, bcs (a :: t)⟩] := by
  refine fcall_gather [0] id fun clk => acall_of_aw Try.func24 rfl ?_
  simp [blist]
  show t.length ≤ 140737488355327 ∧ t.length + 1 ≤ 9223372036854775807
  omega
theorem c_bytesClone' (b : List UInt8) (h0 : 0 < b.length) (hb : b.length ≤ 1048576) : FCall Try.prog 24 [blist b] fun r H => ∃ g, r = .one (.own 0 g 0 b.length) ∧ H = [some ⟨g, 5, 1, bcs b⟩] := by
  cases b with
  | nil => exact absurd h0 (by simp)
  | cons y u => exact c_bytesClone y u (by rw [List.length_cons] at hb; omega)
theorem c_bytesClone0 : FCall Try.prog 24 [blist []] fun r H => (r = .one (.d .nil) ∧ H = []) ∨ (∃ g, r = .one (.own 0 g 0 0) ∧ H = [some ⟨g, 5, 1, []⟩]) := by
  intro clk
  refine acall_of_aw Try.func24 rfl ?_
  simp [blist]

/-- The body of the first frame, where it is whole. -/
def firstB : List UInt8 → Option (List UInt8)
  | [] => none
  | h :: t => if h.toNat ≤ t.length ∧ 1 ≤ h.toNat ∧ h.toNat ≤ 100 ∧ h.toNat + 3 ≤ t.length + 1 ∧ (h :: t).take (h.toNat + 3) = frame (t.take h.toNat) then some (t.take h.toNat) else none
theorem firstB_some {d b : List UInt8} (h : firstB d = some b) : 1 ≤ b.length ∧ b.length ≤ 100 ∧ b.length + 3 ≤ d.length ∧ d.take (b.length + 3) = frame b := by
  cases d with
  | nil => exact absurd h (by simp [firstB])
  | cons x t =>
    simp only [firstB] at h
    split at h
    · rename_i hx
      cases h
      have e : (t.take x.toNat).length = x.toNat := by rw [List.length_take]; omega
      rw [e]
      exact ⟨hx.2.1, hx.2.2.1, by simpa using hx.2.2.2.1, hx.2.2.2.2⟩
    · cases h
def FirstPost (d : List UInt8) (r : AV) (H : AHeap) : Prop :=
  (firstB d = none ∧ r = .tup [.one (.d .nil), bv false] ∧ H = []) ∨ (∃ b g, firstB d = some b ∧ r = .tup [.one (.own 0 g 0 b.length), bv true] ∧ H = [some ⟨g, 5, 1, bcs b⟩])
set_option maxRecDepth 100000 in
theorem c_firstBody (d : List UInt8) (hd : d.length ≤ 4000) : FCall Try.prog 30 [blist d] (FirstPost d) := by
  cases d with
  | nil =>
    refine fcall_gather [] id fun clk => acall_of_aw Try.func30 rfl ?_
    simp [bodyA, ressA]
    exact .inl ⟨rfl, rfl, rfl⟩
  | cons x t =>
    rw [List.length_cons] at hd
    have hx := x.toNat_lt
    have hw : IntKind.i64.wrap (x.toNat : Int) = (x.toNat : Int) := wrap_i64 (by omega) (by omega)
    have hw1 : IntKind.i64.wrap (1 + (x.toNat : Int)) = ((x.toNat + 1 : Nat) : Int) := by rw [wrap_i64 (by omega) (by omega)]; omega
    have h0 : ¬ ((t.length : Int) + 1 = 0) := by omega
    by_cases h1 : x.toNat ≤ t.length
    · have h1' : ¬ ((t.length : Int) + 1 ≤ x.toNat) := by omega
      have hl : (t.take x.toNat).length = x.toNat := by rw [List.length_take]; omega
      have ht : (bds (x :: t)).tail = bds t := rfl
      obtain ⟨b, hb⟩ : ∃ b, b = t.take x.toNat := ⟨_, rfl⟩
      rw [← hb] at hl
      by_cases h2 : 1 ≤ b.length ∧ b.length ≤ 100
      · have hfc : frameCode b = 0 := if_pos h2
        by_cases h3 : (frame b).length ≤ (x :: t).length ∧ (x :: t).take (frame b).length = frame b
        · refine fcall_gather [2] (fun j => j - 2) fun clk => acall_of_aw Try.func30 rfl ?_
          simp [hw, hw1, h0, h1']
          refine ⟨⟨by omega, h1⟩, ?_⟩
          rw [ht, bds_take, ← hb, ← hl]
          refine acall_pure (c_PackFrame b (by omega)) (by simp) ?_
          rintro r Hn c h _
          rw [hfc] at h
          rcases h with ⟨h, _⟩ | ⟨_, g, rfl, rfl⟩
          · exact absurd rfl h
          simp
          refine acall_val (c_bytesHasPrefix (x :: t) (frame b)) (by simp) (by simp) ?_
          rw [decide_eq_true h3]
          simp
          refine acall_pure (c_bytesClone' b (by omega) (by omega)) (by simp) ?_
          rintro r Hn c' ⟨g', rfl, rfl⟩ _
          simp [bodyA, ressA]
          refine .inr ⟨b, g', ?_, by simp, rfl⟩
          rw [frame_length, hl] at h3
          rw [hb]
          refine if_pos ⟨h1, by omega, by omega, by simpa using h3.1, ?_⟩
          rw [← hb]
          exact h3.2
        · refine fcall_gather [] id fun clk => acall_of_aw Try.func30 rfl ?_
          simp [hw, hw1, h0, h1']
          refine ⟨⟨by omega, h1⟩, ?_⟩
          rw [ht, bds_take, ← hb, ← hl]
          refine acall_pure (c_PackFrame b (by omega)) (by simp) ?_
          rintro r Hn c h _
          rw [hfc] at h
          rcases h with ⟨h, _⟩ | ⟨_, g, rfl, rfl⟩
          · exact absurd rfl h
          simp
          refine acall_val (c_bytesHasPrefix (x :: t) (frame b)) (by simp) (by simp) ?_
          rw [decide_eq_false h3]
          simp [bodyA, ressA]
          refine .inl ⟨if_neg fun h => h3 ?_, rfl, rfl⟩
          rw [← hb] at h
          rw [frame_length, hl]
          exact ⟨h.2.2.2.1, h.2.2.2.2⟩
      · have hfc : frameCode b = 2 := if_neg h2
        refine fcall_gather [] id fun clk => acall_of_aw Try.func30 rfl ?_
        simp [hw, hw1, h0, h1']
        refine ⟨⟨by omega, h1⟩, ?_⟩
        rw [ht, bds_take, ← hb, ← hl]
        refine acall_pure (c_PackFrame b (by omega)) (by simp) ?_
        rintro r Hn c h _
        rw [hfc] at h
        rcases h with ⟨_, rfl, rfl⟩ | ⟨h, _⟩
        · simp [bodyA, ressA]
          exact .inl ⟨if_neg (fun h => h2 ⟨by omega, by omega⟩), rfl, rfl⟩
        · exact absurd h (by omega)
    · have h1' : ((t.length : Int) + 1 ≤ x.toNat) := by omega
      refine fcall_gather [] id fun clk => acall_of_aw Try.func30 rfl ?_
      simp [hw, hw1, h0, h1', bodyA, ressA]
      exact .inl ⟨if_neg (fun h => h1 h.1), rfl, rfl⟩

def jc (n : Int) : AC := .d (.s (.int .i64 n))
theorem wrap_step {z : Nat} (n : Nat) (hn : n ≤ 100) (hz : z ≤ 4000) : IntKind.i64.wrap ((z : Int) + IntKind.i64.wrap (IntKind.i64.wrap (1 + (n : Int)) + 2)) = ((z + n + 3 : Nat) : Int) := by
  rw [wrap_i64 (n := 1 + (n : Int)) (by omega) (by omega), wrap_i64 (n := 1 + (n : Int) + 2) (by omega) (by omega), wrap_i64 (by omega) (by omega)]; omega
theorem wrap_step0 (n : Nat) (hn : n ≤ 100) : IntKind.i64.wrap (IntKind.i64.wrap (IntKind.i64.wrap (1 + (n : Int)) + 2)) = ((n + 3 : Nat) : Int) := by
  rw [wrap_i64 (n := 1 + (n : Int)) (by omega) (by omega), wrap_i64 (n := 1 + (n : Int) + 2) (by omega) (by omega), wrap_i64 (by omega) (by omega)]; omega
def rfHead (s : ASt) : Nat := match s.heap with
  | _ :: some B :: _ => match B.cells with
    | [_, _, .d (.s (.int _ z))] => z.toNat
    | _ => 0
  | _ => 0
def rfTmps (d : List UInt8) (clk : Nat) : List AV := [blist d, unknown, .one (.ptr 0 clk 0), .one (.ptr 1 (clk + 1) 0)] ++ List.replicate 32 unknown
def rfRes (clk : Nat) : ABlk := ⟨clk, 37, 3, [.d (.s (.int .i64 0)), .d .nil, .d (.s (.int .i64 0))]⟩
def rfCell (clk z : Nat) (x : AC) : ABlk := ⟨clk + 1, 37, 3, [.d (.s (.int .i64 0)), x, .d (.s (.int .i64 (z : Int)))]⟩
def RfI (d : List UInt8) (clk : Nat) (s : ASt) : Prop := ∃ (z c : Nat), z ≤ d.length ∧
  ((z = 0 ∧ s = ⟨rfTmps d clk, [some (rfRes clk), some (rfCell clk z (.d .nil))], c⟩) ∨
   (∃ n g, n ≤ z ∧ s = ⟨rfTmps d clk, [some (rfRes clk), some (rfCell clk z (.own 4 g 0 n)), none, none, some ⟨g, 22, 1, List.replicate n .any⟩], c⟩))
set_option maxRecDepth 100000 in
theorem c_ReadFrames0 (d : List UInt8) (hd : d.length ≤ 4000) (h0 : firstB d = none) : FCall Try.prog 16 [blist d] fun r H => r = .agg [jc 0, .d .nil, jc 0] ∧ H = [] := by
  have hd' : ¬ (4000 : Int) < d.length := by omega
  refine fcall_gather [] id fun clk => acall_of_aw Try.func16 rfl ?_
  simp [hd']
  refine codeOk_loopW [true, false, true, true] (fun s => s = ⟨rfTmps d clk, [some (rfRes clk), some (rfCell clk 0 (.d .nil))], clk + 2⟩) (fun s => 0) ?_ ?_
  · refine ⟨[some (rfRes clk), some (rfCell clk 0 (.d .nil))], by simp [rfRes, rfCell], ?_⟩
    simp [rfTmps, rfRes, rfCell]
  · rintro s rfl
    simp [rfTmps, rfRes, rfCell]
    refine acall_pure (c_firstBody d hd) (by simp) ?_
    rintro r Hn c (⟨_, rfl, rfl⟩ | ⟨b, g, h1, _⟩) _
    rotate_left
    · rw [h0] at h1; cases h1
    simp [bodyA, ressA]
    rfl
set_option maxRecDepth 100000 in
theorem c_ReadFrames1 (d : List UInt8) (hd : d.length ≤ 4000) {b0 : List UInt8} (h0 : firstB d = some b0) : FCall Try.prog 16 [blist d] fun r H => ∃ n g, ∃ z : Nat, r = .agg [jc 0, .own 0 g 0 n, jc z] ∧ H = [some ⟨g, 22, 1, List.replicate n .any⟩] := by
  have hd' : ¬ (4000 : Int) < d.length := by omega
  refine fcall_gather [4] (fun j => j - 4) fun clk => acall_of_aw Try.func16 rfl ?_
  simp [hd']
  refine codeOk_loopW [true, false, true, true] (RfI d clk) (fun s => d.length - rfHead s) ?_ ?_
  · refine ⟨[some (rfRes clk), some (rfCell clk 0 (.d .nil))], by simp [rfRes, rfCell], ?_⟩
    simp [rfTmps, rfRes, rfCell]
    exact ⟨0, clk + 2, by omega, .inl ⟨rfl, by simp [rfTmps, rfRes, rfCell]⟩⟩
  · rintro s ⟨z, c, hz, ⟨rfl, rfl⟩ | ⟨n, g, hn, rfl⟩⟩
    · simp [rfTmps, rfRes, rfCell]
      refine acall_pure (c_firstBody d hd) (by simp) ?_
      rintro r Hn c (⟨h1, rfl, rfl⟩ | ⟨b, g, h1, rfl, rfl⟩) _
      · rw [h0] at h1; cases h1
      have hb := firstB_some h1
      have hw := wrap_step0 b.length hb.2.1
      simp
      rw [hw]
      refine ⟨by show 1 ≤ 9223372036854775807; omega, [some (rfRes clk), some (rfCell clk (b.length + 3) (.own 4 (c + 1 + 1) 0 1)), none, none, some ⟨c + 1 + 1, 22, 1, List.replicate 1 .any⟩], ?_, ⟨b.length + 3, c + 1 + 2, by omega, .inr ⟨1, c + 1 + 1, by omega, rfl⟩⟩, ?_⟩
      · simp only [WkH_cons]
        exact ⟨WkB_refl _, WkB_refl _, trivial, trivial, WkB_any (by decide) (by simp), WkH_nil _⟩
      · simp [rfHead, rfCell]
        omega
    · simp [rfTmps, rfRes, rfCell]
      refine ⟨hz, ?_⟩
      have hl : (d.drop z).length = d.length - z := List.length_drop
      rw [← hl, List.take_length]
      refine acall_pure (c_firstBody (d.drop z) (by omega)) (by simp) ?_
      rintro r Hn c (⟨h1, rfl, rfl⟩ | ⟨b, g', h1, rfl, rfl⟩) _
      · simp [bodyA, ressA]
        refine ⟨?_, n, g, ⟨rfl, ⟨rfl, rfl⟩, z, rfl⟩, rfl, rfl⟩
        intro c hc
        rw [List.eq_of_mem_replicate hc]; rfl
      · have hb := firstB_some h1
        have hw := wrap_step b.length (z := z) hb.2.1 (by omega)
        simp
        rw [hw]
        refine ⟨⟨by omega, by show n + 1 ≤ 9223372036854775807; omega⟩, [some (rfRes clk), some (rfCell clk (z + b.length + 3) (.own 4 (c + 1) 0 (n + 1))), none, none, some ⟨c + 1, 22, 1, List.replicate (n + 1) .any⟩], ?_, ⟨z + b.length + 3, c + 1 + 1, by omega, .inr ⟨n + 1, c + 1, by omega, rfl⟩⟩, ?_⟩
        · simp only [WkH_cons]
          exact ⟨WkB_refl _, WkB_refl _, trivial, trivial, WkB_any (by decide) (by simp), WkH_nil _⟩
        · simp [rfHead, rfCell]
          omega
theorem c_ReadFramesM (d : List UInt8) (hd : 4000 < d.length) : FCall Try.prog 16 [blist d] fun r H => r = .agg [jc 2, .d .nil, jc 0] ∧ H = [] := by
  have hd' : (4000 : Int) < d.length := by omega
  refine fcall_gather [] id fun clk => acall_of_aw Try.func16 rfl ?_
  simp [hd']
  exact ⟨rfl, rfl⟩
end Go.Proofs.Ytcfkmdapadejmaa
