/-
  Turning an object in a map of objects; what a map's values are in order: the iterator of maps.Values.
  Objects in order: what is collected from an iterator, and sorted.
  A map's objects in order; ApplyWrite of the program.
  ApplyWrite of the program.
-/
import Derived.Test.YtiogdfliailenaaQ17
import Derived.Test.YtiogdfliailenaaK7
import Derived.Test.YtiogdfliailenaaK8
import Derived.Test.YtiogdfliailenaaQ14
namespace Go.Proofs.Ytiogdfliailenaa
set_option maxRecDepth 100000
set_option linter.unusedSimpArgs false
set_option linter.unusedVariables false
set_option linter.unnecessarySimpa false
open Go Go.Abs Go.Proofs
def vOb : Value → Ob
  | .agg #[.int _ k, .int _ i, .int _ a, .int _ b, .int _ c, .int _ d, .int _ r] => ⟨k, i, a, b, c, d, r⟩
  | _ => ob0
theorem vOb_val (o : Ob) : vOb o.val = o := rfl
theorem MapIs.obs {es : List MapEntry} {l : List Ob} (h : MapIs es l) : es.map (fun e => vOb e.val) = l := by
  have h1 : es.map (fun e => vOb e.val) = (es.map fun e => (e.key, e.val)).map fun p => vOb p.2 := by rw [List.map_map]; rfl
  rw [h1, h, List.map_map]
  have : ((fun p : Value × Value => vOb p.2) ∘ fun o : Ob => (Value.agg (kv2 o.kind o.id).toArray, o.val)) = id := by funext o; exact vOb_val o
  rw [this, List.map_id]
theorem MapIs.mem {es : List MapEntry} {l : List Ob} (h : MapIs es l) {e : MapEntry} (he : e ∈ es) : ∃ o ∈ l, e.key = .agg (kv2 o.kind o.id).toArray ∧ e.val = o.val := by
  have hm : (e.key, e.val) ∈ es.map (fun e => (e.key, e.val)) := List.mem_map.2 ⟨e, he, rfl⟩
  rw [h] at hm
  obtain ⟨o, hl, ho⟩ := List.mem_map.1 hm
  simp only [Prod.mk.injEq] at ho
  exact ⟨o, hl, ho.1.symm, ho.2.symm⟩
theorem nodup_of_born {es : List MapEntry} (h : (es.map (·.born)).Nodup) : es.Nodup := List.Pairwise.of_map (fun e : MapEntry => e.born) (fun a b hn e => hn (by rw [e])) h
theorem length_sub {es done : List MapEntry} (hn : done.Nodup) (hs : ∀ e ∈ done, e ∈ es) : done.length ≤ es.length := hn.length_le_of_subset hs
end Go.Proofs.Ytiogdfliailenaa
namespace Go.Proofs.Ytiogdfliailenaa
set_option maxRecDepth 100000
set_option linter.unusedSimpArgs false
set_option linter.unusedVariables false
set_option linter.unnecessarySimpa false
open Go Go.Abs Go.Proofs
theorem fcall_mono {P : Program} {f : FuncId} {args : List AV} {p q : AV → AHeap → Prop} (h : FCall P f args p) (hp : ∀ r H, p r H → q r H) : FCall P f args q :=
  fun clk => (h clk).mono fun r H c ⟨h1, h2, h3⟩ => ⟨h1, h2, hp r H h3⟩
def obCmp (a b : Ob) : Int := cmpOb a b
instance : Inhabited Ob := ⟨ob0⟩
def obEnc (o : Ob) : List Value := [.int .i64 o.kind, .int .i64 o.id, .int .i64 o.a, .int .i64 o.b, .int .i64 o.c, .int .i64 o.d, .int .i64 o.rev]
theorem obSwo : Go.Sort.SWO (Go.Proofs.ltOf cmpOb) := by
  have h : ∀ a b, Go.Proofs.ltOf cmpOb a b = less a b := fun a b => by
    rw [Bool.eq_iff_iff]; simp only [Go.Proofs.ltOf, decide_eq_true_eq]; exact cmpOb_less a b
  refine ⟨fun a => ?_, fun a b c h1 h2 => ?_, fun a b c h1 h2 => ?_⟩
  · rw [h]; simp [less]
  · rw [h] at *; exact less_trans h1 h2
  · rw [h] at *; unfold less at *; simp at *; omega
end Go.Proofs.Ytiogdfliailenaa
namespace Go.Proofs.Ytiogdfliailenaa
set_option maxRecDepth 100000
set_option linter.unusedSimpArgs false
set_option linter.unusedVariables false
set_option linter.unnecessarySimpa false
open Go Go.Abs Go.Proofs
theorem rises_of_sorted {d : List Ob} (hk : KeysApart d) (hs : ∀ (i j : Nat) (x y : Ob), i < j → d[i]? = some x → d[j]? = some y → ¬ cmpOb y x < 0) : rises d = true := by
  rw [rises_iff]
  intro j a b ha hb
  have h1 := hs j (j + 1) a b (by omega) ha hb
  rw [cmpOb_less] at h1
  have hj := (List.getElem?_eq_some_iff.1 ha)
  have hj1 := (List.getElem?_eq_some_iff.1 hb)
  obtain ⟨l1, e1⟩ := hj
  obtain ⟨l2, e2⟩ := hj1
  have h2 := List.pairwise_iff_getElem.1 hk j (j + 1) l1 l2 (by omega)
  rw [e1, e2] at h2
  rcases less_or h2 with h3 | h3
  · exact h3
  · exact absurd h3 h1
end Go.Proofs.Ytiogdfliailenaa
namespace Go.Proofs.Ytiogdfliailenaa
set_option maxRecDepth 100000
set_option linter.unusedSimpArgs false
set_option linter.unusedVariables false
set_option linter.unnecessarySimpa false
open Go Go.Abs Go.Proofs
/-- The last changes, with one more. -/
def addCh (l : List Ch) (c : Ch) : List Ch := l.drop (l.length + 1 - 12) ++ [c]
theorem addCh_len (l : List Ch) (c : Ch) (h : l.length ≤ 1048576) : (addCh l c).length ≤ 12 := by simp [addCh]; omega
theorem putU_len (o : Ob) : ∀ (l : List Ob), (putU o l).length ≤ l.length + 1
  | [] => Nat.le_refl _
  | a :: l => by
    unfold putU
    split
    · simp
    · have := putU_len o l; simp; omega
theorem turnU_len (gone : Bool) (o : Ob) (l : List Ob) : (turnU gone o l).length ≤ l.length + 1 := by
  cases gone with
  | true => have := (delU_sub (x := o.kind) (y := o.id) (l := l)).length_le; simp [turnU]; omega
  | false => exact putU_len o l
/-- The store behind a write that it takes. -/
def nxOb (s : St) (w : Wr) : Ob := { w.ob with rev := s.rev + 1 }
def nxCh (s : St) (w : Wr) : Ch := ⟨s.rev + 1, (w.op == 2), nxOb s w⟩
def nxSt (s : St) (w : Wr) : St := ⟨s.rev + 1, turnOb ((w.op == 2)) (nxOb s w) s.obs, addCh s.hist (nxCh s w)⟩
theorem chkW_ok {s : St} {w : Wr} (h : chkW s w = 0) : stFault s = 0 ∧ wrFault w = 0 ∧ (refuse s w).code = 0 := by
  unfold chkW at h
  split at h
  · rename_i h1; exact absurd h h1
  · rename_i h1
    split at h
    · rename_i h2; exact absurd h h2
    · rename_i h2; exact ⟨by simpa using h1, by simpa using h2, h⟩
end Go.Proofs.Ytiogdfliailenaa
