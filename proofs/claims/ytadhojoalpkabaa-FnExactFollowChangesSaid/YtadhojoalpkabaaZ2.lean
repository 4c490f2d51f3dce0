/-
  Changes followed: lists alone.
-/
import Derived.Test.YtadhojoalpkabaaZ1
import Derived.Test.YtadhojoalpkabaaU6
import Derived.Test.YtadhojoalpkabaaK6
namespace Go.Proofs.Ytadhojoalpkabaa
set_option maxRecDepth 100000
set_option linter.unusedSimpArgs false
set_option linter.unusedVariables false
set_option linter.unnecessarySimpa false
open Go Go.Abs Go.Proofs
def foldOb (l : List Ob) (cs : List Ch) : List Ob := cs.foldl (fun l c => turnOb c.gone c.ob l) l
theorem foldOb_snoc (l : List Ob) (cs : List Ch) (c : Ch) : foldOb l (cs ++ [c]) = turnOb c.gone c.ob (foldOb l cs) := by simp [foldOb]
/-- The code that a row of changes, each with its code, comes to. -/
def folX : List (Ch × Int) → List Ob → Int
  | [], _ => 0
  | x :: t, l => if x.2 ≠ 0 then x.2 else if 60 < (turnOb x.1.gone x.1.ob l).length then 2 else folX t (turnOb x.1.gone x.1.ob l)
theorem folX_append : ∀ (a b : List (Ch × Int)) (l : List Ob), folX (a ++ b) l = if folX a l ≠ 0 then folX a l else folX b (foldOb l (a.map (·.1)))
  | [], b, l => by simp [folX, foldOb]
  | x :: t, b, l => by
    rw [List.cons_append, folX, folX]
    by_cases h1 : x.2 ≠ 0
    · rw [if_pos h1, if_pos h1, if_pos h1]
    · rw [if_neg h1, if_neg h1]
      by_cases h2 : 60 < (turnOb x.1.gone x.1.ob l).length
      · rw [if_pos h2, if_pos h2, if_pos (by decide)]
      · rw [if_neg h2, if_neg h2, folX_append t b]; rfl
theorem folX_snoc (a : List (Ch × Int)) (x : Ch × Int) (l : List Ob) : folX (a ++ [x]) l = if folX a l ≠ 0 then folX a l else if x.2 ≠ 0 then x.2 else if 60 < (turnOb x.1.gone x.1.ob (foldOb l (a.map (·.1)))).length then 2 else 0 := by
  rw [folX_append]; rfl
def folGo : Int → List Ch → List Ob → Int
  | _, [], _ => 0
  | rev, c :: t, l => if chFault (rev + 1) c ≠ 0 then chFault (rev + 1) c else if 60 < (turnOb c.gone c.ob l).length then 2 else folGo (rev + 1) t (turnOb c.gone c.ob l)
theorem folX_pairs (rev : Int) (cs : List Ch) (l : List Ob) : folX (pairsB rev cs) l = folGo rev cs l := by
  have key : ∀ (cs : List Ch) (k : Nat) (l : List Ob), folX ((cs.zipIdx k).map fun p => (p.1, chFault (rev + p.2 + 1) p.1)) l = folGo (rev + k) cs l := by
    intro cs
    induction cs with
    | nil => intro k l; rfl
    | cons c t ih =>
      intro k l
      rw [List.zipIdx_cons, List.map_cons, folX, folGo, ih (k + 1)]
      have : rev + ((k + 1 : Nat) : Int) = rev + k + 1 := by omega
      rw [this]
  have := key cs 0 l
  simpa [pairsB] using this
theorem pairsB_fst (rev : Int) (cs : List Ch) : (pairsB rev cs).map (·.1) = cs := by
  unfold pairsB
  rw [List.map_map]
  show (cs.zipIdx).map Prod.fst = cs
  simp
theorem pairsB_pre (rev : Int) (cs : List Ch) (n : Nat) : ∃ t, pairsB rev cs = pairsB rev (cs.take n) ++ t := by
  have h : cs = cs.take n ++ cs.drop n := (List.take_append_drop n cs).symm
  refine ⟨((cs.drop n).zipIdx (0 + (cs.take n).length)).map fun p => (p.1, chFault (rev + p.2 + 1) p.1), ?_⟩
  have := congrArg (pairsB rev) h
  rw [this]
  unfold pairsB
  rw [List.zipIdx_append, List.map_append]
theorem folX_stop {rev : Int} {cs : List Ch} {n : Nat} {l : List Ob} (h : folX (pairsB rev (cs.take n)) l ≠ 0) : folGo rev cs l = folX (pairsB rev (cs.take n)) l := by
  obtain ⟨t, ht⟩ := pairsB_pre rev cs n
  rw [← folX_pairs, ht, folX_append, if_pos h]
def flF (s : Ca) (cs : List Ch) : Int := if caFault s = 0 then (if cs.length ≤ 12 then folGo s.rev cs s.obs else 2) else caFault s
def flS (s : Ca) (cs : List Ch) : Ca := ⟨s.rev + cs.length, foldOb s.obs cs⟩
theorem rises_turn {l : List Ob} (h : rises l = true) (gone : Bool) (o : Ob) : rises (turnOb gone o l) = true := rises_putL o l gone h (.inr fun _ _ => trivial)
theorem apart_nodup {l : List Ob} (h : KeysApart l) : l.Nodup := List.Pairwise.imp (fun hn e => hn (by rw [e]; exact ⟨rfl, rfl⟩)) h
theorem same_len {m l : List Ob} (hm : KeysApart m) (hl : rises l = true) (h : ∀ q, q ∈ m ↔ q ∈ l) : m.length = l.length :=
  Nat.le_antisymm ((apart_nodup hm).length_le_of_subset fun q hq => (h q).1 hq) ((apart_nodup (rises_apart hl)).length_le_of_subset fun q hq => (h q).2 hq)
theorem turn_same {m l : List Ob} (hm : KeysApart m) (hl : rises l = true) (h : ∀ q, q ∈ m ↔ q ∈ l) (gone : Bool) (o : Ob) : ∀ q, q ∈ turnU gone o m ↔ q ∈ turnOb gone o l := fun q => by
  rw [turnU_mem hm]
  show _ ↔ q ∈ putL o gone l
  rw [mem_putL, h q]
theorem d_changesBehind (rev : Int) (l : List Ch) : DCall Try.prog 24 [iv .i64 rev, rlist l] (.one (.d (.fn 39 [.rptr [.list l.length (rds l)], .rptr [dc rev]]))) := by
  intro clk
  refine acall_of_ok Try.func24 rfl (codeOk_seq (aw_sound _ _ _ ?_))
  simp
  refine codeOk_freeze 0 (codeOk_freeze 1 (aw_sound _ _ _ ?_))
  simp [frzV, frzC, ofJ, snap1, blkAt, AC.dc?]
end Go.Proofs.Ytadhojoalpkabaa
