/-
  Rows of writes: lengths, copies, compared, marked; a store behind a write that it takes is a store.
  ReplayWrites of the program.
-/
import Derived.Test.YtiogdfliailenaaQ21
namespace Go.Proofs.Ytiogdfliailenaa
set_option maxRecDepth 100000
set_option linter.unusedSimpArgs false
set_option linter.unusedVariables false
set_option linter.unnecessarySimpa false
open Go Go.Abs Go.Proofs
def wrz : Wr := ⟨0, ob0, 0, 0⟩
instance : Row Wr where
  w := 10
  dcs := Wr.dcs
  len _ := rfl
  pos := by decide
  flat a d h := by simp at h; rcases h with rfl | rfl | rfl | rfl | rfl | rfl | rfl | rfl | rfl | rfl <;> rfl
  inj a b h := by
    obtain ⟨p, o, x, y⟩ := a; obtain ⟨p', o', x', y'⟩ := b; cases o; cases o'; simpa [and_assoc] using h
@[simp] theorem dcs_wr (o : Wr) : Row.dcs o = o.dcs := rfl
section
variable (m : List Wr) (i n : Nat)
@[simp] theorem rds_len10 : (rds m).length = m.length * 10 := rds_length m
@[simp] theorem rcs_len10 : (rcs m).length = m.length * 10 := rcs_length m
@[simp] theorem rds_drop10 : (rds m).drop (i * 10) = rds (m.drop i) := rds_drop m i
@[simp] theorem rcs_drop10 : (rcs m).drop (i * 10) = rcs (m.drop i) := rcs_drop m i
@[simp] theorem rcs_drop110 : (rcs m).drop (i * 10 + 10) = rcs (m.drop (i + 1)) := rcs_drop1 m i
@[simp] theorem rds_take10 : (rds m).take (i * 10) = rds (m.take i) := rds_take m i
@[simp] theorem rcs_take10 : (rcs m).take (i * 10) = rcs (m.take i) := rcs_take m i
@[simp] theorem rcs_zeros10 : (List.replicate n [ic 0, ic 0, ic 0, ic 0, ic 0, ic 0, ic 0, ic 0, ic 0, ic 0]).flatten = rcs (List.replicate n wrz) := rcs_zeros n wrz
end
theorem set10 (l : List Wr) {i : Nat} (h : i < l.length) (p a b c d e f g x y : Int) : ((((((((((rcs l).set (i * 10) (ic p)).set (i * 10 + 1) (ic a)).set (i * 10 + 2) (ic b)).set (i * 10 + 3) (ic c)).set (i * 10 + 4) (ic d)).set (i * 10 + 5) (ic e)).set (i * 10 + 6) (ic f)).set (i * 10 + 7) (ic g)).set (i * 10 + 8) (ic x)).set (i * 10 + 9) (ic y) = rcs (l.set i ⟨p, ⟨a, b, c, d, e, f, g⟩, x, y⟩) := by
  obtain ⟨o, h1, h2⟩ := rcs_split l h
  have hA : (rcs (l.take i)).length = i * 10 := by simp; omega
  have h0 := fun (L : List AC) v => set_app (A := rcs (l.take i)) (L := L) (j := 0) (v := v) hA
  simp only [Nat.add_zero] at h0
  rw [h2, h1, h0, set_app hA, set_app hA, set_app hA, set_app hA, set_app hA, set_app hA, set_app hA, set_app hA, set_app hA]
  rfl
theorem putL_in (o : Ob) : ∀ (l : List Ob) (d : Bool), (∃ q ∈ l, sameKey q o = true) → (putL o d l).length + (if d then 1 else 0) ≤ l.length
  | [], d, h => by obtain ⟨q, hq, _⟩ := h; simp at hq
  | a :: l, d, h => by
    unfold putL
    have h1 := putL_len o l d
    split
    · cases d <;> simp at h1 ⊢ <;> omega
    · rename_i hn
      have hl : ∃ q ∈ l, sameKey q o = true := by
        obtain ⟨q, hq, hs⟩ := h
        rcases List.mem_cons.1 hq with rfl | hq
        · exact absurd hs hn
        · exact ⟨q, hq, hs⟩
      have h2 := putL_in o l d hl
      have h3 := putL_in o l true hl
      split
      · rename_i hd
        obtain ⟨rfl, _⟩ := hd
        simp at h3 ⊢; omega
      · simp at h2 ⊢; omega
theorem obsBad_iff (rev : Int) : ∀ (l : List Ob), obsBad rev l = 0 ↔ ∀ o ∈ l, obFault o = 0 ∧ 1 ≤ o.rev ∧ o.rev ≤ rev
  | [] => by simp [obsBad]
  | a :: l => by
    have ih := obsBad_iff rev l
    unfold obsBad
    split
    · rename_i h1
      split
      · rename_i h2; rw [ih]; simp [h1, h2]
      · rename_i h2
        constructor
        · intro h; omega
        · intro h; exact absurd (h a (by simp)).2 h2
    · rename_i h1
      constructor
      · intro h; exact absurd h h1
      · intro h; exact absurd (h a (by simp)).1 h1
theorem refuse_ok {s : St} {w : Wr} (h : (refuse s w).code = 0) : s.rev ≠ 100000 ∧ (thereOb s.obs w = true ∨ s.obs.length ≠ 60) := by
  unfold refuse at h
  split at h
  · simp [Rf.code] at h
  · rename_i h1
    split at h
    · simp [Rf.code] at h
    · split at h
      · rename_i h3
        cases hr : (sgOf s w).stepRf <;> simp [hr, Rf.code] at h h3
      · split at h
        · simp [Rf.code] at h
        · rename_i h4
          refine ⟨h1, ?_⟩
          cases ht : thereOb s.obs w
          · exact .inr fun e => h4 ⟨ht, e⟩
          · exact .inl rfl
theorem wrFault_ob {w : Wr} (h : wrFault w = 0) : obFault w.ob = 0 := by
  unfold wrFault at h
  split at h
  · omega
  · split at h
    · rename_i h2; exact absurd h h2
    · rename_i h2; simpa using h2
theorem obFault_rev {o : Ob} (h : obFault o = 0) {r : Int} (hr : 0 ≤ r ∧ r ≤ 100000) : obFault { o with rev := r } = 0 := by
  unfold obFault at h ⊢
  split at h
  · rename_i h1
    split at h
    · rename_i h2
      rw [if_pos h1, if_pos]
      exact ⟨hr, h2.2⟩
    · omega
  · omega
theorem nxSt_ok {s : St} {w : Wr} (h : chkW s w = 0) : stFault (nxSt s w) = 0 := by
  obtain ⟨hs, hw, hc⟩ := chkW_ok h
  obtain ⟨⟨r0, r1⟩, l1, l2, hb, hr, hh⟩ := stFault_all hs
  obtain ⟨q1, q2⟩ := refuse_ok hc
  have hob : obFault (nxOb s w) = 0 := obFault_rev (wrFault_ob hw) (by omega)
  have hlen : (turnOb (w.op == 2) (nxOb s w) s.obs).length ≤ 60 := by
    unfold turnOb
    rcases q2 with ht | ht
    · have hq : ∃ q ∈ s.obs, sameKey q (nxOb s w) = true := by
        unfold thereOb at ht
        obtain ⟨q, hq⟩ := Option.isSome_iff_exists.1 ht
        obtain ⟨h1, h2, h3⟩ := findOb_mem hq
        exact ⟨q, h1, sameKey_iff.2 ⟨h2, h3⟩⟩
      have := putL_in (nxOb s w) s.obs (w.op == 2) hq
      omega
    · have := putL_len (nxOb s w) s.obs (w.op == 2)
      split at this <;> omega
  have hrise : rises (turnOb (w.op == 2) (nxOb s w) s.obs) = true := rises_putL _ _ _ hr (.inr fun _ _ => trivial)
  have hbad : obsBad (s.rev + 1) (turnOb (w.op == 2) (nxOb s w) s.obs) = 0 := by
    rw [obsBad_iff] at hb ⊢
    intro o ho
    rcases (mem_putL _ _ _ _).1 ho with ⟨_, rfl⟩ | ⟨hm, _⟩
    · refine ⟨hob, ?_⟩
      show 1 ≤ s.rev + 1 ∧ s.rev + 1 ≤ s.rev + 1
      omega
    · obtain ⟨g1, g2, g3⟩ := hb o hm
      exact ⟨g1, g2, by omega⟩
  have hhist : (addCh s.hist (nxCh s w)).length ≤ 12 := by unfold addCh; simp; omega
  have hok : histOk (s.rev + 1) (addCh s.hist (nxCh s w)) = true := by
    unfold histOk at hh ⊢
    rw [Bool.and_eq_true, decide_eq_true_eq, histAll_iff] at hh ⊢
    obtain ⟨hh1, hh2⟩ := hh
    obtain ⟨k, hk⟩ : ∃ k, k = s.hist.length + 1 - 12 := ⟨_, rfl⟩
    have hL : (addCh s.hist (nxCh s w)).length = s.hist.length - k + 1 := by unfold addCh; simp [hk]
    rw [hL]
    refine ⟨by omega, fun j c hc => ?_⟩
    unfold addCh at hc
    rw [← hk] at hc
    by_cases hj : j < s.hist.length - k
    · rw [List.getElem?_append_left (by simpa using hj), List.getElem?_drop] at hc
      obtain ⟨g1, g2, g3, g4⟩ := hh2 _ c hc
      exact ⟨g1, g2, by push_cast at g3; omega, g4⟩
    · rw [List.getElem?_append_right (by simpa using hj)] at hc
      have hj2 : j = s.hist.length - k := by
        have := (List.getElem?_eq_some_iff.1 hc).1
        simp at this; omega
      simp [hj2] at hc
      subst hc
      refine ⟨hob, rfl, ?_, ?_⟩
      · show s.rev + 1 = _
        omega
      · show 1 ≤ s.rev + 1
        omega
  unfold stFault
  rw [if_pos (show 0 ≤ (nxSt s w).rev ∧ (nxSt s w).rev ≤ 100000 from ⟨by show 0 ≤ s.rev + 1; omega, by show s.rev + 1 ≤ 100000; omega⟩), if_pos ⟨hlen, hhist⟩, if_pos (show obsBad (nxSt s w).rev (nxSt s w).obs = 0 from hbad), if_pos (show rises (nxSt s w).obs = true from hrise), if_pos (show histOk (nxSt s w).rev (nxSt s w).hist = true from hok)]
end Go.Proofs.Ytiogdfliailenaa
namespace Go.Proofs.Ytiogdfliailenaa
set_option maxRecDepth 100000
set_option linter.unusedSimpArgs false
set_option linter.unusedVariables false
set_option linter.unnecessarySimpa false
open Go Go.Abs Go.Proofs
def rp : List Wr → St → Int × St
  | [], s => (0, s)
  | w :: t, s => if chkW s w = 0 then rp t (nxSt s w) else (chkW s w, st0)
def rpF (l : List Wr) : Int := if l.length ≤ 300 then (rp l st0).1 else 2
theorem stFault_st0 : stFault st0 = 0 := by decide
end Go.Proofs.Ytiogdfliailenaa
