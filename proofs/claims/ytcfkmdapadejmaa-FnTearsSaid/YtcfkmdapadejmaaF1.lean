/-
  Frames on a disk, read whole: what is read; lists of bodies as data.
-/
import Derived.Test.YtcfkmdapadejmaaR2
namespace Go.Proofs.Ytcfkmdapadejmaa
set_option maxRecDepth 100000
set_option linter.unusedSimpArgs false
set_option linter.unusedVariables false
set_option linter.unnecessarySimpa false
open Go Go.Abs Go.Proofs
@[simp] theorem be_take9 (n k : Nat) : (be n k).take k = be n k := List.take_of_length_le (by rw [be_length]; exact Nat.le_refl _)
theorem be_rd9 (l : List UInt8) : be (rdN l) l.length = l := by
  suffices ∀ r : List UInt8, be (rdN r.reverse) r.length = r.reverse by simpa using this l.reverse
  intro r
  induction r with
  | nil => rfl
  | cons b r ih =>
    have hb := b.toNat_lt
    rw [List.reverse_cons, rdN_snoc, List.length_cons, be]
    have h1 : (rdN r.reverse * 256 + b.toNat) / 256 = rdN r.reverse := by omega
    have h2 : (rdN r.reverse * 256 + b.toNat) % 256 = b.toNat := by omega
    rw [h1, h2, ih]
    simp
theorem rd_be9 (n k : Nat) (h : n < 256 ^ k) : rdN (be n k) = n := by
  induction k generalizing n with
  | zero => simp at h; subst h; rfl
  | succ k ih =>
    rw [be, rdN_snoc, ih (n / 256) (by rw [Nat.pow_succ] at h; omega), UInt8.toNat_ofNat']
    omega

abbrev brow (b : List UInt8) : DC := .list b.length (bds b)
def bss (l : List (List UInt8)) : List DC := l.map brow
def bsc (l : List (List UInt8)) : List AC := (bss l).map .d
abbrev bblist (l : List (List UInt8)) : AV := .one (.d (.list l.length (bss l)))
section
variable (l m : List (List UInt8)) (i n : Nat)
@[simp] theorem bss_nil : bss [] = [] := rfl
@[simp] theorem bsc_nil : bsc [] = [] := rfl
@[simp] theorem bss_cons (b : List UInt8) : bss (b :: l) = brow b :: bss l := rfl
@[simp] theorem bsc_cons (b : List UInt8) : bsc (b :: l) = .d (brow b) :: bsc l := rfl
@[simp] theorem bss_len : (bss l).length = l.length := by simp [bss]
@[simp] theorem bsc_len : (bsc l).length = l.length := by simp [bsc]
@[simp] theorem bss_map : (bss l).map AC.d = bsc l := rfl
@[simp] theorem bss_drop : (bss l).drop i = bss (l.drop i) := by simp [bss]
@[simp] theorem bss_take : (bss l).take i = bss (l.take i) := by simp [bss]
@[simp] theorem bsc_drop : (bsc l).drop i = bsc (l.drop i) := by simp [bsc, bss]
@[simp] theorem bsc_take : (bsc l).take i = bsc (l.take i) := by simp [bsc, bss]
@[simp] theorem bsc_append : bsc l ++ bsc m = bsc (l ++ m) := by simp [bsc, bss]
@[simp] theorem mapM_bsc : (bsc l).mapM AC.dc? = some (bss l) := by
  induction l with
  | nil => rfl
  | cons b l ih => rw [bsc_cons, List.mapM_cons, ih]; rfl
end
/-- The bodies of the frames that are whole, one behind the other, and how many bytes these have. -/
inductive Reads (d : List UInt8) : List (List UInt8) → Nat → Prop
  | nil : Reads d [] 0
  | snoc {bs : List (List UInt8)} {z : Nat} {b : List UInt8} (h : Reads d bs z) (hb : firstB (d.drop z) = some b) : Reads d (bs ++ [b]) (z + b.length + 3)
theorem Reads.size {d : List UInt8} {bs : List (List UInt8)} {z : Nat} (h : Reads d bs z) : z ≤ d.length ∧ bs.length ≤ z := by
  induction h with
  | nil => simp
  | snoc h hb ih =>
    have := firstB_some hb
    have h2 := this.2.2.1
    rw [List.length_drop] at h2
    simp; omega
/-- Bodies in order: as a function of a bound on their number. -/
def readN : Nat → List UInt8 → List (List UInt8) × Nat
  | 0, _ => ([], 0)
  | k + 1, d => match firstB d with
    | some b => (b :: (readN k (d.drop (b.length + 3))).1, b.length + 3 + (readN k (d.drop (b.length + 3))).2)
    | none => ([], 0)
def readF (d : List UInt8) : List (List UInt8) × Nat := readN d.length d
theorem readN_more : ∀ (k j : Nat) (d : List UInt8), d.length ≤ k → k ≤ j → readN j d = readN k d
  | 0, j, d, h, _ => by
    obtain rfl : d = [] := List.eq_nil_of_length_eq_zero (by omega)
    cases j with
    | zero => rfl
    | succ j => rfl
  | k + 1, 0, d, h, hj => by omega
  | k + 1, j + 1, d, h, hj => by
    simp only [readN]
    cases hf : firstB d with
    | none => rfl
    | some b =>
      have := firstB_some hf
      simp only
      rw [readN_more k j (d.drop (b.length + 3)) (by rw [List.length_drop]; omega) (by omega)]
theorem readF_step {d b : List UInt8} (h : firstB d = some b) : readF d = (b :: (readF (d.drop (b.length + 3))).1, b.length + 3 + (readF (d.drop (b.length + 3))).2) := by
  have hb := firstB_some h
  unfold readF
  match hd : d.length with
  | 0 => omega
  | k + 1 =>
    rw [readN, h]
    simp only
    rw [readN_more _ k (d.drop (b.length + 3)) (Nat.le_refl _) (by rw [List.length_drop]; omega)]
theorem readF_none {d : List UInt8} (h : firstB d = none) : readF d = ([], 0) := by
  unfold readF
  cases d.length with
  | zero => rfl
  | succ k => rw [readN, h]
/-- What was read so far, and what comes behind it, is all. -/
theorem reads_all {d : List UInt8} {bs : List (List UInt8)} {z : Nat} (h : Reads d bs z) : readF d = (bs ++ (readF (d.drop z)).1, z + (readF (d.drop z)).2) := by
  induction h with
  | nil => simp
  | snoc h hb ih =>
    rw [ih, readF_step hb, List.drop_drop]
    simp [Nat.add_assoc]
theorem reads_end {d : List UInt8} {bs : List (List UInt8)} {z : Nat} (h : Reads d bs z) (he : firstB (d.drop z) = none) : readF d = (bs, z) := by
  rw [reads_all h, readF_none he]; simp
theorem firstB_model {d : List UInt8} {z : Nat} {x : UInt8} (hx : d[z]? = some x) : firstB (d.drop z) =
    if 1 ≤ x.toNat ∧ x.toNat ≤ 100 ∧ z + x.toNat + 3 ≤ d.length ∧ rdN ((d.drop (z + x.toNat + 1)).take 2) = crc ((d.drop z).take (x.toNat + 1)) then some ((d.drop (z + 1)).take x.toNat) else none := by
  obtain ⟨hz, hxe⟩ := List.getElem?_eq_some_iff.1 hx
  have hd : d.drop z = x :: d.drop (z + 1) := by rw [List.drop_eq_getElem_cons hz, hxe]
  obtain ⟨t, ht⟩ : ∃ t, t = d.drop (z + 1) := ⟨_, rfl⟩
  have htl : t.length = d.length - (z + 1) := by rw [ht, List.length_drop]
  have e1 : d.drop (z + x.toNat + 1) = t.drop x.toNat := by rw [ht, List.drop_drop]; congr 1; omega
  rw [e1, hd, ← ht, firstB, List.take_succ_cons]
  have hxl := x.toNat_lt
  by_cases h1 : 1 ≤ x.toNat ∧ x.toNat ≤ 100 ∧ z + x.toNat + 3 ≤ d.length
  · have hbl : (t.take x.toNat).length = x.toNat := by rw [List.length_take]; omega
    have hh : headOf (t.take x.toNat) = x := by
      rw [headOf, hbl]
      apply UInt8.toNat_inj.1
      rw [UInt8.toNat_ofNat']; omega
    have hfr : frame (t.take x.toNat) = (x :: t.take x.toNat) ++ be (crc (x :: t.take x.toNat)) 2 := by rw [frame, hh]
    have htk : (x :: t).take (x.toNat + 3) = (x :: t.take x.toNat) ++ (t.drop x.toNat).take 2 := by
      rw [show x.toNat + 3 = (x.toNat + 2) + 1 by omega, List.take_succ_cons, List.cons_append]
      congr 1
      rw [List.take_add]
    have h2l : ((t.drop x.toNat).take 2).length = 2 := by rw [List.length_take, List.length_drop]; omega
    have hiff : ((x :: t).take (x.toNat + 3) = frame (t.take x.toNat)) ↔ rdN ((t.drop x.toNat).take 2) = crc (x :: t.take x.toNat) := by
      rw [htk, hfr]
      constructor
      · intro h
        have := List.append_cancel_left h
        rw [this, rd_be9 _ _ (crc_lt _)]
      · intro h
        congr 1
        rw [← h]
        have := be_rd9 ((t.drop x.toNat).take 2)
        rw [h2l] at this
        exact this.symm
    by_cases h2 : rdN ((t.drop x.toNat).take 2) = crc (x :: t.take x.toNat)
    · rw [if_pos ⟨by omega, h1.1, h1.2.1, by omega, hiff.2 h2⟩, if_pos ⟨h1.1, h1.2.1, h1.2.2, h2⟩]
    · rw [if_neg (fun h => h2 (hiff.1 h.2.2.2.2)), if_neg (fun h => h2 h.2.2.2)]
  · rw [if_neg (fun h => h1 ⟨h.2.1, h.2.2.1, by have := h.2.2.2.1; omega⟩), if_neg (fun h => h1 ⟨h.1, h.2.1, h.2.2.1⟩)]
end Go.Proofs.Ytcfkmdapadejmaa
