/-
  Frames that were torn or turned: what is read of them. Numbers and lists alone.
-/
import Derived.Test.YtcfkmdapadejmaaF1
import Derived.Test.YtcfkmdapadejmaaR3
namespace Go.Proofs.Ytcfkmdapadejmaa
set_option maxRecDepth 100000
set_option linter.unusedSimpArgs false
set_option linter.unusedVariables false
set_option linter.unnecessarySimpa false
open Go Go.Abs Go.Proofs

/- The sum tells one byte that is turned. -/
theorem xor_cancel {a b c : Nat} (h : a ^^^ c = b ^^^ c) : a = b := by
  have := congrArg (· ^^^ c) h
  simpa [Nat.xor_assoc] using this
theorem xor_cancel' {a b c : Nat} (h : c ^^^ a = c ^^^ b) : a = b := by
  rw [Nat.xor_comm c a, Nat.xor_comm c b] at h; exact xor_cancel h
theorem cstep_odd {n m : Nat} (hn : 32768 ≤ n) (hm : ¬ 32768 ≤ m) (h : cstep n = cstep m) : False := by
  rw [cstep, if_pos hn, cstep, if_neg hm] at h
  have h1 : Nat.testBit ((2 * n - 65536) ^^^ 4129) 0 = Nat.testBit (2 * m) 0 := by rw [h]
  rw [Nat.testBit_xor, Nat.testBit_zero, Nat.testBit_zero, Nat.testBit_zero, show (2 * n - 65536) % 2 = 0 by omega, show 2 * m % 2 = 0 by omega] at h1
  exact absurd h1 (by decide)
theorem cstep_inj {n m : Nat} (hn : n < 65536) (hm : m < 65536) (h : cstep n = cstep m) : n = m := by
  by_cases h1 : 32768 ≤ n
  · by_cases h2 : 32768 ≤ m
    · rw [cstep, if_pos h1, cstep, if_pos h2] at h
      have := xor_cancel h
      omega
    · exact (cstep_odd h1 h2 h).elim
  · by_cases h2 : 32768 ≤ m
    · exact (cstep_odd h2 h1 h.symm).elim
    · rw [cstep, if_neg h1, cstep, if_neg h2] at h
      omega
theorem cbits_inj : ∀ (i : Nat) {n m : Nat}, n < 65536 → m < 65536 → cbits i n = cbits i m → n = m
  | 0, _, _, _, _, h => h
  | i + 1, _, _, hn, hm, h => cbits_inj i hn hm (cstep_inj (cbits_lt hn i) (cbits_lt hm i) h)
theorem mix_lt {s : Nat} (h : s < 65536) (b : UInt8) : s ^^^ b.toNat * 256 < 65536 := Nat.xor_lt_two_pow (n := 16) (by omega) (by have := b.toNat_lt; omega)
theorem cbyte_inj {s t : Nat} (hs : s < 65536) (ht : t < 65536) {b : UInt8} (h : cbyte s b = cbyte t b) : s = t := by
  unfold cbyte at h
  exact xor_cancel (cbits_inj 8 (mix_lt hs b) (mix_lt ht b) h)
theorem cbyte_inj' {s : Nat} (hs : s < 65536) {a b : UInt8} (h : cbyte s a = cbyte s b) : a = b := by
  unfold cbyte at h
  have := xor_cancel' (cbits_inj 8 (mix_lt hs a) (mix_lt hs b) h)
  exact UInt8.toNat_inj.1 (by omega)
attribute [local irreducible] cbyte
theorem fold_lt : ∀ (l : List UInt8) {s : Nat}, s < 65536 → l.foldl cbyte s < 65536
  | [], _, h => h
  | b :: l, _, h => fold_lt l (cbyte_lt h b)
theorem fold_inj : ∀ (l : List UInt8) {s t : Nat}, s < 65536 → t < 65536 → l.foldl cbyte s = l.foldl cbyte t → s = t
  | [], _, _, _, _, h => h
  | b :: l, _, _, hs, ht, h => cbyte_inj hs ht (fold_inj l (cbyte_lt hs b) (cbyte_lt ht b) h)
theorem fold_set : ∀ (l : List UInt8) (i : Nat) {s : Nat} {y : UInt8}, s < 65536 → i < l.length → (l.set i y).foldl cbyte s = l.foldl cbyte s → l[i]? = some y
  | [], i, _, _, _, hi, _ => by simp at hi
  | b :: l, 0, s, y, hs, _, h => by
    simp only [List.set_cons_zero, List.foldl_cons] at h
    have := cbyte_inj' hs (fold_inj l (cbyte_lt hs y) (cbyte_lt hs b) h)
    simp [this]
  | b :: l, i + 1, s, y, hs, hi, h => by
    simp only [List.set_cons_succ, List.foldl_cons] at h
    simpa using fold_set l i (cbyte_lt hs b) (by simpa using hi) h
theorem crc_set {l : List UInt8} {i : Nat} {y : UInt8} (hi : i < l.length) (h : crc (l.set i y) = crc l) : l[i]? = some y := fold_set l i (by omega) hi h

/- The first frame. -/
theorem head_nat {b : List UInt8} (h : b.length ≤ 100) : (headOf b).toNat = b.length := by
  rw [headOf, UInt8.toNat_ofNat']; omega
theorem firstB_frame {b : List UInt8} (t : List UInt8) (h1 : 1 ≤ b.length) (h2 : b.length ≤ 100) : firstB (frame b ++ t) = some b := by
  have e : frame b ++ t = headOf b :: (b ++ (be (crc (headOf b :: b)) 2 ++ t)) := by simp [frame]
  have el : (be (crc (headOf b :: b)) 2).length = 2 := be_length ..
  have hl : (frame b).length = b.length + 3 := frame_length b
  have hb : (b ++ (be (crc (headOf b :: b)) 2 ++ t)).take b.length = b := by rw [List.take_append_of_le_length (Nat.le_refl _), List.take_length]
  rw [e, firstB, head_nat h2, hb, if_pos]
  refine ⟨by simp, h1, h2, by simp [el], ?_⟩
  rw [← e, List.take_append_of_le_length (by omega), List.take_of_length_le (by omega)]
theorem firstB_split {d b : List UInt8} (h : firstB d = some b) : 1 ≤ b.length ∧ b.length ≤ 100 ∧ d = frame b ++ d.drop (b.length + 3) := by
  have := firstB_some h
  refine ⟨this.1, this.2.1, ?_⟩
  rw [← this.2.2.2, List.take_append_drop]
theorem firstB_app {d b : List UInt8} (x : List UInt8) (h : firstB d = some b) : firstB (d ++ x) = some b := by
  obtain ⟨h1, h2, h3⟩ := firstB_split h
  rw [h3, List.append_assoc]
  exact firstB_frame _ h1 h2
theorem firstB_short {h : UInt8} {t : List UInt8} (hs : t.length + 1 < h.toNat + 3) : firstB (h :: t) = none := by
  rw [firstB, if_neg]
  rintro ⟨_, _, _, h4, _⟩
  omega
/-- A byte that is turned behind the first one. -/
theorem firstB_turned {b : List UInt8} {a : Nat} {y : UInt8} (h2 : b.length ≤ 100) (ha : 1 ≤ a) (hl : a < b.length + 3) (hy : (frame b)[a]? ≠ some y) : firstB ((frame b).set a y) = none := by
  cases hf : firstB ((frame b).set a y) with
  | none => rfl
  | some c =>
    exfalso
    obtain ⟨c1, c2, c3⟩ := firstB_split hf
    obtain ⟨k, rfl⟩ : ∃ k, a = k + 1 := ⟨a - 1, by omega⟩
    have hh : headOf b = headOf c := by
      have := congrArg List.head? c3
      simpa [frame] using this
    have hlen : b.length = c.length := by rw [← head_nat h2, ← head_nat c2, hh]
    have hfl := frame_length b
    have hcl := frame_length c
    have hd : ((frame b).set (k + 1) y).drop (c.length + 3) = [] := List.drop_of_length_le (by rw [List.length_set]; omega)
    rw [hd, List.append_nil] at c3
    have e1 : frame b = (headOf b :: b) ++ be (crc (headOf b :: b)) 2 := rfl
    have e2 : frame c = (headOf c :: c) ++ be (crc (headOf c :: c)) 2 := rfl
    generalize hp : headOf b :: b = p at e1
    generalize hq : headOf c :: c = q at e2
    have hpl : p.length = b.length + 1 := by rw [← hp]; rfl
    have hql : q.length = c.length + 1 := by rw [← hq]; rfl
    rw [e1, e2] at c3
    rw [e1] at hy
    by_cases hk : k + 1 < p.length
    · rw [List.set_append_left _ _ hk] at c3
      have hi := List.append_inj c3 (by rw [List.length_set]; omega)
      have hc : crc p = crc q := by
        have := congrArg rdN hi.2
        rwa [rd_be9 _ _ (crc_lt _), rd_be9 _ _ (crc_lt _)] at this
      rw [← hi.1] at hc
      have := crc_set hk hc.symm
      rw [List.getElem?_append_left hk] at hy
      exact hy this
    · rw [List.set_append_right _ _ (by omega)] at c3
      have hi := List.append_inj c3 (by omega)
      have hs : (be (crc p) 2).set (k + 1 - p.length) y = be (crc p) 2 := by rw [hi.2, hi.1]
      have el : (be (crc p) 2).length = 2 := be_length ..
      have := congrArg (·[k + 1 - p.length]?) hs
      simp only [List.getElem?_set_self (show k + 1 - p.length < (be (crc p) 2).length by omega)] at this
      rw [List.getElem?_append_right (by omega)] at hy
      exact hy this.symm

/- All frames. -/
theorem readF_size (d : List UInt8) : (readF d).2 ≤ d.length := by
  suffices ∀ (k : Nat) (d : List UInt8), (readN k d).2 ≤ d.length from this _ d
  intro k
  induction k with
  | zero => intro d; simp [readN]
  | succ k ih =>
    intro d
    rw [readN]
    cases h : firstB d with
    | none => simp
    | some b =>
      have hb := firstB_some h
      have := ih (d.drop (b.length + 3))
      rw [List.length_drop] at this
      simp only
      omega
theorem readF_app (x : List UInt8) : ∀ (n : Nat) (d : List UInt8), d.length ≤ n → readF (d ++ x) = ((readF d).1 ++ (readF (d.drop (readF d).2 ++ x)).1, (readF d).2 + (readF (d.drop (readF d).2 ++ x)).2)
  | n, d, hn => by
    cases h : firstB d with
    | none => rw [readF_none h]; simp
    | some b =>
      have hb := firstB_some h
      match n, hn with
      | 0, hn => omega
      | n + 1, hn =>
        rw [readF_step (firstB_app x h), readF_step h, List.drop_append_of_le_length (by omega)]
        have ih := readF_app x n (d.drop (b.length + 3)) (by rw [List.length_drop]; omega)
        rw [ih]
        simp only [List.cons_append, List.drop_drop, Nat.add_assoc]
/-- What was whole stays so, whatever comes behind it. -/
theorem readF_grows (d x : List UInt8) : (readF d).2 ≤ (readF (d ++ x)).2 := by
  rw [readF_app x _ d (Nat.le_refl _)]
  exact Nat.le_add_right ..
theorem readF_full {d : List UInt8} (x : List UInt8) (h : (readF d).2 = d.length) : readF (d ++ x) = ((readF d).1 ++ (readF x).1, d.length + (readF x).2) := by
  rw [readF_app x _ d (Nat.le_refl _), h, List.drop_length, List.nil_append]
theorem readF_frame {b : List UInt8} (t : List UInt8) (h1 : 1 ≤ b.length) (h2 : b.length ≤ 100) : readF (frame b ++ t) = (b :: (readF t).1, b.length + 3 + (readF t).2) := by
  rw [readF_step (firstB_frame t h1 h2), List.drop_append_of_le_length (by rw [frame_length]; omega), List.drop_of_length_le (by rw [frame_length]; omega), List.nil_append]
theorem readF_nil : readF [] = ([], 0) := rfl
/-- What was read is what lies there. -/
theorem readF_bytes : ∀ (n : Nat) (d : List UInt8), d.length ≤ n → ((readF d).1.map frame).flatten = d.take (readF d).2
  | n, d, hn => by
    cases h : firstB d with
    | none => rw [readF_none h]; simp
    | some b =>
      have hb := firstB_some h
      match n, hn with
      | 0, hn => omega
      | n + 1, hn =>
        rw [readF_step h, List.map_cons, List.flatten_cons, readF_bytes n (d.drop (b.length + 3)) (by rw [List.length_drop]; omega), List.take_add, hb.2.2.2]
theorem readF_bodies : ∀ (n : Nat) (d : List UInt8), d.length ≤ n → ∀ b ∈ (readF d).1, 1 ≤ b.length ∧ b.length ≤ 100
  | n, d, hn => by
    cases h : firstB d with
    | none => rw [readF_none h]; simp
    | some b =>
      have hb := firstB_some h
      match n, hn with
      | 0, hn => omega
      | n + 1, hn =>
        rw [readF_step h]
        intro c hc
        rcases List.mem_cons.1 hc with rfl | hc
        · exact ⟨hb.1, hb.2.1⟩
        · exact readF_bodies n (d.drop (b.length + 3)) (by rw [List.length_drop]; omega) c hc

/- Frames that were torn. -/
theorem xor_self_ne {y : UInt8} {m : Nat} (hm : m ≤ 255) (h : y ^^^ UInt8.ofNat m = y) : m = 0 := by
  have h1 := congrArg UInt8.toNat h
  rw [UInt8.toNat_xor, UInt8.toNat_ofNat', Nat.mod_eq_of_lt (by omega : m < 2 ^ 8)] at h1
  have h2 : y.toNat ^^^ m = y.toNat ^^^ 0 := by simpa using h1
  exact xor_cancel' h2
theorem xor_zero_u8 (y : UInt8) : y ^^^ UInt8.ofNat 0 = y := by
  apply UInt8.toNat_inj.1
  rw [UInt8.toNat_xor, UInt8.toNat_ofNat']
  simp
theorem torn_whole {b : List UInt8} {a : Nat} : torn (frame b) (b.length + 3) a 0 = frame b := by
  have hl := frame_length b
  rw [torn, if_pos (by omega), xor_zero_u8, List.take_of_length_le (by omega)]
  by_cases h : a < (frame b).length
  · simp [h]
  · rw [List.set_eq_of_length_le (by omega)]
theorem torn_first {b : List UInt8} {k a m : Nat} (h1 : 1 ≤ b.length) (h2 : b.length ≤ 100) (hk : k ≤ b.length + 3) (ha : a ≤ k - 1) (hm : m ≤ 255) (h : a ≠ 0 ∨ m = 0) (hn : ¬ (k = b.length + 3 ∧ m = 0)) : firstB (torn (frame b) k a m) = none := by
  have hl := frame_length b
  by_cases h0 : 0 < k
  · rw [torn, if_pos h0]
    by_cases hk2 : k < b.length + 3
    · obtain ⟨k, rfl⟩ : ∃ j, k = j + 1 := ⟨k - 1, by omega⟩
      have e : frame b = headOf b :: (b ++ be (crc (headOf b :: b)) 2) := rfl
      generalize hz : (frame b).getD a 0 ^^^ UInt8.ofNat m = z
      have hz0 : a = 0 → z = headOf b := by
        rintro rfl
        have : m = 0 := by omega
        subst this
        rw [← hz, xor_zero_u8, e]; rfl
      have hbl : (b ++ be (crc (headOf b :: b)) 2).length = b.length + 2 := by simp [be_length]
      rw [e, List.take_succ_cons]
      cases a with
      | zero =>
        rw [List.set_cons_zero, hz0 rfl]
        refine firstB_short ?_
        rw [head_nat h2, List.length_take]; omega
      | succ a =>
        rw [List.set_cons_succ]
        refine firstB_short ?_
        rw [head_nat h2, List.length_set, List.length_take]; omega
    · obtain rfl : k = b.length + 3 := by omega
      have hm0 : m ≠ 0 := fun h => hn ⟨rfl, h⟩
      rw [List.take_of_length_le (by omega)]
      refine firstB_turned h2 (by omega) (by omega) ?_
      rw [List.getElem?_eq_getElem (by omega)]
      intro hc
      have hg : (frame b).getD a 0 = (frame b)[a] := by simp [show a < (frame b).length by omega]
      rw [hg] at hc
      exact hm0 (xor_self_ne hm (Option.some.inj hc).symm)
  · rw [torn, if_neg h0]; rfl
theorem torn_read {b : List UInt8} {k a m : Nat} (h1 : 1 ≤ b.length) (h2 : b.length ≤ 100) (hk : k ≤ b.length + 3) (ha : a ≤ k - 1) (hm : m ≤ 255) (h : a ≠ 0 ∨ m = 0) (hn : ¬ (k = b.length + 3 ∧ m = 0)) : readF (torn (frame b) k a m) = ([], 0) := readF_none (torn_first h1 h2 hk ha hm h hn)

/- What the laws of frames ask. -/
theorem tears_say {d b : List UInt8} {keep at_ mask : Int} (hc : tearCode d b keep at_ mask = 0) :
    (tearDisk d b keep at_ mask).length ≤ 4000 ∧ (tearDisk d b keep at_ mask).length = d.length + keep.toNat ∧ (readF d).2 ≤ (readF (tearDisk d b keep at_ mask)).2 ∧
    (mask = 0 → keep = 0 → readF (tearDisk d b keep at_ mask) = readF d) ∧
    ((readF d).2 = d.length → keep = b.length + 3 → mask = 0 → (readF (tearDisk d b keep at_ mask)).1.length = (readF d).1.length + 1) ∧
    ((readF d).2 = d.length → ¬ (keep = b.length + 3 ∧ mask = 0) → ¬ (at_ = 0 ∧ mask ≠ 0) → (readF (tearDisk d b keep at_ mask)).2 = (readF d).2) := by
  unfold tearCode at hc
  split at hc
  · omega
  split at hc
  · rename_i g1 g2
    split at hc
    · rename_i g3
      split at hc
      · omega
      · rename_i g4
        obtain ⟨⟨k1, k2⟩, ⟨m1, m2⟩, a1, a2⟩ := g3
        obtain ⟨k, rfl⟩ := Int.eq_ofNat_of_zero_le k1
        obtain ⟨m, rfl⟩ := Int.eq_ofNat_of_zero_le m1
        obtain ⟨a, rfl⟩ := Int.eq_ofNat_of_zero_le a1
        have hfl := frame_length b
        have htl := torn_length (frame b) a m (show k ≤ (frame b).length by omega)
        simp only [tearDisk, Int.toNat_natCast]
        refine ⟨by rw [List.length_append, htl]; omega, by rw [List.length_append, htl], readF_grows .., ?_, ?_, ?_⟩
        · intro _ hk
          obtain rfl : k = 0 := by omega
          simp [torn]
        · intro hf hk hm
          obtain rfl : k = b.length + 3 := by omega
          obtain rfl : m = 0 := by omega
          have := readF_frame (b := b) [] g2.1 g2.2
          rw [List.append_nil] at this
          rw [torn_whole, readF_full _ hf, this, readF_nil]
          simp
        · intro hf hn hz
          rw [readF_full _ hf, torn_read g2.1 g2.2 (by omega) (by omega) (by omega) (by omega) (by omega)]
          simp [hf]
    · omega
  · omega
theorem twice_read {b : List UInt8} (h1 : 1 ≤ b.length) (h2 : b.length ≤ 100) : readF (frame b ++ frame b) = ([b, b], 2 * b.length + 6) := by
  have := readF_frame (b := b) [] h1 h2
  rw [List.append_nil] at this
  rw [readF_frame _ h1 h2, this, readF_nil]
  simp; omega
theorem turned_read {b : List UInt8} {j m : Nat} (h2 : b.length ≤ 100) (hj : j < b.length + 2) (hm1 : 1 ≤ m) (hm2 : m ≤ 255) : readF ((frame b).set (1 + j) ((frame b).getD (1 + j) 0 ^^^ UInt8.ofNat m)) = ([], 0) := by
  have hfl := frame_length b
  refine readF_none (firstB_turned h2 (by omega) (by omega) ?_)
  rw [List.getElem?_eq_getElem (by omega)]
  intro hc
  have hg : (frame b).getD (1 + j) 0 = (frame b)[1 + j] := by simp [show 1 + j < (frame b).length by omega]
  rw [hg] at hc
  have := xor_self_ne hm2 (Option.some.inj hc).symm
  omega
end Go.Proofs.Ytcfkmdapadejmaa
