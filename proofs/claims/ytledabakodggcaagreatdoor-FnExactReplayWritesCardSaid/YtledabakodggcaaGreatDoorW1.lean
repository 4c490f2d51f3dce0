/-
  What the laws' own helpers do: they copy, compare, mark and ask marks.
-/
import Derived.Test.YtledabakodggcaaGreatDoorTy
import Derived.Test.YtledabakodggcaaGreatDoorK3
namespace Go.Proofs.YtledabakodggcaaGreatDoor
set_option maxRecDepth 100000
set_option linter.unusedSimpArgs false
set_option linter.unusedVariables false
set_option linter.unnecessarySimpa false
open Go Go.Abs Go.Proofs

theorem c_l1In (n lo hi : Int) : FCall Tryz.prog 80 [iv .i64 n, iv .i64 lo, iv .i64 hi] fun r H => r = bv (decide (lo ≤ n) && decide (n ≤ hi)) ∧ H = [] := by
  intro clk
  refine acall_of_aw Tryz.func80 rfl ?_
  by_cases h : lo ≤ n <;> simp [h]

theorem take_set_append (bs : List UInt8) (i : Nat) (h : i < bs.length) : (bs.take i ++ List.replicate (bs.length - i) 0).set i bs[i] = bs.take (i + 1) ++ List.replicate (bs.length - (i + 1)) 0 := by
  have h1 : bs.length - i = (bs.length - (i + 1)) + 1 := by omega
  rw [h1, List.replicate_succ, List.set_append_right _ _ (by rw [List.length_take]; omega), List.take_succ_eq_append_getElem h]
  have : i - (bs.take i).length = 0 := by rw [List.length_take]; omega
  rw [this, List.append_assoc]
  rfl

theorem c_toByteS (bs : List UInt8) (hn : bs.length ≤ 1048576) : FCall Tryz.prog 16 [blist bs] fun r H => ∃ g, r = .one (.own 0 g 0 bs.length) ∧ H = [some ⟨g, 5, 1, bcs bs⟩] := by
  intro clk
  refine acall_of_aw Tryz.func16 rfl ?_
  simp
  refine ⟨⟨by omega, by omega⟩, ?_⟩
  refine codeOk_loop [true, false, false, true, true] 1 (fun s => ∃ (i g c : Nat), i ≤ bs.length ∧ s = ⟨[blist bs, unknown, unknown, .one (.own 0 g 0 bs.length), iv .i64 i] ++
    List.replicate 17 unknown, [some ⟨g, 5, 1, bcs (bs.take i ++ List.replicate (bs.length - i) 0)⟩], c⟩)
    (fun s => match s.tmps.getD 4 unknown with | .one (.d (.s (.int _ i))) => bs.length - i.toNat | _ => 0) ?_ ?_
  · simp
    exact ⟨0, Nat.zero_le _, _, ⟨rfl, rfl⟩, rfl, by simp⟩
  · rintro s ⟨i, g, c, hi, rfl⟩
    by_cases hlt : i < bs.length
    · have hw := wrap_succ (i := i) (by omega)
      simp [hlt, hw]
      exact ⟨by omega, ⟨i + 1, by omega, _, ⟨rfl, by omega⟩, rfl, take_set_append bs i hlt⟩, by omega⟩
    · have e : i = bs.length := by omega
      subst e
      simp

theorem take_snoc_eq {a b : List UInt8} {i : Nat} (ha : i < a.length) (hb : i < b.length) (h : a.take i = b.take i) (he : a[i] = b[i]) : a.take (i + 1) = b.take (i + 1) := by
  rw [List.take_succ_eq_append_getElem ha, List.take_succ_eq_append_getElem hb, h, he]

theorem c_eqByteS (a b : List UInt8) (ha : a.length ≤ 1048576) : FCall Tryz.prog 19 [blist a, blist b] fun r H => r = bv (decide (a = b)) ∧ H = [] := by
  intro clk
  refine acall_of_aw Tryz.func19 rfl ?_
  by_cases hl : a.length = b.length
  · simp [hl]
    refine codeOk_loop [true, true, false, false, false, true] 0 (fun s => ∃ (i c : Nat), i ≤ a.length ∧ a.take i = b.take i ∧ s = ⟨[blist a, blist b, unknown, unknown, unknown, iv .i64 i] ++ List.replicate 20 unknown, [], c⟩)
      (fun s => match s.tmps.getD 5 unknown with | .one (.d (.s (.int _ i))) => a.length - i.toNat | _ => 0) ?_ ?_
    · simp [hl]
      exact ⟨0, Nat.zero_le _, rfl, rfl⟩
    · rintro s ⟨i, c, hi, ht, rfl⟩
      by_cases hlt : i < a.length
      · have hw := wrap_succ (i := i) (by omega)
        have hlt' : i < b.length := by omega
        simp [hlt, hw]
        refine codeOk_draw [0, 1, 2, 3, 4, 5, 6, 7, 8] mixed rfl rfl (by kernel_rfl) ?_
        by_cases he : a[i] = b[i]
        · simp [hlt, hlt', he, hw]
          exact ⟨⟨i + 1, by omega, take_snoc_eq hlt hlt' ht he, by omega⟩, by omega⟩
        · simp [hlt, hlt', he]
          intro e; subst e; exact he rfl
      · have e : i = a.length := by omega
        subst e
        simp
        rw [List.take_length, hl, List.take_length] at ht
        exact ht
  · have hne : a ≠ b := fun e => hl (by rw [e])
    simp [hl, hne]

/-- The marks: one number behind another, from k on. -/
def marks : Nat → Nat → List UInt8
  | _, 0 => []
  | k, n + 1 => UInt8.ofNat (k % 256) :: marks (k + 1) n
theorem marks_length (k n : Nat) : (marks k n).length = n := by
  induction n generalizing k with
  | zero => rfl
  | succ n ih => simp [marks, ih]
theorem marks_at (k n i : Nat) (h : i < n) : (marks k n)[i]? = some (UInt8.ofNat ((k + i) % 256)) := by
  induction n generalizing k i with
  | zero => omega
  | succ n ih =>
    match i with
    | 0 => simp [marks]
    | i + 1 => simp only [marks, List.getElem?_cons_succ]; rw [ih (k + 1) i (by omega)]; congr 3; omega
theorem u8_wrap (k : Nat) : IntKind.u8.wrap (k : Int) = ((UInt8.ofNat (k % 256)).toNat : Int) := by
  rw [wrap_u8, UInt8.toNat_ofNat']
  omega

theorem take_marks_set (bs : List UInt8) (k i : Nat) (h : i < bs.length) :
    (marks k i ++ bs.drop i).set i (UInt8.ofNat ((k + i) % 256)) = marks k (i + 1) ++ bs.drop (i + 1) := by
  apply List.ext_getElem?
  intro j
  simp only [List.getElem?_set, List.getElem?_append, marks_length, List.length_append, List.length_drop, List.getElem?_drop]
  by_cases h1 : i = j
  · subst h1
    rw [if_pos rfl, if_pos (by omega), if_pos (by omega), marks_at _ _ _ (by omega)]
  · rw [if_neg h1]
    by_cases h2 : j < i
    · rw [if_pos h2, if_pos (by omega), marks_at _ _ _ h2, marks_at _ _ _ (by omega)]
    · rw [if_neg h2, if_neg (by omega)]; congr 1; omega

theorem c_markByteS {e : Nat} (bs : List UInt8) (k g : Nat) (hn : bs.length ≤ 1048576) (hk : k ≤ 1073741824) : RCall Tryz.prog 20 [.one (.own 0 g 0 bs.length), iv .i64 k] ⟨g, e, 1, bcs bs⟩ fun r B Hn =>
    r = iv .i64 ((k + bs.length : Nat) : Int) ∧ B = ⟨g, e, 1, bcs (marks k bs.length)⟩ ∧ Hn = [] := by
  intro clk
  refine acall_of_aw Tryz.func20 rfl ?_
  simp
  refine codeOk_loop [true, true, false, false, false, true] 1 (fun s => ∃ (i c : Nat), i ≤ bs.length ∧ s = ⟨[.one (.own 0 g 0 bs.length), iv .i64 ((k + i : Nat) : Int), unknown, unknown, unknown, iv .i64 i] ++ List.replicate 14 unknown,
      [some ⟨g, e, 1, bcs (marks k i ++ bs.drop i)⟩], c⟩)
    (fun s => match s.tmps.getD 5 unknown with | .one (.d (.s (.int _ i))) => bs.length - i.toNat | _ => 0) ?_ ?_
  · simp
    exact ⟨0, Nat.zero_le _, by omega, rfl⟩
  · rintro s ⟨i, c, hi, rfl⟩
    by_cases hlt : i < bs.length
    · have hw := wrap_succ (i := i) (by omega)
      have hw2 := wrap_succ (i := k + i) (by omega)
      have hb := u8_wrap (k + i)
      simp only [Int.natCast_add] at hw2 hb
      simp [hlt, hw, hw2, hb, marks_length]
      refine ⟨by omega, ⟨i + 1, by omega, ⟨by omega, by omega⟩, ?_⟩, by omega⟩
      have he : ((k : Int) + i) % 256 = ((UInt8.ofNat ((k + i) % 256)).toNat : Int) := by rw [UInt8.toNat_ofNat']; omega
      rw [he, bcs_set, take_marks_set bs k i hlt]
    · have e : i = bs.length := by omega
      subst e
      simp

/-- The marks are there. -/
theorem c_heldByteS (k n : Nat) (hn : n ≤ 1048576) (hk : k ≤ 1073741824) : FCall Tryz.prog 49 [blist (marks k n), iv .i64 k] fun r H => r = iv .i64 ((k + n : Nat) : Int) ∧ H = [] := by
  intro clk
  refine acall_of_aw Tryz.func49 rfl ?_
  simp
  refine codeOk_loop [true, true, false, false, false, true] 0 (fun s => ∃ (i c : Nat), i ≤ n ∧ s = ⟨[blist (marks k n), iv .i64 ((k + i : Nat) : Int), unknown, unknown, unknown, iv .i64 i] ++ List.replicate 16 unknown, [], c⟩)
    (fun s => match s.tmps.getD 5 unknown with | .one (.d (.s (.int _ i))) => n - i.toNat | _ => 0) ?_ ?_
  · simp
    exact ⟨0, Nat.zero_le _, by omega, rfl⟩
  · rintro s ⟨i, c, hi, rfl⟩
    by_cases hlt : i < n
    · have hw := wrap_succ (i := i) (by omega)
      have hw2 := wrap_succ (i := k + i) (by omega)
      have hb := u8_wrap (k + i)
      have hm := marks_at k n i hlt
      simp only [Int.natCast_add] at hw2 hb
      have hm2 : (marks k n)[i]'(by rw [marks_length]; exact hlt) = UInt8.ofNat ((k + i) % 256) := by
        rw [List.getElem?_eq_getElem (by rw [marks_length]; exact hlt)] at hm; exact Option.some.inj hm
      have he : (((UInt8.ofNat ((k + i) % 256)).toNat : Nat) : Int) = ((k : Int) + i) % 256 := by rw [UInt8.toNat_ofNat']; omega
      simp [hlt, hw, hw2, hb, marks_length, hm2]
      exact ⟨⟨i + 1, by omega, by omega, by omega⟩, by omega⟩
    · have e : i = n := by omega
      subst e
      simp [marks_length]



/-- Where there are no bytes nothing is marked. -/
theorem c_markByteSn (k : Nat) : FCall Tryz.prog 20 [blist [], iv .i64 k] fun r H => r = iv .i64 (k : Int) ∧ H = [] := by
  intro clk
  refine acall_of_aw Tryz.func20 rfl ?_
  simp
  refine codeOk_loop [true, true, false, false, false, true] 0 (fun s => ∃ (c : Nat), s = ⟨[blist [], iv .i64 (k : Int), unknown, unknown, unknown, iv .i64 0] ++ List.replicate 14 unknown, [], c⟩) (fun _ => 0) ?_ ?_
  · simp
  · rintro s ⟨c, rfl⟩
    simp
end Go.Proofs.YtledabakodggcaaGreatDoor
