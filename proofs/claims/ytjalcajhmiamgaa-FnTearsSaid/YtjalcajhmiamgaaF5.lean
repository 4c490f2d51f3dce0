/-
  Lists of bodies: compared, marked, and asked for their marks.
-/
import Derived.Test.YtjalcajhmiamgaaF4
namespace Go.Proofs.Ytjalcajhmiamgaa
set_option linter.unusedSimpArgs false
set_option linter.unusedVariables false
set_option linter.unnecessarySimpa false
open Go Go.Abs Go.Proofs
theorem drop_at' {α : Type} (l : List α) {i : Nat} (h : i < l.length) : ∃ o t, l.drop i = o :: t ∧ l[i]? = some o ∧ l.take (i + 1) = l.take i ++ [o] := by
  refine ⟨l[i], l.drop (i + 1), List.drop_eq_getElem_cons h, List.getElem?_eq_getElem h, ?_⟩
  rw [List.take_succ_eq_append_getElem h]
abbrev SmallL (a : List (List UInt8)) : Prop := a.length ≤ 4000 ∧ ∀ b ∈ a, b.length ≤ 4000
theorem c_eqByteSS (a b : List (List UInt8)) (ha : SmallL a) : FCall Try.prog 48 [bblist a, bblist b] fun r H => r = bv (decide (a = b)) ∧ H = [] := by
  intro clk
  refine acall_of_aw Try.func48 rfl ?_
  obtain ⟨ha, hb4⟩ := ha
  by_cases hl : a.length = b.length
  · simp [hl]
    refine codeOk_loop [true, true, false, false, false, true] 0 (fun s => ∃ (i c : Nat), i ≤ a.length ∧ a.take i = b.take i ∧ s = ⟨[bblist a, bblist b, unknown, unknown, unknown, iv .i64 i] ++ List.replicate 21 unknown, [], c⟩)
      (fun s => match s.tmps.getD 5 unknown with | .one (.d (.s (.int _ i))) => a.length - i.toNat | _ => 0) ?_ ?_
    · simp [hl]
      exact ⟨0, Nat.zero_le _, rfl, rfl⟩
    · rintro s ⟨i, c, hi, ht, rfl⟩
      by_cases hlt : i < a.length
      · have hw := wrap_succ (i := i) (by omega)
        have hlt' : i < b.length := by omega
        obtain ⟨x, t, hd, hx, hxt⟩ := drop_at' a hlt
        obtain ⟨y, u, hd', hy, hyt⟩ := drop_at' b hlt'
        have hxl : x.length ≤ 4000 := hb4 x (List.mem_of_getElem? hx)
        simp [hlt, hw]
        refine codeOk_drawA mixed (by kernel_rfl) ?_
        simp [hlt, hlt', hd, hd']
        refine qcall_val (c_eqByteS x y (by omega)) (by simp) (by simp) ?_
        by_cases he : x = y
        · simp [he, hw]
          exact ⟨⟨i + 1, by omega, by rw [hxt, hyt, ht, he], by omega⟩, by omega⟩
        · simp [he]
          rintro rfl; rw [hx] at hy; cases hy; exact he rfl
      · have e : i = a.length := by omega
        subst e
        simp
        rw [List.take_length, hl, List.take_length] at ht
        exact ht
  · have hne : a ≠ b := fun e => hl (by rw [e])
    simp [hl, hne]
set_option maxRecDepth 100000 in
theorem c_eqFramesResult (x y u v : Int) (a b : List (List UInt8)) (ha : SmallL a) : FCall Try.prog 23 [.agg [nc x, .d (.list a.length (bss a)), nc u], .agg [nc y, .d (.list b.length (bss b)), nc v]] fun r H => r = bv (decide (x = y ∧ a = b ∧ u = v)) ∧ H = [] := by
  refine fcall_gather [] id fun clk => acall_of_aw Try.func23 rfl ?_
  by_cases hxy : x = y
  · simp [hxy]
    refine acall_val (c_eqByteSS a b ha) (by simp) (by simp) ?_
    by_cases hab : a = b
    · by_cases huv : u = v <;> simp [hab, huv]
    · simp [hab]
  · simp [hxy]
/-- Bodies marked one behind the other, from k on. -/
def markL (k : Nat) : List (List UInt8) → List (List UInt8)
  | [] => []
  | b :: t => marks k b.length :: markL (k + b.length) t
def tot : List (List UInt8) → Nat
  | [] => 0
  | b :: t => b.length + tot t
def mkP (k : Nat) : List BB → List BB
  | [] => []
  | p :: t => (p.1, marks k p.2.length) :: mkP (k + p.2.length) t
theorem tot_take_succ {l : List (List UInt8)} {i : Nat} {b : List UInt8} (h : l[i]? = some b) : tot (l.take (i + 1)) = tot (l.take i) + b.length := by
  induction l generalizing i with
  | nil => simp at h
  | cons a t ih =>
    match i with
    | 0 => simp at h; subst h; simp [tot]
    | i + 1 => simp only [List.take_succ_cons, tot]; rw [ih (by simpa using h)]; omega
theorem tot_le {l : List (List UInt8)} (h : SmallL l) : tot l ≤ 16000000 := by
  obtain ⟨h1, h2⟩ := h
  have : tot l ≤ l.length * 4000 := by
    clear h1
    induction l with
    | nil => simp [tot]
    | cons b t ih =>
      have := ih fun q hq => h2 q (by simp [hq])
      have := h2 b (by simp)
      simp only [tot, List.length_cons]; omega
  omega
theorem tot_take_le (l : List (List UInt8)) (i : Nat) : tot (l.take i) ≤ tot l := by
  induction l generalizing i with
  | nil => simp
  | cons b t ih =>
    match i with
    | 0 => simp [tot]
    | i + 1 => simp only [List.take_succ_cons, tot]; have := ih i; omega
theorem markL_len (k : Nat) (l : List (List UInt8)) : (markL k l).length = l.length := by
  induction l generalizing k with
  | nil => rfl
  | cons b t ih => simp [markL, ih]
theorem markL_at {k : Nat} {l : List (List UInt8)} {i : Nat} {b : List UInt8} (h : l[i]? = some b) : (markL k l)[i]? = some (marks (k + tot (l.take i)) b.length) := by
  induction l generalizing i k with
  | nil => simp at h
  | cons a t ih =>
    match i with
    | 0 => simp at h; subst h; simp [markL, tot]
    | i + 1 =>
      simp only [markL, List.getElem?_cons_succ, List.take_succ_cons, tot]
      rw [ih (by simpa using h)]
      congr 2; omega
theorem mkP_len (k : Nat) (l : List BB) : (mkP k l).length = l.length := by
  induction l generalizing k with
  | nil => rfl
  | cons b t ih => simp [mkP, ih]
theorem mkP_snd (k : Nat) (l : List BB) : (mkP k l).map (·.2) = markL k (l.map (·.2)) := by
  induction l generalizing k with
  | nil => rfl
  | cons b t ih => simp [mkP, markL, ih]
theorem mkP_snoc (k : Nat) (l : List BB) (p : BB) : mkP k (l ++ [p]) = mkP k l ++ [(p.1, marks (k + tot (l.map (·.2))) p.2.length)] := by
  induction l generalizing k with
  | nil => simp [mkP, tot]
  | cons b t ih => simp only [List.cons_append, mkP, ih, List.map_cons, tot]; congr 3; rw [Nat.add_assoc]
theorem mkP_outs (is : List Nat) (k : Nat) (ps : List BB) : outsL is (mkP k ps) = outsL is ps := by
  induction ps generalizing is k with
  | nil => rfl
  | cons p t ih =>
    cases is with
    | nil => rfl
    | cons i is => simp only [mkP, outsL, ih, marks_length]
theorem outsL_at {is : List Nat} {ps : List BB} {j i : Nat} {p : BB} (hi : is[j]? = some i) (hp : ps[j]? = some p) : (outsL is ps)[j]? = some (.own i p.1 0 p.2.length) := by
  induction is generalizing ps j with
  | nil => simp at hi
  | cons a is ih =>
    cases ps with
    | nil => simp at hp
    | cons q ps =>
      match j with
      | 0 => simp at hi hp; subst hi; subst hp; rfl
      | j + 1 => simp only [outsL, List.getElem?_cons_succ]; exact ih (by simpa using hi) (by simpa using hp)
theorem c_heldByteSS (l : List (List UInt8)) (k : Nat) (hl : SmallL l) (hk : k ≤ 1000000) : FCall Try.prog 50 [bblist (markL k l), iv .i64 k] fun r H => r = iv .i64 ((k + tot l : Nat) : Int) ∧ H = [] := by
  have ht := tot_le hl
  intro clk
  refine acall_of_aw Try.func50 rfl ?_
  simp
  refine codeOk_loop [true, true, false, false, false, true] 0 (fun s => ∃ (i c : Nat), i ≤ l.length ∧ s = ⟨[bblist (markL k l), iv .i64 ((k + tot (l.take i) : Nat) : Int), unknown, unknown, unknown, iv .i64 i] ++ List.replicate 15 unknown, [], c⟩)
    (fun s => match s.tmps.getD 5 unknown with | .one (.d (.s (.int _ i))) => l.length - i.toNat | _ => 0) ?_ ?_
  · simp [markL_len]
    exact ⟨0, by omega, by simp [tot], rfl⟩
  · rintro s ⟨i, c, hi, rfl⟩
    have hll := markL_len k l
    have h1 := hl.1
    by_cases hlt : i < l.length
    · have hw := wrap_succ (i := i) (by omega)
      obtain ⟨b, t, hd, hb, hbt⟩ := drop_at' l hlt
      have hbl := hl.2 b (List.mem_of_getElem? hb)
      have hm := markL_at (k := k) hb
      obtain ⟨x, u, hd', hx, _⟩ := drop_at' (markL k l) (i := i) (by omega)
      rw [hx] at hm; injection hm with hm; subst hm
      have htt := tot_take_le l i
      have hts := tot_take_succ hb
      simp [hll, hlt, hw, hd']
      refine acall_val (c_heldByteS (k + tot (l.take i)) b.length (by omega) (by omega)) (by simp [marks_length]) (by simp) ?_
      have hp : ¬ (((k + tot (l.take i) + b.length : Nat) : Int) < 0) := by omega
      simp [hw]
      exact ⟨fun h => absurd h (by omega), fun _ => ⟨⟨i + 1, by omega, by omega, by omega⟩, by omega⟩⟩
    · have e : i = l.length := by omega
      subst e
      simp [hll]
set_option maxRecDepth 100000 in
theorem c_heldFramesResult (x z : Int) (l : List (List UInt8)) (k : Nat) (hl : SmallL l) (hk : k ≤ 1000000) : FCall Try.prog 27 [.agg [nc x, .d (.list l.length (bss (markL k l))), nc z], iv .i64 k] fun r H => r = iv .i64 ((k + tot l : Nat) : Int) ∧ H = [] := by
  have ht := tot_le hl
  refine fcall_gather [] id fun clk => acall_of_aw Try.func27 rfl ?_
  simp
  refine acall_val (c_heldByteSS l k hl hk) (by simp [markL_len]) (by simp) ?_
  simp
  exact fun h => absurd h (by omega)
theorem c_markByteSS (g : Nat) (ps : List BB) (k : Nat) (hl : SmallL (ps.map (·.2))) (hk : k ≤ 1000000) : RCallS Try.prog 49 [.one (.own 0 g 0 ps.length), iv .i64 k] (⟨g, 22, 1, outsL (List.range' 1 ps.length) ps⟩ :: ps.map bblk) fun r Bs Hn =>
    r = iv .i64 ((k + tot (ps.map (·.2)) : Nat) : Int) ∧ Bs = ⟨g, 22, 1, outsL (List.range' 1 ps.length) ps⟩ :: (mkP k ps).map bblk ∧ Hn = [] := by
  have ht := tot_le hl
  intro clk
  refine acall_of_aw Try.func49 rfl ?_
  have h1 := hl.1
  rw [List.length_map] at h1
  rw [List.map_cons, List.map_map]
  simp
  refine codeOk_loop [true, true, false, false, false, true] (ps.length + 1) (fun s => ∃ (i c : Nat), i ≤ ps.length ∧ s = ⟨[.one (.own 0 g 0 ps.length), iv .i64 ((k + tot ((ps.take i).map (·.2)) : Nat) : Int), unknown, unknown, unknown, iv .i64 i] ++ List.replicate 13 unknown, some ⟨g, 22, 1, outsL (List.range' 1 ps.length) ps⟩ :: (mkP k (ps.take i) ++ ps.drop i).map (fun p => some (bblk p)), c⟩)
    (fun s => match s.tmps.getD 5 unknown with | .one (.d (.s (.int _ i))) => ps.length - i.toNat | _ => 0) ?_ ?_
  · simp [Function.comp_def]
    exact ⟨0, by omega, ⟨by simp [tot], rfl⟩, by simp [mkP, List.take_of_length_le]⟩
  · rintro s ⟨i, c, hi, rfl⟩
    by_cases hlt : i < ps.length
    · have hw := wrap_succ (i := i) (by omega)
      obtain ⟨p, t, hd, hp, hpt⟩ := drop_at' ps hlt
      have hbl := hl.2 p.2 (List.mem_map.2 ⟨p, List.mem_of_getElem? hp, rfl⟩)
      have htt := tot_take_le (ps.map (·.2)) i
      rw [← List.map_take] at htt
      have hmt : (mkP k (ps.take i)).length = i := by rw [mkP_len, List.length_take]; omega
      have hrg : (List.range' 1 ps.length)[i]? = some (i + 1) := by rw [List.getElem?_range' hlt]; congr 1; omega
      have hat := outsL_at hrg hp
      have hat' : (outsL (List.range' 1 ps.length) ps)[i]'(by simp; omega) = .own (i + 1) p.1 0 p.2.length := by
        have := hat; rw [List.getElem?_eq_getElem (by simp; omega)] at this; exact Option.some.inj this
      have hts : tot ((ps.map (·.2)).take (i + 1)) = tot ((ps.map (·.2)).take i) + p.2.length := tot_take_succ (by rw [List.getElem?_map, hp]; rfl)
      have hdl : ps.drop (i + 1) = t := by
        have := congrArg (List.drop 1) hd
        simpa [List.drop_drop] using this
      rw [List.map_take] at htt
      have hset : ((mkP k (ps.take i)).map (fun p => some (bblk p)) ++ (ps.drop i).map fun p => some (bblk p)).set i (some ⟨p.1, 5, 1, bcs (marks (k + tot ((ps.map (·.2)).take i)) p.2.length)⟩) =
          (mkP k (ps.take (i + 1))).map (fun p => some (bblk p)) ++ (ps.drop (i + 1)).map fun p => some (bblk p) := by
        rw [hpt, mkP_snoc, hd, hdl, List.set_append_right _ _ (by rw [List.length_map, hmt]; exact Nat.le_refl _), List.length_map, hmt, Nat.sub_self, List.map_take]
        simp [bblk]
      simp [hlt, hw, hat, hat']
      refine acall_ref (k := i + 1) (c_markByteS (e := 5) p.2 (k + tot ((ps.map (·.2)).take i)) p.1 (by omega) (by omega)) (by simp) ?_ ?_
      · rw [List.getElem?_cons_succ, List.getElem?_append_right (by simp [hmt])]
        simp [hmt, hd, bblk]
        exact hp
      rintro r B Hn c' ⟨rfl, rfl, rfl⟩ _
      simp [hw]
      refine ⟨⟨i + 1, by omega, ⟨by omega, by omega⟩, ?_⟩, by omega⟩
      rw [← List.map_drop, ← List.map_drop, hset, List.take_of_length_le]
      simp [mkP_len]; omega
    · have e : i = ps.length := by omega
      subst e
      simp
      exact ⟨⟨g, 22, 1, outsL (List.range' 1 ps.length) ps⟩ :: (mkP k ps).map bblk, [], by simp [Function.comp_def], by simp [mkP_len], rfl, rfl, rfl⟩
end Go.Proofs.Ytjalcajhmiamgaa
