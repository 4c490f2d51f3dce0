/-
  Loops; calls of functions that write nothing of their caller's, and of those that write one array of it. No program's text.
-/
import Derived.Test.YtjalcajhmiamgaaAbs12
namespace Go.Abs
set_option linter.unusedSimpArgs false
set_option linter.unusedVariables false
set_option linter.unnecessarySimpa false
open Go

/-- What a loop's head keeps: the slots that are told, the first m arrays. -/
def keepA : List Bool → List AV → List AV
  | b :: bs, x :: xs => (if b then x else unknown) :: keepA bs xs
  | [], _ :: xs => unknown :: keepA [] xs
  | _, [] => []
def ASt.clean (mask : List Bool) (m : Nat) (st : ASt) : ASt := ⟨keepA mask st.tmps, st.heap.take m, st.clk⟩

section
variable {P : Program} {w0 w : World} {E0 E : Env} {H0 : AHeap} {st : ASt} {a : Act} {o : Oper}

theorem length_keepA : ∀ (bs : List Bool) (xs : List AV), (keepA bs xs).length = xs.length
  | [], [] => rfl
  | [], _ :: xs => by simp [keepA, length_keepA [] xs]
  | _ :: bs, [] => rfl
  | _ :: bs, _ :: xs => by simp [keepA, length_keepA bs xs]
theorem keepA_at : ∀ (bs : List Bool) (xs : List AV) (j : Nat) (x : AV), (keepA bs xs)[j]? = some x → x = unknown ∨ xs[j]? = some x
  | [], [], j, x, h => by simp [keepA] at h
  | [], y :: xs, 0, x, h => by simp [keepA] at h; exact .inl h.symm
  | [], y :: xs, j + 1, x, h => by simp [keepA] at h; simpa using keepA_at [] xs j x h
  | _ :: bs, [], j, x, h => by simp [keepA] at h
  | b :: bs, y :: xs, 0, x, h => by
    simp [keepA] at h
    cases b
    · simp at h; exact .inl h.symm
    · simp at h; simp [h]
  | b :: bs, y :: xs, j + 1, x, h => by simp [keepA] at h; simpa using keepA_at bs xs j x h

theorem InvE.clean (h : InvE w0 E0 H0 st a w E) (mask : List Bool) (m : Nat) : InvE w0 E0 H0 (st.clean mask m) a w ⟨E.I, E.β.take m, E.clk⟩ := by
  have htake : ∀ {α : Type} {l : List α} {k : Nat} {x : α}, (l.take m)[k]? = some x → l[k]? = some x := by
    intro α l k x hx
    rw [List.getElem?_take] at hx
    split at hx
    · exact hx
    · cases hx
  have hle : Env.Le w E w ⟨E.I, E.β.take m, E.clk⟩ := ⟨fun b hb => ⟨hb, rfl⟩, Nat.le_refl _, fun k i' hi => .inl (htake hi)⟩
  refine ⟨h.dfr, h.le.trans hle, h.clk, ⟨by simp [ASt.clean, h.sim.len], fun k i hi => h.sim.gens k i (htake hi), h.sim.I, ?_, ?_, fun g cs hg => (h.sim.glob g cs hg).mono hle.I⟩, ⟨by simp [ASt.clean, length_keepA, h.rel.1], ?_⟩, h.frm, ?_, h.I0⟩
  · intro k B hB
    have hk : k < m := by
      rcases Nat.lt_or_ge k m with h | h
      · exact h
      · simp only [ASt.clean] at hB
        rw [List.getElem?_take, if_neg (by omega)] at hB
        cases hB
    obtain ⟨i, hi, hok⟩ := h.sim.blk k B (htake hB)
    exact ⟨i, by simp only; rw [List.getElem?_take, if_pos hk]; exact hi, hok.mono_same hle (fun _ _ hI => hI) (fun _ _ => rfl)⟩
  · intro k k' B B' i i' b hB hB' hi hi' hb hb'
    exact h.sim.apart k k' B B' i i' b (htake hB) (htake hB') (htake hi) (htake hi') hb hb'
  · intro j x v hx hv
    rcases keepA_at _ _ _ _ hx with rfl | hx
    · exact rel_unknown _
    · exact (h.rel.2 j x v hx hv).mono hle
  · rintro b ⟨k, B, i, hB, hi, hb⟩
    exact h.live b ⟨k, B, i, htake hB, htake hi, hb⟩

theorem least (p : Nat → Prop) (h : ∃ n, p n) : ∃ n, p n ∧ ∀ m, p m → n ≤ m := by
  obtain ⟨n, hn⟩ := h
  induction n using Nat.strongRecOn with
  | _ n ih =>
    by_cases hx : ∃ m, m < n ∧ p m
    · obtain ⟨m, hm, hp⟩ := hx
      exact ih m hm hp
    · exact ⟨n, hn, fun m hp => Nat.le_of_not_lt fun hlt => hx ⟨m, hlt, hp⟩⟩

theorem codeOk_loop {c : Code} {Q : Exit → ASt → Prop} (mask : List Bool) (m : Nat) (I : ASt → Prop) (μ : ASt → Nat) (h0 : I (st.clean mask m))
    (round : ∀ s, I s → AW P c (AExit.then (fun s' => I (s'.clean mask m) ∧ μ (s'.clean mask m) < μ s) Q) s) : CodeOk P (.loop c) Q st := by
  intro w0 E0 H0 a w ⟨E, hE⟩
  classical
  let S : Act → World → Nat → Prop := fun a w n => ∃ s, I s ∧ Inv w0 E0 H0 s a w ∧ μ s = n
  refine wp_loop (fun a w => ∃ n, S a w n) (fun a w => if h : ∃ n, S a w n then Classical.choose (least _ h) else 0) ⟨_, _, h0, ⟨_, hE.clean mask m⟩, rfl⟩ ?_
  intro a w hS
  obtain ⟨s, hs, hI, hμ⟩ := (Classical.choose_spec (least _ hS)).1
  refine wp_mono (aw_sound c _ _ (round s hs) w0 E0 H0 a w hI) ?_
  rintro e a' w' ⟨s', hq, E', hE'⟩
  cases e with
  | normal =>
    obtain ⟨hI', hlt⟩ := hq
    have hS' : S a' w' (μ (s'.clean mask m)) := ⟨_, hI', ⟨_, hE'.clean mask m⟩, rfl⟩
    refine ⟨⟨_, hS'⟩, ?_⟩
    have hx : ∃ n, S a' w' n := ⟨_, hS'⟩
    rw [dif_pos hx, dif_pos hS]
    exact Nat.lt_of_le_of_lt ((Classical.choose_spec (least _ hx)).2 _ hS') (by rw [← hμ]; exact hlt)
  | exit id => exact ⟨s', hq, E', hE'⟩
  | goto l => exact ⟨s', hq, E', hE'⟩
  | ret => exact ⟨s', hq, E', hE'⟩
  | panic ch => exact ⟨s', hq, E', hE'⟩
  | outgrown => exact ⟨s', hq, E', hE'⟩

/-! Calls -/
def DC.flat : DC → Bool
  | .s _ | .nil => true
  | _ => false
def AC.flat : AC → Bool
  | .d c => c.flat
  | .any => true
  | _ => true
def flatL (cs : List AC) : Prop := ∀ c ∈ cs, c.flat = true
def AV.flat : AV → Prop
  | .one c => c.flat = true
  | .agg cs => flatL cs
  | .tup vs => ∀ v ∈ vs, match v with
    | .one c => c.flat = true
    | .agg cs => flatL cs
    | .tup _ => False
def flatB : Option ABlk → Prop
  | some B => flatL B.cells
  | none => True
def flatH (H : AHeap) : Prop := ∀ b ∈ H, flatB b

/-- The numbers of own arrays turned. -/
def AC.ren (ρ : Nat → Nat) : AC → AC
  | .own k g off n => .own (ρ k) g off n
  | .ptr k g off => .ptr (ρ k) g off
  | .mp k g => .mp (ρ k) g
  | c => c
def AV.ren1 (ρ : Nat → Nat) : AV → AV
  | .one c => .one (c.ren ρ)
  | .agg cs => .agg (cs.map (AC.ren ρ))
  | x => x
def AV.ren (ρ : Nat → Nat) : AV → AV
  | .tup vs => .tup (vs.map (AV.ren1 ρ))
  | x => x.ren1 ρ
def ABlk.ren (ρ : Nat → Nat) (B : ABlk) : ABlk := { B with cells := B.cells.map (AC.ren ρ) }

/-- The nil slice as an empty one. -/
def DC.denil : DC → DC
  | .nil => .list 0 []
  | c => c
theorem MapAt.ren {w : World} {B : ABlk} {b : Nat} {ρ : Nat → Nat} (h : MapAt w B b) : MapAt w (B.ren ρ) b := by
  obtain ⟨h1, es, c, h2, h3⟩ := h
  exact ⟨h1, es, c, by simp [ABlk.ren, h2, AC.ren], h3⟩
theorem MapAt.unren {w : World} {B : ABlk} {b : Nat} {ρ : Nat → Nat} (h : MapAt w (B.ren ρ) b) : MapAt w B b := by
  obtain ⟨h1, es, c, h2, h3⟩ := h
  refine ⟨h1, es, c, ?_, h3⟩
  simp only [ABlk.ren] at h2
  match hc : B.cells with
  | [] => rw [hc] at h2; simp at h2
  | [x] =>
    rw [hc] at h2
    simp at h2
    cases x <;> simp [AC.ren] at h2
    rw [h2.1, h2.2]
  | _ :: _ :: _ => rw [hc] at h2; simp at h2
theorem denil_rel {w : World} {I : Nat → Prop} {c : DC} {v : Value} (h : RelD w I c v) : RelD w I c.denil v := by
  cases c with
  | nil => cases h with | nil => exact RelD.list (fun _ => undef) (fun h => absurd rfl h) (fun j h => absurd h (by simp)) (Nat.le_refl _) (Nat.zero_le _)
  | s v => exact h
  | list n cs => exact h
  | rptr cs => exact h
  | map es c => exact h
/-- What a value is as data, its own arrays as they are now: of plain cells. -/
def snap1 (H : AHeap) : AC → Option DC
  | .d c => some c.denil
  | .own k g off n => match blkAt H k g with
    | some B => if off + n * B.size ≤ B.cells.length then (((B.cells.drop off).take (n * B.size)).mapM AC.dc?).map (DC.list n) else none
    | none => none
  | .ptr k g off => match blkAt H k g with
    | some B => ((B.cells.drop off).mapM AC.dc?).map DC.rptr
    | none => none
  | .mp k g => (objAt H k g).map fun p => .map p.1 p.2
  | .obj _ _ => none
  | .any => none
/-- What a value is as data, its own arrays as they are now; they may hold slices of own arrays of plain cells. -/
def snapC (H : AHeap) : AC → Option DC
  | .own k g off n => match blkAt H k g with
    | some B => if off + n * B.size ≤ B.cells.length then (match ((B.cells.drop off).take (n * B.size)).mapM AC.dc? with
      | some ds => some (DC.list n ds)
      | none => (((B.cells.drop off).take (n * B.size)).mapM (snap1 H)).map (DC.list n)) else none
    | none => none
  | c => snap1 H c
def snapV (H : AHeap) : AV → Option AV
  | .one c => (snapC H c).map fun d => .one (.d d)
  | .agg cs => (cs.mapM (snapC H)).map fun ds => .agg (ds.map .d)
  | .tup _ => none

def FPost (post : AV → AHeap → Prop) (r : AV) (H : AHeap) (_ : Nat) : Prop := r.flat ∧ flatH H ∧ post r H
def FCall (P : Program) (f : FuncId) (args : List AV) (post : AV → AHeap → Prop) : Prop :=
  ∀ clk, ACall P f args [] clk (FPost post)

theorem flat_rel {w : World} {E E' : Env} {ρ : Nat → Nat} {c : AC} {v : Value} (hf : c.flat = true) (hclk : E.clk ≤ E'.clk)
    (hβ : ∀ k i, E'.β[ρ k]? = some i → E.β[k]? = some i) (h : RelC w E c v) : RelC w E' (c.ren ρ) v := by
  cases c with
  | d c =>
    cases c with
    | s u => cases h with | s hs => exact RelD.s hs
    | nil => cases h with | nil => exact RelD.nil
    | list => simp [AC.flat, DC.flat] at hf
    | rptr => simp [AC.flat, DC.flat] at hf
    | map => simp [AC.flat, DC.flat] at hf
  | own k g off n => exact ⟨h.1, Nat.lt_of_lt_of_le h.2.1 hclk, fun i hi => h.2.2 i (hβ k i hi)⟩
  | ptr k g off => exact ⟨h.1, Nat.lt_of_lt_of_le h.2.1 hclk, fun i hi => h.2.2 i (hβ k i hi)⟩
  | mp k g => exact ⟨h.1, Nat.lt_of_lt_of_le h.2.1 hclk, fun i hi => h.2.2 i (hβ k i hi)⟩
  | obj => exact h
  | any => exact h

theorem flat_rels {w : World} {E E' : Env} {ρ : Nat → Nat} {cs : List AC} {vs : List Value} (hf : ∀ c ∈ cs, c.flat = true) (hclk : E.clk ≤ E'.clk)
    (hβ : ∀ k i, E'.β[ρ k]? = some i → E.β[k]? = some i) (h : RelCs w E cs vs) : RelCs w E' (cs.map (AC.ren ρ)) vs := by
  refine ⟨by simp [h.1], fun j c v hc hv => ?_⟩
  rw [List.getElem?_map] at hc
  cases hj : cs[j]? with
  | none => simp [hj] at hc
  | some c0 =>
    simp [hj] at hc; subst hc
    obtain ⟨h1, h2⟩ := h.2 j c0 v hj hv
    exact ⟨h1, flat_rel (hf c0 (List.mem_of_getElem? hj)) hclk hβ h2⟩
theorem flat_relV1 {w : World} {E E' : Env} {ρ : Nat → Nat} {x : AV} {v : Value} (hf : x.flat) (hclk : E.clk ≤ E'.clk)
    (hβ : ∀ k i, E'.β[ρ k]? = some i → E.β[k]? = some i) (h : RelV1 w E x v) : RelV1 w E' (x.ren1 ρ) v := by
  cases x with
  | one c => exact flat_rel hf hclk hβ h
  | agg cs => obtain ⟨l, rfl, hr⟩ := h; exact ⟨l, rfl, flat_rels hf hclk hβ hr⟩
  | tup vs => exact h
theorem flat_relV {w : World} {E E' : Env} {ρ : Nat → Nat} {x : AV} {v : Value} (hf : x.flat) (hclk : E.clk ≤ E'.clk)
    (hβ : ∀ k i, E'.β[ρ k]? = some i → E.β[k]? = some i) (h : RelV w E x v) : RelV w E' (x.ren ρ) v := by
  cases x with
  | one c => exact flat_relV1 (x := .one c) hf hclk hβ h
  | agg cs => exact flat_relV1 (x := .agg cs) hf hclk hβ h
  | tup vs =>
    obtain ⟨l, rfl, hl, hr⟩ := h
    refine ⟨l, rfl, by simp [hl], fun j x u hx hu => ?_⟩
    rw [List.getElem?_map] at hx
    cases hj : vs[j]? with
    | none => simp [hj] at hx
    | some y =>
      simp [hj] at hx; subst hx
      have hy := hf y (List.mem_of_getElem? hj)
      refine flat_relV1 ?_ hclk hβ (hr j y u hj hu)
      cases y with
      | one c => exact hy
      | agg cs => exact hy
      | tup _ => exact hy.elim

theorem mapM_dc : ∀ {cs : List AC} {ds : List DC}, cs.mapM AC.dc? = some ds → cs = ds.map .d
  | [], ds, h => by simp at h; subst h; rfl
  | c :: cs, ds, h => by
    rw [List.mapM_cons] at h
    cases hc : AC.dc? c with
    | none => simp [hc] at h
    | some d =>
      cases hm : cs.mapM AC.dc? with
      | none => simp [hc, hm] at h
      | some es =>
        simp [hc, hm] at h
        subst h
        cases c with
        | d x => simp [AC.dc?] at hc; subst hc; simp [← mapM_dc hm]
        | own => simp [AC.dc?] at hc
        | ptr => simp [AC.dc?] at hc
        | mp => simp [AC.dc?] at hc
        | obj => simp [AC.dc?] at hc
        | any => simp [AC.dc?] at hc

theorem readable_rel {w : World} {E : Env} {I : Nat → Prop} {ad : Addr} {ds : List DC} (hI : ∀ b, E.I b → I b) (h : Readable w E ad (ds.map .d)) :
    ∃ f : Nat → Value, (∀ j, j < ds.length → w.cell? (ad.add j) = some (f j)) ∧ ∀ (j : Nat) (h : j < ds.length), RelD w I ds[j] (f j) := by
  obtain ⟨vs, hr, hc⟩ := h
  have hl : ds.length = vs.length := by simpa using hr.1
  refine ⟨fun j => vs.getD j undef, fun j hj => hc j _ ?_, fun j hj => ?_⟩
  · show vs[j]? = some (vs.getD j undef)
    rw [List.getD_eq_getElem?_getD, List.getElem?_eq_getElem (by omega)]; rfl
  · have := (hr.2 j (.d ds[j]) vs[j] (by simp [hj]) (List.getElem?_eq_getElem (by omega))).2
    have e : vs.getD j undef = vs[j] := by rw [List.getD_eq_getElem?_getD, List.getElem?_eq_getElem (by omega)]; rfl
    simp only [e]
    exact RelD.mono (fun b hb => ⟨hI b hb, rfl⟩) this

theorem snap1_rel' (hs : SimH w E st.heap) {I : Nat → Prop} (hEI : ∀ b, E.I b → I b) (hI : ∀ b, LiveB E st.heap b → I b) {β : List BI} {q : Nat} {c : AC} {d : DC} {v : Value} (h : snap1 st.heap c = some d) (hr : RelC w E c v) : RelC w ⟨I, β, q⟩ (.d d) v := by
  cases c with
  | d c => simp [snap1] at h; subst h; exact RelD.mono (fun b hb => ⟨hEI b hb, rfl⟩) (denil_rel hr)
  | own k g off n =>
    simp only [snap1] at h
    split at h
    · rename_i B hB
      split at h
      · rename_i hle
        cases hm : ((B.cells.drop off).take (n * B.size)).mapM AC.dc? with
        | none => simp [hm] at h
        | some ds =>
          simp [hm] at h; subst h
          obtain ⟨hk, hg⟩ := blkAt_some hB
          obtain ⟨i, hi, hok⟩ := hs.blk k B hk
          obtain ⟨ad, cap, hv, h1, h2, h3, h4⟩ := hr.2.2 i hi (hok.1.trans hg)
          have hds := mapM_dc hm
          subst hv
          cases hb : i.blk with
          | none =>
            rw [hb] at h4
            have hn : n = 0 := by omega
            subst hn
            have : ds = [] := by simpa using hds.symm
            subst this
            exact RelD.list (fun _ => undef) (fun h => absurd rfl h) (fun j h => absurd h (by simp)) h1 h2
          | some b =>
            rw [hb] at h4
            have hrd := (hok.readable (blkAt_size hB) hb off).take (n * B.size)
            rw [hds] at hrd
            obtain ⟨f, hf1, hf2⟩ := readable_rel (I := I) hEI hrd
            refine RelD.list f (fun hne => ?_) hf2 h1 h2
            have hpos : 0 < cap := by
              rcases Nat.eq_zero_or_pos cap with h0 | h0
              · have : n = 0 := by omega
                subst this
                have : ds = [] := by simpa using hds.symm
                exact absurd this hne
              · exact h0
            exact ⟨_, h4 hpos, hI _ ⟨k, B, i, hk, hi, hb⟩, hf1⟩
      · cases h
    · cases h
  | ptr k g off =>
    simp only [snap1] at h
    split at h
    · rename_i B hB
      cases hm : (B.cells.drop off).mapM AC.dc? with
      | none => simp [hm] at h
      | some ds =>
        simp [hm] at h; subst h
        obtain ⟨hk, hg⟩ := blkAt_some hB
        obtain ⟨i, hi, hok⟩ := hs.blk k B hk
        obtain ⟨b, hb, hv⟩ := hr.2.2 i hi (hok.1.trans hg)
        subst hv
        have hrd := hok.readable (blkAt_size hB) hb off
        rw [mapM_dc hm] at hrd
        obtain ⟨f, hf1, hf2⟩ := readable_rel (I := I) hEI hrd
        exact RelD.rptr f (hI _ ⟨k, B, i, hk, hi, hb⟩) hf1 hf2
    · cases h
  | mp k g =>
    simp only [snap1] at h
    cases hB : objAt st.heap k g with
    | none => simp [hB] at h
    | some p =>
      obtain ⟨es, cc⟩ := p
      simp [hB] at h; subst h
      obtain ⟨B, hk, hg, hsz, hel, hcs⟩ := objAt_some hB
      obtain ⟨i, hi, hok⟩ := hs.blk k B hk
      obtain ⟨b, hb, hv⟩ := hr.2.2 i hi (hok.1.trans hg)
      subst hv
      obtain ⟨_, _, _, _, h5⟩ := hok
      rw [hb] at h5
      obtain ⟨_, ⟨C, _, _, _, hrel⟩ | ⟨_, es', c', hc', hm⟩⟩ := h5
      · have h1 := hrel.1
        rw [hcs] at hrel h1
        match hC : C.take [AC.obj es cc].length with
        | [] => rw [hC] at h1; simp at h1
        | u :: us =>
          rw [hC] at hrel
          exact (hrel.2 0 (.obj es cc) u rfl rfl).2.elim
      · rw [hcs] at hc'
        cases hc'
        exact RelD.map (hI _ ⟨k, B, i, hk, hi, hb⟩) hm
  | obj => simp [snap1] at h
  | any => simp [snap1] at h

theorem mapM_len {α β : Type} {f : α → Option β} : ∀ {l : List α} {m : List β}, l.mapM f = some m → l.length = m.length ∧ ∀ (j : Nat) y, m[j]? = some y → ∃ x, l[j]? = some x ∧ f x = some y
  | [], m, h => by simp at h; subst h; exact ⟨rfl, fun j y hy => by simp at hy⟩
  | x :: xs, m, h => by
    rw [List.mapM_cons] at h
    cases h1 : f x with
    | none => simp [h1] at h
    | some y =>
      cases h2 : xs.mapM f with
      | none => simp [h1, h2] at h
      | some ys =>
        simp [h1, h2] at h; subst h
        obtain ⟨e, he⟩ := mapM_len h2
        refine ⟨by simp [e], fun j z hz => ?_⟩
        match j with
        | 0 => simp at hz; subst hz; exact ⟨x, rfl, h1⟩
        | j + 1 => simpa using he j z (by simpa using hz)
theorem dc_snap1 {c : AC} {d : DC} (h : c.dc? = some d) : c = .d d := by
  cases c <;> simp [AC.dc?] at h; rw [h]
/-- A snapshot reads so, whoever may not write. -/
theorem snapC_rel' (hs : SimH w E st.heap) {I : Nat → Prop} (hEI : ∀ b, E.I b → I b) (hI : ∀ b, LiveB E st.heap b → I b) {β : List BI} {q : Nat} {c : AC} {d : DC} {v : Value} (h : snapC st.heap c = some d) (hr : RelC w E c v) : RelC w ⟨I, β, q⟩ (.d d) v := by
  cases c with
  | own k g off n =>
    simp only [snapC] at h
    split at h
    · rename_i B hB
      split at h
      · rename_i hle
        have key : ∃ ds, d = .list n ds ∧ ((B.cells.drop off).take (n * B.size)).length = ds.length ∧ ∀ (j : Nat) y, ds[j]? = some y → ∃ x, ((B.cells.drop off).take (n * B.size))[j]? = some x ∧ ∀ u, RelC w E x u → RelD w I y u := by
          split at h
          · rename_i ds hm
            obtain ⟨e1, e2⟩ := mapM_len hm
            refine ⟨ds, by simpa using h.symm, e1, fun j y hy => ?_⟩
            obtain ⟨x, hx, hxy⟩ := e2 j y hy
            refine ⟨x, hx, fun u hu => ?_⟩
            rw [dc_snap1 hxy] at hu
            exact RelD.mono (fun b hb => ⟨hEI b hb, rfl⟩) hu
          · cases hm : ((B.cells.drop off).take (n * B.size)).mapM (snap1 st.heap) with
            | none => simp [hm] at h
            | some ds =>
              simp [hm] at h
              obtain ⟨e1, e2⟩ := mapM_len hm
              refine ⟨ds, h.symm, e1, fun j y hy => ?_⟩
              obtain ⟨x, hx, hxy⟩ := e2 j y hy
              exact ⟨x, hx, fun u hu => snap1_rel' hs hEI hI (β := []) (q := 0) hxy hu⟩
        obtain ⟨ds, rfl, hlen, hds⟩ := key
        obtain ⟨hk, hg⟩ := blkAt_some hB
        obtain ⟨i, hi, hok⟩ := hs.blk k B hk
        obtain ⟨ad, cap, hv, h1, h2, h3, h4⟩ := hr.2.2 i hi (hok.1.trans hg)
        subst hv
        cases hb : i.blk with
        | none =>
          rw [hb] at h4
          have hn : n = 0 := by omega
          subst hn
          have : ds = [] := List.eq_nil_of_length_eq_zero (by simpa using hlen.symm)
          subst this
          exact RelD.list (fun _ => undef) (fun h => absurd rfl h) (fun j h => absurd h (by simp)) h1 h2
        | some b =>
          rw [hb] at h4
          obtain ⟨vs, hrel, hcell⟩ := (hok.readable (blkAt_size hB) hb off).take (n * B.size)
          have hvl : ds.length = vs.length := by rw [← hlen]; exact hrel.1
          refine RelD.list (fun j => vs.getD j undef) (fun hne => ?_) (fun j hj => ?_) h1 h2
          · have hpos : 0 < cap := by
              rcases Nat.eq_zero_or_pos cap with h0 | h0
              · have : n = 0 := by omega
                subst this
                exact absurd (List.eq_nil_of_length_eq_zero (by simpa using hlen.symm)) hne
              · exact h0
            refine ⟨_, h4 hpos, hI _ ⟨k, B, i, hk, hi, hb⟩, fun j hj => hcell j _ ?_⟩
            show vs[j]? = some (vs.getD j undef)
            rw [List.getD_eq_getElem?_getD, List.getElem?_eq_getElem (by omega)]; rfl
          · obtain ⟨x, hx, hxr⟩ := hds j ds[j] (List.getElem?_eq_getElem hj)
            have e : vs.getD j undef = vs[j] := by rw [List.getD_eq_getElem?_getD, List.getElem?_eq_getElem (by omega)]; rfl
            simp only [e]
            exact hxr _ (hrel.2 j x vs[j] hx (List.getElem?_eq_getElem (by omega))).2
      · cases h
    · cases h
  | d c => exact snap1_rel' (c := .d c) hs hEI hI h hr
  | ptr k g off => exact snap1_rel' (c := .ptr k g off) hs hEI hI h hr
  | mp k g => exact snap1_rel' (c := .mp k g) hs hEI hI h hr
  | obj es c => exact snap1_rel' (c := .obj es c) hs hEI hI h hr
  | any => exact snap1_rel' (c := .any) hs hEI hI h hr

theorem snapV_rel' (hs : SimH w E st.heap) {I : Nat → Prop} (hEI : ∀ b, E.I b → I b) (hI : ∀ b, LiveB E st.heap b → I b) {β : List BI} {q : Nat} {x y : AV} {v : Value} (h : snapV st.heap x = some y) (hr : RelV w E x v) : RelV w ⟨I, β, q⟩ y v := by
  cases x with
  | one c =>
    simp only [snapV] at h
    cases hc : snapC st.heap c with
    | none => simp [hc] at h
    | some d => simp [hc] at h; subst h; exact snapC_rel' hs hEI hI hc hr
  | agg cs =>
    simp only [snapV] at h
    cases hc : cs.mapM (snapC st.heap) with
    | none => simp [hc] at h
    | some ds =>
      simp [hc] at h; subst h
      obtain ⟨l, rfl, hrel⟩ := hr
      refine ⟨l, rfl, ?_⟩
      induction cs generalizing ds l with
      | nil => simp at hc; subst hc; exact ⟨hrel.1, fun j c v h1 h2 => by simp at h1⟩
      | cons c cs ih =>
        rw [List.mapM_cons] at hc
        cases h1 : snapC st.heap c with
        | none => simp [h1] at hc
        | some d =>
          cases h2 : cs.mapM (snapC st.heap) with
          | none => simp [h1, h2] at hc
          | some es =>
            simp [h1, h2] at hc; subst hc
            match l, hrel with
            | [], hrel => have := hrel.1; simp at this
            | u :: l, hrel =>
              obtain ⟨g1, g2⟩ := hrel.2 0 c u rfl rfl
              have hone : RelCs w (⟨I, β, q⟩ : Env) [AC.d d] [u] := RelCs.one g1 (snapC_rel' hs hEI hI h1 g2)
              have hrest := ih (ds := es) h2 (l := l) ⟨by simpa using hrel.1, fun j c v hc hv => hrel.2 (j + 1) c v hc hv⟩
              simpa using hone.append hrest
  | tup vs => simp [snapV] at h

theorem live_lt (hs : SimH w E st.heap) {b : Nat} (h : LiveB E st.heap b) : b < w.heap.size := by
  obtain ⟨k, B, i, h1, h2, h3⟩ := h
  obtain ⟨i2, hi2, hok⟩ := hs.blk k B h1
  rw [h2] at hi2; cases hi2
  exact hok.lt h3
theorem snapV_rel (hs : SimH w E st.heap) {I : Nat → Prop} (hI : ∀ b, b < w.heap.size → I b) {β : List BI} {x y : AV} {v : Value} (h : snapV st.heap x = some y) (hr : RelV w E x v) : RelV w ⟨I, β, E.clk⟩ y v :=
  snapV_rel' hs (fun b hb => hI b (hs.I b hb)) (fun b hb => hI b (live_lt hs hb)) h hr

/-- A call of a function that writes nothing that was there, and whose answer is new memory. -/
theorem acall_pure {f : FuncId} {args dargs : List AV} {H : AHeap} {clk : Nat} {post : AV → AHeap → Prop} {K : AV → AHeap → Nat → Prop} (hc : FCall P f dargs post)
    (hs : args.mapM (snapV H) = some dargs) (hK : ∀ r Hn c, post r Hn → clk ≤ c → K (r.ren (H.length + ·)) (H ++ Hn.map fun b => b.map (ABlk.ren (H.length + ·))) c) : ACall P f args H clk K := by
  intro w E vals hclk hsim hargs
  have hrel : RelVs w ⟨fun b => b < w.heap.size, [], E.clk⟩ dargs vals := by
    clear hc hK
    refine ⟨?_, ?_⟩
    · rw [← hargs.1]
      clear hargs
      induction args generalizing dargs with
      | nil => simp at hs; subst hs; rfl
      | cons x xs ih =>
        rw [List.mapM_cons] at hs
        cases h1 : snapV H x with
        | none => simp [h1] at hs
        | some y =>
          cases h2 : xs.mapM (snapV H) with
          | none => simp [h1, h2] at hs
          | some ys => simp [h1, h2] at hs; subst hs; simp [ih h2]
    · intro j y v hy hv
      have : ∃ x, args[j]? = some x ∧ snapV H x = some y := by
        clear hargs hsim hv
        induction args generalizing dargs j with
        | nil => simp at hs; subst hs; simp at hy
        | cons x xs ih =>
          rw [List.mapM_cons] at hs
          cases h1 : snapV H x with
          | none => simp [h1] at hs
          | some y' =>
            cases h2 : xs.mapM (snapV H) with
            | none => simp [h1, h2] at hs
            | some ys =>
              simp [h1, h2] at hs; subst hs
              match j with
              | 0 => simp at hy; subst hy; exact ⟨x, rfl, h1⟩
              | j + 1 => simpa using ih h2 j (by simpa using hy)
      obtain ⟨x, hx, hxy⟩ := this
      exact snapV_rel (st := ⟨[], H, clk⟩) hsim (fun b hb => hb) hxy (hargs.2 j x v hx hv)
  refine (hc E.clk w ⟨fun b => b < w.heap.size, [], E.clk⟩ vals rfl ⟨rfl, fun k i hi => by simp at hi, fun b hb => hb, fun k B hB => by simp at hB, fun k k' B B' i i' b hB => by simp at hB, fun g cs hg => (hsim.glob g cs hg).mono fun b hb => ⟨hsim.I b hb, rfl⟩⟩ hrel).mono fun e w' => ?_
  rintro ⟨v, r, Hn, E', rfl, hle, hsim', hr, hfrm, hlive, hI0, hrf, hHf, hpost⟩
  have hnot : ∀ b, ¬ LiveB (⟨fun b => b < w.heap.size, [], E.clk⟩ : Env) [] b := fun b ⟨k, B, i, h, _⟩ => by simp at h
  have hold : ∀ b, b < w.heap.size → w'.heap[b]? = w.heap[b]? := fun b hb => hfrm.block b hb (hnot b)
  have hgen : ∀ (k : Nat) (i : BI), E'.β[k]? = some i → E.clk ≤ i.gen := fun k i hi => by
    rcases hle.β k i hi with h | h
    · simp at h
    · exact h
  have hclk' : E.clk ≤ E'.clk := hle.clk
  let E2 : Env := ⟨E.I, E.β ++ E'.β, E'.clk⟩
  have hle2 : Env.Le w E w' E2 := ⟨fun b hb => ⟨hb, hold b (hsim.I b hb)⟩, hclk', fun k i' hi => by
    simp only [E2] at hi
    rw [List.getElem?_append] at hi
    split at hi
    · exact .inl hi
    · exact .inr (hgen _ _ hi)⟩
  have hβ : ∀ k i, E2.β[H.length + k]? = some i → E'.β[k]? = some i := fun k i hi => by
    simp only [E2] at hi
    rw [List.getElem?_append_right (by rw [hsim.len]; omega), hsim.len] at hi
    simpa using hi
  have hβ2 : ∀ k i, E'.β[k]? = some i → E2.β[H.length + k]? = some i := fun k i hi => by
    simp only [E2]
    rw [List.getElem?_append_right (by rw [hsim.len]; omega), hsim.len]
    simpa using hi
  have hH : ∀ k B, (H ++ Hn.map fun b => b.map (ABlk.ren (H.length + ·)))[k]? = some (some B) → (k < H.length ∧ H[k]? = some (some B)) ∨ ∃ j B0, k = H.length + j ∧ Hn[j]? = some (some B0) ∧ B = B0.ren (H.length + ·) := by
    intro k B hB
    rw [List.getElem?_append] at hB
    split at hB
    · rename_i hk; exact .inl ⟨hk, hB⟩
    · rename_i hk
      rw [List.getElem?_map] at hB
      cases hj : Hn[k - H.length]? with
      | none => simp [hj] at hB
      | some b =>
        cases b with
        | none => simp [hj] at hB
        | some B0 => simp [hj] at hB; exact .inr ⟨k - H.length, B0, by omega, hj, hB.symm⟩
  have hnew : ∀ (j : Nat) (B0 : ABlk) (i : BI) (b : Nat), Hn[j]? = some (some B0) → E'.β[j]? = some i → i.blk = some b → w.heap.size ≤ b := fun j B0 i b h1 h2 h3 => by
    rcases hlive b ⟨j, B0, i, h1, h2, h3⟩ with h | h
    · exact absurd h (hnot b)
    · exact h
  have hβl : ∀ k i, k < H.length → E2.β[k]? = some i → E.β[k]? = some i := fun k i hk hi => by
    simp only [E2] at hi
    rwa [List.getElem?_append_left (by rw [hsim.len]; exact hk)] at hi
  refine ⟨v, r.ren (H.length + ·), H ++ Hn.map fun b => b.map (ABlk.ren (H.length + ·)), E2, rfl, hle2, ⟨?_, ?_, ?_, ?_, ?_, fun g cs hg => (hsim.glob g cs hg).mono hle2.I⟩, flat_relV (E := E') (E' := E2) hrf (Nat.le_refl _) hβ hr, ?_, ?_, fun _ _ h => .inl h, hK r Hn _ hpost (by rw [← hclk]; exact hclk')⟩
  · simp [E2, hsim.len, hsim'.len]
  · intro k i hi
    simp only [E2] at hi ⊢
    rw [List.getElem?_append] at hi
    split at hi
    · exact Nat.lt_of_lt_of_le (hsim.gens k i hi) hclk'
    · exact hsim'.gens _ i hi
  · intro b hb
    exact Nat.lt_of_lt_of_le (hsim.I b hb) hfrm.size
  · intro k B hB
    rcases hH k B hB with ⟨hk, hB'⟩ | ⟨j, B0, rfl, hB0, rfl⟩
    · obtain ⟨i, hi, hok⟩ := hsim.blk k B hB'
      exact ⟨i, by simp only [E2]; rw [List.getElem?_append_left (by rw [hsim.len]; exact hk)]; exact hi, hok.mono_same hle2 (fun _ _ hI => hI) (fun b hb => hold b (hok.lt hb))⟩
    · obtain ⟨i, hi, hok⟩ := hsim'.blk j B0 hB0
      refine ⟨i, hβ2 j i hi, hok.1, hok.2.1, hok.2.2.1, hok.2.2.2.1, ?_⟩
      obtain ⟨_, _, _, _, h5⟩ := hok
      cases hb : i.blk with
      | none => rw [hb] at h5; exact ⟨by simp [ABlk.ren, h5.1], h5.2⟩
      | some b =>
        rw [hb] at h5
        have hbn := hnew j B0 i b hB0 hi hb
        obtain ⟨_, h5⟩ := h5
        refine ⟨fun hI => by have := hsim.I b hI; omega, ?_⟩
        rcases h5 with ⟨C, hC, hl, hlc, hrl⟩ | hm
        · refine .inl ⟨C, hC, hl, by simpa [ABlk.ren] using hlc, ?_⟩
          have hfl := hHf _ (List.mem_of_getElem? hB0)
          have := flat_rels (E := E') (E' := E2) (ρ := (H.length + ·)) hfl (Nat.le_refl _) hβ hrl
          simpa [ABlk.ren] using this
        · exact .inr hm.ren
  · intro k k' B B' i i' b hB hB' hi hi' hb hb'
    rcases hH k B hB with ⟨hk, h1⟩ | ⟨j, B0, rfl, h1, rfl⟩ <;> rcases hH k' B' hB' with ⟨hk', h2⟩ | ⟨j', B0', rfl, h2, rfl⟩
    · exact hsim.apart k k' B B' i i' b h1 h2 (hβl k i hk hi) (hβl k' i' hk' hi') hb hb'
    · obtain ⟨i2, hi2, hok⟩ := hsim.blk k B h1
      have e := hβl k i hk hi
      rw [e] at hi2; cases hi2
      have := hok.lt hb
      have := hnew j' B0' i' b h2 (hβ j' i' hi') hb'
      omega
    · obtain ⟨i2, hi2, hok⟩ := hsim.blk k' B' h2
      have e := hβl k' i' hk' hi'
      rw [e] at hi2; cases hi2
      have := hok.lt hb'
      have := hnew j B0 i b h1 (hβ j i hi) hb
      omega
    · rw [hsim'.apart j j' B0 B0' i i' b h1 h2 (hβ j i hi) (hβ j' i' hi') hb hb']
  · exact ⟨hfrm.os, hfrm.tape, hfrm.output, hfrm.size, fun b hb _ => hold b hb⟩
  · rintro b ⟨k, B, i, hB, hi, hb⟩
    rcases hH k B hB with ⟨hk, h1⟩ | ⟨j, B0, rfl, h1, rfl⟩
    · exact .inl ⟨k, B, i, h1, hβl k i hk hi, hb⟩
    · exact .inr (hnew j B0 i b h1 (hβ j i hi) hb)

/-! A call that may write one array of its caller's -/
def RPost (p : AV → ABlk → AHeap → Prop) (r : AV) (H : AHeap) (_ : Nat) : Prop := ∃ B' Hn, H = some B' :: Hn ∧ p r B' Hn
def RCall (P : Program) (f : FuncId) (args : List AV) (B : ABlk) (p : AV → ABlk → AHeap → Prop) : Prop :=
  ∀ clk, ACall P f args [some B] clk (RPost p)
def rho (k n : Nat) : Nat → Nat
  | 0 => k
  | j + 1 => n + j

theorem ren_rel {w : World} {E E' : Env} {ρ : Nat → Nat} {c : AC} {v : Value} (hI : E'.I = E.I) (hclk : E.clk ≤ E'.clk)
    (hβ : ∀ k i, E'.β[ρ k]? = some i → E.β[k]? = some i) (h : RelC w E c v) : RelC w E' (c.ren ρ) v := by
  cases c with
  | d c => show RelD w E'.I c v; rw [hI]; exact h
  | own k g off n => exact ⟨h.1, Nat.lt_of_lt_of_le h.2.1 hclk, fun i hi => h.2.2 i (hβ k i hi)⟩
  | ptr k g off => exact ⟨h.1, Nat.lt_of_lt_of_le h.2.1 hclk, fun i hi => h.2.2 i (hβ k i hi)⟩
  | mp k g => exact ⟨h.1, Nat.lt_of_lt_of_le h.2.1 hclk, fun i hi => h.2.2 i (hβ k i hi)⟩
  | obj => exact h
  | any => exact h
theorem unren_rel {w : World} {E E' : Env} {ρ : Nat → Nat} {c : AC} {v : Value} (hI : E'.I = E.I) (hclk : E.clk = E'.clk)
    (hβ : ∀ k i, E'.β[k]? = some i → E.β[ρ k]? = some i) (h : RelC w E (c.ren ρ) v) : RelC w E' c v := by
  cases c with
  | d c => show RelD w E'.I c v; rw [hI]; exact h
  | own k g off n => exact ⟨h.1, by rw [← hclk]; exact h.2.1, fun i hi => h.2.2 i (hβ k i hi)⟩
  | ptr k g off => exact ⟨h.1, by rw [← hclk]; exact h.2.1, fun i hi => h.2.2 i (hβ k i hi)⟩
  | mp k g => exact ⟨h.1, by rw [← hclk]; exact h.2.1, fun i hi => h.2.2 i (hβ k i hi)⟩
  | obj => exact h
  | any => exact h
theorem ren_rels {w : World} {E E' : Env} {ρ : Nat → Nat} {cs : List AC} {vs : List Value} (hI : E'.I = E.I) (hclk : E.clk ≤ E'.clk)
    (hβ : ∀ k i, E'.β[ρ k]? = some i → E.β[k]? = some i) (h : RelCs w E cs vs) : RelCs w E' (cs.map (AC.ren ρ)) vs := by
  refine ⟨by simp [h.1], fun j c v hc hv => ?_⟩
  rw [List.getElem?_map] at hc
  cases hj : cs[j]? with
  | none => simp [hj] at hc
  | some c0 =>
    simp [hj] at hc; subst hc
    obtain ⟨h1, h2⟩ := h.2 j c0 v hj hv
    exact ⟨h1, ren_rel hI hclk hβ h2⟩
theorem unren_rels {w : World} {E E' : Env} {ρ : Nat → Nat} {cs : List AC} {vs : List Value} (hI : E'.I = E.I) (hclk : E.clk = E'.clk)
    (hβ : ∀ k i, E'.β[k]? = some i → E.β[ρ k]? = some i) (h : RelCs w E (cs.map (AC.ren ρ)) vs) : RelCs w E' cs vs := by
  refine ⟨by simpa using h.1, fun j c v hc hv => ?_⟩
  obtain ⟨h1, h2⟩ := h.2 j (c.ren ρ) v (by rw [List.getElem?_map, hc]; rfl) hv
  exact ⟨h1, unren_rel hI hclk hβ h2⟩
theorem ren_relV1 {w : World} {E E' : Env} {ρ : Nat → Nat} {x : AV} {v : Value} (hI : E'.I = E.I) (hclk : E.clk ≤ E'.clk)
    (hβ : ∀ k i, E'.β[ρ k]? = some i → E.β[k]? = some i) (h : RelV1 w E x v) : RelV1 w E' (x.ren1 ρ) v := by
  cases x with
  | one c => exact ren_rel hI hclk hβ h
  | agg cs => obtain ⟨l, rfl, hr⟩ := h; exact ⟨l, rfl, ren_rels hI hclk hβ hr⟩
  | tup vs => exact h
theorem ren_relV {w : World} {E E' : Env} {ρ : Nat → Nat} {x : AV} {v : Value} (hI : E'.I = E.I) (hclk : E.clk ≤ E'.clk)
    (hβ : ∀ k i, E'.β[ρ k]? = some i → E.β[k]? = some i) (h : RelV w E x v) : RelV w E' (x.ren ρ) v := by
  cases x with
  | one c => exact ren_relV1 (x := .one c) hI hclk hβ h
  | agg cs => exact ren_relV1 (x := .agg cs) hI hclk hβ h
  | tup vs =>
    obtain ⟨l, rfl, hl, hr⟩ := h
    refine ⟨l, rfl, by simp [hl], fun j x u hx hu => ?_⟩
    rw [List.getElem?_map] at hx
    cases hj : vs[j]? with
    | none => simp [hj] at hx
    | some y => simp [hj] at hx; subst hx; exact ren_relV1 hI hclk hβ (hr j y u hj hu)
theorem unren_relV {w : World} {E E' : Env} {ρ : Nat → Nat} {x : AV} {v : Value} (hI : E'.I = E.I) (hclk : E.clk = E'.clk)
    (hβ : ∀ k i, E'.β[k]? = some i → E.β[ρ k]? = some i) (h : RelV w E (x.ren ρ) v) : RelV w E' x v := by
  have one : ∀ {x : AV} {v : Value}, RelV1 w E (x.ren1 ρ) v → RelV1 w E' x v := by
    intro x v h
    cases x with
    | one c => exact unren_rel hI hclk hβ h
    | agg cs => obtain ⟨l, rfl, hr⟩ := h; exact ⟨l, rfl, unren_rels hI hclk hβ hr⟩
    | tup vs => exact h
  cases x with
  | one c => exact one (x := .one c) h
  | agg cs => exact one (x := .agg cs) h
  | tup vs =>
    obtain ⟨l, rfl, hl, hr⟩ := h
    refine ⟨l, rfl, by simpa using hl, fun j y u hy hu => ?_⟩
    exact one (hr j _ u (by rw [List.getElem?_map, hy]; rfl) hu)

theorem acall_ref {f : FuncId} {args cargs : List AV} {H : AHeap} {clk k : Nat} {B : ABlk} {p : AV → ABlk → AHeap → Prop} {K : AV → AHeap → Nat → Prop} (hc : RCall P f cargs B p)
    (hargs : args = cargs.map (AV.ren (rho k H.length))) (hk : H[k]? = some (some (B.ren (rho k H.length))))
    (hK : ∀ r B' Hn c, p r B' Hn → clk ≤ c → K (r.ren (rho k H.length)) (H.set k (some (B'.ren (rho k H.length))) ++ Hn.map fun b => b.map (ABlk.ren (rho k H.length))) c) : ACall P f args H clk K := by
  intro w E vals hclk hsim hrel
  obtain ⟨i0, hi0, hok0⟩ := hsim.blk k _ hk
  have hkl : k < E.β.length := (List.getElem?_eq_some_iff.1 hi0).1
  have hkH : k < H.length := by rw [← hsim.len]; exact hkl
  have hβ0 : ∀ (j : Nat) (i : BI), ([i0] : List BI)[j]? = some i → E.β[rho k H.length j]? = some i := fun j i hj => by
    match j with
    | 0 => simp at hj; subst hj; exact hi0
    | j + 1 => simp at hj
  let Ec : Env := ⟨E.I, [i0], E.clk⟩
  have hsimc : SimH w Ec [some B] := by
    refine ⟨rfl, fun j i hj => ?_, hsim.I, fun j B1 hB1 => ?_, fun j j' B1 B2 i i' b h1 h2 => ?_, hsim.glob⟩
    · match j with
      | 0 => simp [Ec] at hj; subst hj; exact hsim.gens k i0 hi0
      | j + 1 => simp [Ec] at hj
    · match j with
      | 0 =>
        simp at hB1; subst hB1
        refine ⟨i0, rfl, hok0.1, hok0.2.1, hok0.2.2.1, hok0.2.2.2.1, ?_⟩
        obtain ⟨_, _, _, _, h5⟩ := hok0
        cases hb : i0.blk with
        | none => rw [hb] at h5; exact ⟨by simpa [ABlk.ren] using h5.1, h5.2⟩
        | some b =>
          rw [hb] at h5
          obtain ⟨hn, ⟨C, hC, hl, hlc, hrl⟩ | hm⟩ := h5
          · refine ⟨hn, .inl ⟨C, hC, hl, by simpa [ABlk.ren] using hlc, ?_⟩⟩
            have : RelCs w E (B.cells.map (AC.ren (rho k H.length))) (C.take B.cells.length) := by simpa [ABlk.ren] using hrl
            exact unren_rels (E := E) (E' := Ec) rfl rfl hβ0 this
          · exact ⟨hn, .inr hm.unren⟩
      | j + 1 => simp at hB1
    · match j, j' with
      | 0, 0 => intros; rfl
      | 0, j' + 1 => simp at h2
      | j + 1, _ => simp at h1
  have hrelc : RelVs w Ec cargs vals := by
    refine ⟨by rw [← hrel.1, hargs]; simp, fun j x v hx hv => ?_⟩
    have := hrel.2 j (x.ren (rho k H.length)) v (by rw [hargs, List.getElem?_map, hx]; rfl) hv
    exact unren_relV (E := E) (E' := Ec) rfl rfl hβ0 this
  refine (hc E.clk w Ec vals rfl hsimc hrelc).mono fun e w' => ?_
  rintro ⟨v, r, Hc', E', rfl, hle, hsim', hr, hfrm, hlive, hI0, B', Hn, rfl, hp⟩
  have hliv0 : ∀ b, LiveB Ec [some B] b → i0.blk = some b := fun b ⟨j, B1, i, h1, h2, h3⟩ => by
    match j with
    | 0 => simp [Ec] at h2; subst h2; exact h3
    | j + 1 => simp [Ec] at h2
  have hlen' : E'.β.length = Hn.length + 1 := by have := hsim'.len; simpa using this
  obtain ⟨i0', β', hβ'⟩ : ∃ i0' β', E'.β = i0' :: β' := by
    cases hb : E'.β with
    | nil => rw [hb] at hlen'; simp at hlen'
    | cons x xs => exact ⟨x, xs, rfl⟩
  have hβ'l : β'.length = Hn.length := by rw [hβ'] at hlen'; simpa using hlen'
  have hclk' : E.clk ≤ E'.clk := hle.clk
  have hold : ∀ b, b < w.heap.size → i0.blk ≠ some b → w'.heap[b]? = w.heap[b]? := fun b hb hn => hfrm.block b hb (fun hl => hn (hliv0 b hl))
  have hnotI : ∀ b, E.I b → i0.blk ≠ some b := fun b hb e => by
    obtain ⟨_, _, _, _, h5⟩ := hok0
    rw [e] at h5
    exact h5.1 hb
  let E2 : Env := ⟨E'.I, E.β.set k i0' ++ β', E'.clk⟩
  have hgenN : ∀ (j : Nat) (i : BI), β'[j]? = some i → E.clk ≤ i.gen := fun j i hi => by
    rcases hle.β (j + 1) i (by rw [hβ']; simpa using hi) with h | h
    · simp [Ec] at h
    · exact h
  have hgen0 : i0' = i0 ∨ E.clk ≤ i0'.gen := by
    rcases hle.β 0 i0' (by rw [hβ']; rfl) with h | h
    · simp [Ec] at h; exact .inl h.symm
    · exact .inr h
  have at2 : ∀ (q : Nat) (i : BI), E2.β[q]? = some i → (q < H.length ∧ q ≠ k ∧ E.β[q]? = some i) ∨ (q = k ∧ i = i0') ∨ ∃ j, q = H.length + j ∧ β'[j]? = some i := fun q i hi => by
    simp only [E2] at hi
    rw [List.getElem?_append] at hi
    simp only [List.length_set] at hi
    split at hi
    · rename_i hq
      rw [List.getElem?_set] at hi
      split at hi
      · rename_i hkq
        subst hkq
        simp [hkl] at hi
        exact .inr (.inl ⟨rfl, hi.symm⟩)
      · rename_i hkq
        exact .inl ⟨by rw [← hsim.len]; exact hq, fun e => hkq e.symm, hi⟩
    · rename_i hq
      exact .inr (.inr ⟨q - E.β.length, by rw [← hsim.len]; omega, hi⟩)
  have hle2 : Env.Le w E w' E2 := ⟨fun b hb => hle.I b hb, hclk', fun q i hi => by
    rcases at2 q i hi with ⟨_, _, h⟩ | ⟨rfl, rfl⟩ | ⟨j, _, h⟩
    · exact .inl h
    · rcases hgen0 with e | e
      · rw [e]; exact .inl hi0
      · exact .inr e
    · exact .inr (hgenN j i h)⟩
  have hβ : ∀ j i, E2.β[rho k H.length j]? = some i → E'.β[j]? = some i := fun j i hi => by
    match j with
    | 0 =>
      rcases at2 k i hi with ⟨_, h, _⟩ | ⟨_, rfl⟩ | ⟨j, h, _⟩
      · exact absurd rfl h
      · rw [hβ']; rfl
      · omega
    | j + 1 =>
      rcases at2 _ i hi with ⟨h, _, _⟩ | ⟨h, _⟩ | ⟨j', h, h'⟩
      · simp only [rho] at h; omega
      · simp only [rho] at h; omega
      · simp only [rho] at h
        have : j' = j := by omega
        subst this
        rw [hβ']; simpa using h'
  have hβ2 : ∀ j i, E'.β[j]? = some i → E2.β[rho k H.length j]? = some i := fun j i hi => by
    rw [hβ'] at hi
    match j with
    | 0 =>
      simp at hi; subst hi
      simp only [E2, rho]
      rw [List.getElem?_append_left (by simpa using hkl)]
      simp [hkl]
    | j + 1 =>
      simp at hi
      simp only [E2, rho]
      rw [List.getElem?_append_right (by simp [hsim.len]), List.length_set, hsim.len]
      simpa using hi
  have atH : ∀ (q : Nat) (B1 : ABlk), (H.set k (some (B'.ren (rho k H.length))) ++ Hn.map fun b => b.map (ABlk.ren (rho k H.length)))[q]? = some (some B1) →
      (q < H.length ∧ q ≠ k ∧ H[q]? = some (some B1)) ∨ ∃ j B0, q = rho k H.length j ∧ (some B' :: Hn)[j]? = some (some B0) ∧ B1 = B0.ren (rho k H.length) := fun q B1 hq => by
    rw [List.getElem?_append] at hq
    simp only [List.length_set] at hq
    split at hq
    · rename_i hql
      rw [List.getElem?_set] at hq
      split at hq
      · rename_i hkq
        subst hkq
        simp [hkH] at hq
        exact .inr ⟨0, B', rfl, rfl, hq.symm⟩
      · rename_i hkq
        exact .inl ⟨hql, fun e => hkq e.symm, hq⟩
    · rename_i hql
      rw [List.getElem?_map] at hq
      cases hj : Hn[q - H.length]? with
      | none => simp [hj] at hq
      | some b =>
        cases b with
        | none => simp [hj] at hq
        | some B0 => simp [hj] at hq; exact .inr ⟨q - H.length + 1, B0, by simp only [rho]; omega, by simpa using hj, hq.symm⟩
  have hnew : ∀ (j : Nat) (B0 : ABlk) (i : BI) (b : Nat), (some B' :: Hn)[j]? = some (some B0) → E'.β[j]? = some i → i.blk = some b → i0.blk = some b ∨ w.heap.size ≤ b := fun j B0 i b h1 h2 h3 => by
    rcases hlive b ⟨j, B0, i, h1, h2, h3⟩ with h | h
    · exact .inl (hliv0 b h)
    · exact .inr h
  have hother : ∀ (q : Nat) (B1 : ABlk) (i : BI) (b : Nat), q ≠ k → H[q]? = some (some B1) → E.β[q]? = some i → i.blk = some b → b < w.heap.size ∧ i0.blk ≠ some b := fun q B1 i b hq h1 h2 h3 => by
    obtain ⟨i2, hi2, hok⟩ := hsim.blk q B1 h1
    rw [h2] at hi2; cases hi2
    exact ⟨hok.lt h3, fun e => hq (hsim.apart q k B1 _ i i0 b h1 hk h2 hi0 h3 e)⟩
  have back : ∀ (q : Nat) (i : BI), q < H.length → q ≠ k → E2.β[q]? = some i → E.β[q]? = some i := fun q i h1 h2 h3 => by
    rcases at2 q i h3 with ⟨_, _, h⟩ | ⟨h, _⟩ | ⟨j, h, _⟩
    · exact h
    · exact absurd h h2
    · omega
  refine ⟨v, r.ren (rho k H.length), _, E2, rfl, hle2, ⟨?_, ?_, ?_, ?_, ?_, fun g cs hg => (hsim.glob g cs hg).mono hle2.I⟩, ren_relV (E := E') (E' := E2) rfl (Nat.le_refl _) hβ hr, ?_, ?_, fun b hb hI => (hI0 b hb hI).elim .inl fun hl => .inr ⟨k, _, i0, hk, hi0, hliv0 b hl⟩, hK r B' Hn _ hp (by rw [← hclk]; exact hclk')⟩
  · simp [E2, hsim.len, hβ'l]
  · intro q i hi
    rcases at2 q i hi with ⟨_, _, h⟩ | ⟨_, rfl⟩ | ⟨j, _, h⟩
    · exact Nat.lt_of_lt_of_le (hsim.gens q i h) hclk'
    · exact hsim'.gens 0 i (by rw [hβ']; rfl)
    · exact hsim'.gens (j + 1) i (by rw [hβ']; simpa using h)
  · exact hsim'.I
  · intro q B1 hB1
    rcases atH q B1 hB1 with ⟨h1, h2, h3⟩ | ⟨j, B0, rfl, hB0, rfl⟩
    · obtain ⟨i, hi, hok⟩ := hsim.blk q B1 h3
      refine ⟨i, ?_, hok.mono_same hle2 (fun b hb hI => (hI0 b (hother q B1 i b h2 h3 hi hb).1 hI).resolve_right fun hl => (hother q B1 i b h2 h3 hi hb).2 (hliv0 b hl)) (fun b hb => ?_)⟩
      · simp only [E2]
        rw [List.getElem?_append_left (by simpa [hsim.len] using h1), List.getElem?_set, if_neg (fun e => h2 e.symm)]
        exact hi
      · obtain ⟨o1, o2⟩ := hother q B1 i b h2 h3 hi hb
        exact hold b o1 o2
    · obtain ⟨i, hi, hok⟩ := hsim'.blk j B0 hB0
      refine ⟨i, hβ2 j i hi, hok.1, hok.2.1, hok.2.2.1, hok.2.2.2.1, ?_⟩
      obtain ⟨_, _, _, _, h5⟩ := hok
      cases hb : i.blk with
      | none => rw [hb] at h5; exact ⟨by simp [ABlk.ren, h5.1], h5.2⟩
      | some b =>
        rw [hb] at h5
        obtain ⟨hn, ⟨C, hC, hl, hlc, hrl⟩ | hm⟩ := h5
        · refine ⟨hn, .inl ⟨C, hC, hl, by simpa [ABlk.ren] using hlc, ?_⟩⟩
          have := ren_rels (E := E') (E' := E2) (ρ := rho k H.length) rfl (Nat.le_refl _) hβ hrl
          simpa [ABlk.ren] using this
        · exact ⟨hn, .inr hm.ren⟩
  · intro q q' B1 B2 i i' b hB1 hB2 hi hi' hb hb'
    rcases atH q B1 hB1 with ⟨h1, h2, h3⟩ | ⟨j, B0, rfl, hB0, rfl⟩ <;> rcases atH q' B2 hB2 with ⟨g1, g2, g3⟩ | ⟨j', B0', rfl, hB0', rfl⟩
    · exact hsim.apart q q' B1 B2 i i' b h3 g3 (back q i h1 h2 hi) (back q' i' g1 g2 hi') hb hb'
    · obtain ⟨o1, o2⟩ := hother q B1 i b h2 h3 (back q i h1 h2 hi) hb
      rcases hnew j' B0' i' b hB0' (hβ j' i' hi') hb' with h | h
      · exact absurd h o2
      · omega
    · obtain ⟨o1, o2⟩ := hother q' B2 i' b g2 g3 (back q' i' g1 g2 hi') hb'
      rcases hnew j B0 i b hB0 (hβ j i hi) hb with h | h
      · exact absurd h o2
      · omega
    · rw [hsim'.apart j j' B0 B0' i i' b hB0 hB0' (hβ j i hi) (hβ j' i' hi') hb hb']
  · refine ⟨hfrm.os, hfrm.tape, hfrm.output, hfrm.size, fun b hb hn => hold b hb (fun e => hn ⟨k, _, i0, hk, hi0, e⟩)⟩
  · rintro b ⟨q, B1, i, hB1, hi, hb⟩
    rcases atH q B1 hB1 with ⟨h1, h2, h3⟩ | ⟨j, B0, rfl, hB0, rfl⟩
    · exact .inl ⟨q, B1, i, h3, back q i h1 h2 hi, hb⟩
    · rcases hnew j B0 i b hB0 (hβ j i hi) hb with h | h
      · exact .inl ⟨k, _, i0, hk, hi0, h⟩
      · exact .inr h
end
end Go.Abs
