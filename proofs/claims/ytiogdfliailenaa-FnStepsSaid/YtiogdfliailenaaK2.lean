/-
  The abstract steps are sound, the second half; loops, calls, regions whose order is open. No program's text.
-/
import Derived.Test.YtiogdfliailenaaK1
import Derived.Scope
import Derived.Orders
namespace Go.Abs
set_option linter.unusedSimpArgs false
set_option linter.unusedVariables false
set_option linter.unnecessarySimpa false
open Go

section
variable {P : Program} {w0 w : World} {E0 E : Env} {H0 : AHeap} {st : ASt} {a : Act} {o : Oper} {K : ASt → Prop}

/-- What a slice's elements are in memory. -/
theorem InvE.elems (hE : InvE w0 E0 H0 st a w E) {x : AV} {v : Value} {size n : Nat} {cs : List AC} (hr : RelV w E x v) (h : elems? st.heap size x = some (n, cs)) :
    ∃ A cap, v = .slice A n cap ∧ n ≤ cap ∧ cap ≤ maxLen ∧ (A = none → cs = []) ∧ ∀ ad, A = some ad → Readable w E ad cs := by
  unfold elems? at h
  split at h
  · simp only [Option.some.injEq, Prod.mk.injEq] at h
    obtain ⟨rfl, rfl⟩ := h
    cases hr with
    | nil => exact ⟨none, 0, rfl, Nat.le_refl _, Nat.zero_le _, fun _ => rfl, fun ad h => by cases h⟩
  · rename_i m ds
    simp only [Option.some.injEq, Prod.mk.injEq] at h
    obtain ⟨rfl, rfl⟩ := h
    cases hr with
    | list fv ha hrr hn hm =>
      refine ⟨_, _, rfl, hn, hm, fun hA => ?_, fun ad hA => ?_⟩
      · subst hA
        have : ds = [] := by
          rcases ds with _ | ⟨d, ds⟩
          · rfl
          · obtain ⟨ad, h, _⟩ := ha (by simp); cases h
        subst this; simp
      · rcases ds with _ | ⟨d, ds⟩
        · simp; exact ⟨[], RelCs.nil, fun j v hv => by simp at hv⟩
        · obtain ⟨ad', h, hI, hc⟩ := ha (by simp)
          rw [hA] at h; cases h
          have := (readable_list (E := E) fv hc hrr).take (m * size)
          rw [← List.map_take] at this
          exact this
  · rename_i k g off m
    split at h
    · rename_i B hB
      simp only [Option.some.injEq, Prod.mk.injEq] at h
      obtain ⟨rfl, rfl⟩ := h
      obtain ⟨i, ad, cap, hk, hg, hi, hok, hv, h1, h2, h3, h4⟩ := hE.at_own hB hr
      refine ⟨ad, cap, hv, h1, h2, fun hA => ?_, fun ad' hA => ?_⟩
      · cases hb : i.blk with
        | none =>
          rw [hb] at h4
          have : m = 0 := by omega
          simp [this]
        | some b =>
          rw [hb] at h4
          have : m = 0 := by
            rcases Nat.eq_zero_or_pos cap with h | h
            · omega
            · have := h4 h; rw [hA] at this; cases this
          simp [this]
      · cases hb : i.blk with
        | none => rw [hb] at h4; rw [hA] at h4; simp at h4
        | some b =>
          rw [hb] at h4
          rcases Nat.eq_zero_or_pos cap with h | h
          · have : m = 0 := by omega
            simp [this]; exact ⟨[], RelCs.nil, fun j v hv => by simp at hv⟩
          · have := h4 h; rw [hA] at this; cases this
            exact (hok.readable (blkAt_size hB) hb off).take _
    · cases h
  · cases h

theorem bytes_rel {cs : List AC} {vs : List Value} {bs : List UInt8} (hr : RelCs w E cs vs) (h : bytesOf? cs = some bs) :
    ∃ ns : List Int, vs = ns.map (Value.int .u8) ∧ bs = ns.map fun n => UInt8.ofNat n.toNat := by
  induction cs generalizing vs bs with
  | nil =>
    have : vs = [] := List.eq_nil_of_length_eq_zero (by simpa using hr.1.symm)
    subst this
    simp [bytesOf?] at h
    subst h
    exact ⟨[], rfl, rfl⟩
  | cons c cs ih =>
    match vs, hr with
    | [], hr => have := hr.1; simp at this
    | v :: vs, hr =>
      unfold bytesOf? at h
      rw [List.mapM_cons] at h
      cases hb : (c.dc?).bind DC.byte? with
      | none => simp [hb] at h
      | some x =>
        cases hm : cs.mapM (fun c => (c.dc?).bind DC.byte?) with
        | none => simp [hb, hm] at h
        | some ys =>
          simp [hb, hm] at h
          subst h
          obtain ⟨ns, rfl, rfl⟩ := ih (vs := vs) (bs := ys) ⟨by simpa using hr.1, fun j c' v' hc hv => hr.2 (j + 1) c' v' hc hv⟩ hm
          have hcv := (hr.2 0 c v rfl rfl).2
          cases c with
          | d c =>
            simp [AC.dc?] at hb
            cases c with
            | s u =>
              cases hcv with
              | s _ =>
                unfold DC.byte? at hb
                split at hb
                · rename_i n hn
                  cases hn; cases hb
                  exact ⟨n :: ns, rfl, rfl⟩
                · cases hb
            | list => simp [DC.byte?] at hb
            | nil => simp [DC.byte?] at hb
            | rptr => simp [DC.byte?] at hb
            | map => simp [DC.byte?] at hb
            | err => simp [DC.byte?] at hb
            | fn => simp [DC.byte?] at hb
          | own => simp [AC.dc?] at hb
          | ptr => simp [AC.dc?] at hb
          | mp => simp [AC.dc?] at hb
          | obj => simp [AC.dc?] at hb
          | any => simp [AC.dc?] at hb

theorem ok_conv {s t : TypeId} {x : Operand} (ho : o.op = .convert s t x) (h : convA P st.heap s t (st.eval x) fun v => K (st.put o.dst v)) : OpOk P o st K := by
  unfold convA at h
  split at h
  · rename_i k k' n hd hx
    obtain ⟨hs, h⟩ := h
    obtain ⟨ds, hs⟩ := Option.isSome_iff_exists.1 hs
    refine opOk_sv h rfl (fun w0 E0 H0 a w E hE => ?_)
    simp [execOp, ho, scal_int hE hx, convert, run_underlying hs, run_underlying hd, Conv.intToInt]
  · rename_i u hd hx
    obtain ⟨hs, h⟩ := h
    refine opOk_sv h rfl (fun w0 E0 H0 a w E hE => ?_)
    simp [execOp, ho, scal hE hx, convert, run_underlying hs, run_underlying hd]
  · have hd : P.underlying t = some .string := by assumption
    split at h
    · rename_i e hs
      obtain ⟨he, h⟩ := h
      split at h
      · rename_i n cs hel
        split at h
        · rename_i bs hbs
          obtain ⟨hlen, h⟩ := h
          refine opOk_sv h rfl (fun w0 E0 H0 a w E hE => ?_)
          obtain ⟨A, cap, hv, _, _, hnil, hsome⟩ := hE.elems (hE.eval x) hel
          have hc := run_convert_bytes_string w s t e A n cap hs he hd
          cases A with
          | none =>
            have hcs := hnil rfl
            subst hcs
            have hb0 : bs = [] := by simpa [bytesOf?] using hbs
            subst hb0
            simp [execOp, ho, hv, hc, Conv.bytesToString]
            rfl
          | some ad =>
            obtain ⟨vs, hrel, hcell⟩ := hsome ad rfl
            obtain ⟨ns, rfl, rfl⟩ := bytes_rel hrel hbs
            have hl : (ns.map (Value.int .u8)).length = n := by rw [← hrel.1, hlen]
            have hld := run_loadCells_list (P := P) w ad _ hcell
            rw [hl] at hld
            have hrun := run_bytesToString w ad n cap ns hld
            have hfold : ∀ (ns : List Int) (s : ByteArray), ns.foldl (fun r n => r.push (UInt8.ofNat n.toNat)) s = ⟨s.data ++ (ns.map fun n => UInt8.ofNat n.toNat).toArray⟩ := by
              intro ns
              induction ns with
              | nil => intro s; simp
              | cons n ns ih =>
                intro s
                rw [List.foldl_cons, ih]
                congr 1
                apply Array.ext'
                simp [ByteArray.push]
            rw [hfold] at hrun
            have he0 : ByteArray.empty.data = #[] := rfl
            rw [he0, Array.empty_append] at hrun
            simp [execOp, ho, hv, hc, hrun]
        · exact h.elim
      · exact h.elim
    · exact h.elim
  · exact h.elim
end
end Go.Abs
namespace Go.Abs
set_option linter.unusedSimpArgs false
set_option linter.unusedVariables false
set_option linter.unnecessarySimpa false
open Go

section
variable {P : Program} {w0 w : World} {E0 E : Env} {H0 : AHeap} {st : ASt} {a : Act} {o : Oper} {K : ASt → Prop}

/-- The nil slice as an own array. -/
theorem InvE.snocNil (h : InvE w0 E0 H0 st a w E) (e : TypeId) (n : Nat) :
    InvE w0 E0 H0 { st with heap := st.heap ++ [some ⟨st.clk, e, n, []⟩], clk := st.clk + 1 } a w (E.snoc ⟨E.clk, none, e, n, 0⟩) ∧ Env.Le w E w (E.snoc ⟨E.clk, none, e, n, 0⟩) := by
  have hle : Env.Le w E w (E.snoc ⟨E.clk, none, e, n, 0⟩) := ⟨fun b hb => ⟨hb, rfl⟩, Nat.le_succ _, fun k i' hi => by
    rcases getElem?_snoc hi with h | ⟨_, rfl⟩
    · exact .inl h
    · exact .inr (Nat.le_refl _)⟩
  refine ⟨⟨h.dfr.mono hle, h.le.trans hle, by simp [Env.snoc, h.clk], ⟨by simp [Env.snoc, h.sim.len], ?_, h.sim.I, ?_, ?_, fun g cs hg => (h.sim.glob g cs hg).mono hle.I⟩, h.rel.mono hle, h.frm, ?_, h.I0⟩, hle⟩
  · intro k i hi
    rcases getElem?_snoc hi with hh | ⟨_, rfl⟩
    · exact Nat.lt_succ_of_lt (h.sim.gens k i hh)
    · exact Nat.lt_succ_self _
  · intro k B hB
    rcases getElem?_snoc hB with hh | ⟨rfl, heq⟩
    · obtain ⟨i, hi, hok⟩ := h.sim.blk k B hh
      have hk : k < E.β.length := (List.getElem?_eq_some_iff.1 hi).1
      exact ⟨i, by simp only [Env.snoc]; rw [List.getElem?_append_left hk]; exact hi, hok.mono_same hle (fun _ _ hI => hI) (fun _ _ => rfl)⟩
    · simp only [Option.some.injEq] at heq
      subst heq
      refine ⟨⟨E.clk, none, e, n, 0⟩, ?_, h.clk, rfl, rfl, Nat.lt_succ_self _, rfl, rfl⟩
      simp only [Env.snoc]
      rw [List.getElem?_append_right (by rw [h.sim.len]; exact Nat.le_refl _), ← h.sim.len]
      simp
  · intro k k' B B' i i' b hB hB' hi hi' hb hb'
    have hlen := h.sim.len
    rcases getElem?_snoc hB with h1 | ⟨e1, _⟩ <;> rcases getElem?_snoc hB' with h2 | ⟨e2, _⟩
    · have k1 : k < E.β.length := by rw [hlen]; exact (List.getElem?_eq_some_iff.1 h1).1
      have k2 : k' < E.β.length := by rw [hlen]; exact (List.getElem?_eq_some_iff.1 h2).1
      simp only [Env.snoc] at hi hi'
      rw [List.getElem?_append_left k1] at hi
      rw [List.getElem?_append_left k2] at hi'
      exact h.sim.apart k k' B B' i i' b h1 h2 hi hi' hb hb'
    · simp only [Env.snoc] at hi'
      rw [e2, ← hlen, List.getElem?_append_right (Nat.le_refl _)] at hi'
      simp at hi'; subst hi'; cases hb'
    · simp only [Env.snoc] at hi
      rw [e1, ← hlen, List.getElem?_append_right (Nat.le_refl _)] at hi
      simp at hi; subst hi; cases hb
    · omega
  · rintro b ⟨k, B, i, hB, hi, hb⟩
    rcases getElem?_snoc hB with h1 | ⟨e1, _⟩
    · have k1 : k < E.β.length := by rw [h.sim.len]; exact (List.getElem?_eq_some_iff.1 h1).1
      simp only [Env.snoc] at hi
      rw [List.getElem?_append_left k1] at hi
      exact h.live b ⟨k, B, i, h1, hi, hb⟩
    · simp only [Env.snoc] at hi
      rw [e1, ← h.sim.len, List.getElem?_append_right (Nat.le_refl _)] at hi
      simp at hi; subst hi; cases hb

/-- An own array turns: its stamp; it is still nil, or in a block that is new (w' is w with that block). -/
theorem InvE.turn (h : InvE w0 E0 H0 st a w E) {k : Nat} {B : ABlk} {w' : World} {i' : BI} {B' : ABlk} (hB : st.heap[k]? = some (some B))
    (hold : ∀ b, b < w.heap.size → w'.heap[b]? = w.heap[b]?) (hsz : w.heap.size ≤ w'.heap.size) (hos : w'.os = w.os) (ht : w'.tape = w.tape) (hout : Outs w w')
    (hnew : ∀ b, i'.blk = some b → b = w.heap.size) (hg : i'.gen = E.clk) (hok : Env.Le w E w' ⟨E.I, E.β.set k i', E.clk + 1⟩ → BlkOk w' ⟨E.I, E.β.set k i', E.clk + 1⟩ i' B') :
    InvE w0 E0 H0 { st with heap := st.heap.set k (some B'), clk := st.clk + 1 } a w' ⟨E.I, E.β.set k i', E.clk + 1⟩ ∧ Env.Le w E w' ⟨E.I, E.β.set k i', E.clk + 1⟩ := by
  have hk : k < E.β.length := by rw [h.sim.len]; exact (List.getElem?_eq_some_iff.1 hB).1
  have hle : Env.Le w E w' ⟨E.I, E.β.set k i', E.clk + 1⟩ := ⟨fun b hb => ⟨hb, hold b (h.sim.I b hb)⟩, Nat.le_succ _, fun j j' hj => by
    simp only [List.getElem?_set] at hj
    split at hj
    · rename_i hkj
      subst hkj
      cases hj
      exact .inr (by omega)
    · exact .inl hj⟩
  have hlt : ∀ (j : Nat) (B1 : ABlk) (i1 : BI) (c : Nat), st.heap[j]? = some (some B1) → E.β[j]? = some i1 → i1.blk = some c → c < w.heap.size := by
    intro j B1 i1 c h1 h2 h3
    obtain ⟨i2, hi2, hok2⟩ := h.sim.blk j B1 h1
    rw [h2] at hi2; cases hi2
    exact hok2.lt h3
  refine ⟨⟨h.dfr.mono hle, h.le.trans hle, by simp [h.clk], ⟨by simp [h.sim.len], ?_, ?_, ?_, ?_, fun g cs hg => (h.sim.glob g cs hg).mono hle.I⟩, h.rel.mono hle, ?_, ?_, h.I0⟩, hle⟩
  · intro j jj hj
    simp only [List.getElem?_set] at hj
    split at hj
    · cases hj
      simp only [hg]; omega
    · have := h.sim.gens j jj hj
      simp only; omega
  · intro c hc
    have := h.sim.I c hc
    omega
  · intro j B2 hB2
    simp only [List.getElem?_set] at hB2
    by_cases hkj : k = j
    · subst hkj
      rw [if_pos rfl] at hB2
      split at hB2
      · simp only [Option.some.injEq] at hB2
        subst hB2
        exact ⟨i', by simp [hk], hok hle⟩
      · cases hB2
    · rw [if_neg hkj] at hB2
      obtain ⟨j2, hj2, hok2⟩ := h.sim.blk j B2 hB2
      exact ⟨j2, by simp only [List.getElem?_set, if_neg hkj]; exact hj2, hok2.mono_same hle (fun _ _ hI => hI) (fun c hc => hold c (hok2.lt hc))⟩
  · intro j j' B1 B2 i1 i2 c h1 h2 g1 g2 c1 c2
    by_cases hkj : k = j <;> by_cases hkj' : k = j'
    · omega
    · subst hkj
      simp [hk] at g1
      subst g1
      simp only [List.getElem?_set, if_neg hkj'] at h2 g2
      have := hlt j' B2 i2 c h2 g2 c2
      have := hnew c c1
      omega
    · subst hkj'
      simp [hk] at g2
      subst g2
      simp only [List.getElem?_set, if_neg hkj] at h1 g1
      have := hlt j B1 i1 c h1 g1 c1
      have := hnew c c2
      omega
    · simp only [List.getElem?_set, if_neg hkj] at h1 g1
      simp only [List.getElem?_set, if_neg hkj'] at h2 g2
      exact h.sim.apart j j' B1 B2 i1 i2 c h1 h2 g1 g2 c1 c2
  · exact h.frm.trans (L' := fun _ => False) ⟨hos, ht, hout, hsz, fun b hb _ => hold b hb⟩ (fun _ _ hf => hf.elim)
  · rintro c ⟨j, B2, i2, h1, h2, h3⟩
    by_cases hkj : k = j
    · subst hkj
      simp [hk] at h2
      subst h2
      have := hnew c h3
      exact .inr (by have := h.frm.size; omega)
    · simp only [List.getElem?_set, if_neg hkj] at h1 h2
      exact h.live c ⟨j, B2, i2, h1, h2, h3⟩

theorem run_append_zero {t ty e : TypeId} {i : TypeInfo} (ht : P.underlying t = some (.slice e)) (hi : P.info? e = some i) (A A' : Option Addr) (n cap c : Nat) (hn : n ≤ cap) :
    (Builtin.append_ #[t, t] ty #[.slice A n cap, .slice A' 0 c]).run P w = .ok (.slice A n cap) w := by
  have hf : (Builtin.firstCells i.size 0 (.slice A' 0 c)).run P w = .ok #[] w := by
    cases A' with
    | none => simp [Builtin.firstCells]
    | some ad => simp [Builtin.firstCells, loadCells, loadCellsFrom]
  cases A with
  | none => simp [Builtin.append_, run_underlying ht, sizeOf, typeInfo, hi, Builtin.lenOf, hn, hf]
  | some ad => simp [Builtin.append_, run_underlying ht, sizeOf, typeInfo, hi, Builtin.lenOf, hn, hf, storeCells]

theorem mul_split (n m s : Nat) : (n + m) * s = n * s + m * s := Nat.add_mul n m s

/-- What append tells of a nil slice or an own array, in a state that has it as own array k. -/
theorem append_own {t ty e : TypeId} {ti : TypeInfo} {z : Value} (hu : P.underlying t = some (.slice e)) (hi : P.info? e = some ti) (hz : ti.zero = some z) (hzs : z.cells.size = ti.size)
    (hE : InvE w0 E0 H0 st a w E) {k g n : Nat} {B : ABlk} {v v' : Value} {m : Nat} {news : List AC} (hB : blkAt st.heap k g = some B) (hr : RelV w E (.one (.own k g 0 n)) v)
    (hsz : B.size = ti.size) (hel : B.elem = e) (hn : n * ti.size ≤ B.cells.length) (hpos : 0 < ti.size)
    (hsrc : ∃ A cap, v' = .slice A m cap ∧ (A = none → news = []) ∧ ∀ ad, A = some ad → Readable w E ad news) (hl : news.length = m * ti.size)
    (hby : (n + m) * ti.bytes ≤ 140737488355328) (hmax : n + m ≤ maxLen) :
    ∃ r w' E', (Builtin.append_ #[t, t] ty #[v, v']).run P w = .ok r w' ∧ RelV w' E' (.one (.own k st.clk 0 (n + m))) r ∧
      InvE w0 E0 H0 { st with heap := st.heap.set k (some ⟨st.clk, e, ti.size, B.cells.take (n * ti.size) ++ news⟩), clk := st.clk + 1 } a w' E' := by
  obtain ⟨i, ad, cap, hk, hg, hik, hok, hv, h1, h2, h3, h4⟩ := hE.at_own hB hr
  obtain ⟨A, c, hv', hnone, hsome⟩ := hsrc
  have hkl : k < E.β.length := (List.getElem?_eq_some_iff.1 hik).1
  have his : i.size = ti.size := by rw [hok.2.2.1, hsz]
  have hclk := hE.clk
  have hmm := mul_split n m ti.size
  have htl : (B.cells.take (n * ti.size)).length = n * ti.size := by rw [List.length_take]; omega
  subst hv; subst hv'
  -- the new array in a new block
  have fresh : ∀ (vs : List Value) (r : Value) (newCap : Nat) (us : List Value), RelCs w E (B.cells.take (n * ti.size) ++ news) vs → n + m ≤ newCap → newCap ≤ maxLen → (vs ++ us).length = newCap * ti.size →
      ∃ E', RelV (w.drew.alloc (.cells (vs ++ us).toArray e)) E' (.one (.own k st.clk 0 (n + m))) (.slice (some ⟨w.heap.size, 0, none⟩) (n + m) newCap) ∧
        InvE w0 E0 H0 { st with heap := st.heap.set k (some ⟨st.clk, e, ti.size, B.cells.take (n * ti.size) ++ news⟩), clk := st.clk + 1 } a (w.drew.alloc (.cells (vs ++ us).toArray e)) E' := by
    intro vs r newCap us hrel hc1 hc2 hlen
    have hlv := hrel.1
    have hT := hE.drew.turn (k := k) (B := B) (w' := w.drew.alloc (.cells (vs ++ us).toArray e)) (i' := ⟨E.clk, some w.heap.size, e, ti.size, (vs ++ us).length⟩) (B' := ⟨st.clk, e, ti.size, B.cells.take (n * ti.size) ++ news⟩) hk
      (fun b hb => alloc_old w.drew _ b hb) (by simp) rfl rfl ⟨rfl, Nat.le_refl _⟩ (fun b hb => by simpa using hb.symm) rfl (fun hle => ⟨hclk, rfl, rfl, Nat.lt_succ_self _, by
        refine ⟨fun hI => Nat.lt_irrefl _ (hE.sim.I _ hI), .inl ⟨vs ++ us, heap_alloc_new w.drew _, rfl, ?_, ?_⟩⟩
        · show (B.cells.take (n * ti.size) ++ news).length ≤ (vs ++ us).length
          rw [hlv, List.length_append]; omega
        · have e1 : (vs ++ us).take (B.cells.take (n * ti.size) ++ news).length = vs := by rw [hlv]; simp
          rw [e1]
          exact (hrel.mono (le_drew w E)).mono hle⟩)
    refine ⟨_, ⟨rfl, ?_, fun q hq _ => ?_⟩, hT.1⟩
    · rw [hT.1.clk]; exact Nat.lt_succ_self _
    · simp [hkl] at hq
      subst hq
      exact ⟨_, _, rfl, hc1, hc2, by simp only [Nat.zero_add]; rw [List.length_append] at hlen; exact Nat.le_of_eq hlen.symm, fun _ => rfl⟩
  by_cases hm0 : m = 0
  · -- nothing is appended
    subst hm0
    have hnews : news = [] := List.eq_nil_of_length_eq_zero (by omega)
    subst hnews
    have hrun := run_append_zero (P := P) (w := w) (ty := ty) hu hi ad A n cap c h1
    refine ⟨.slice ad n cap, w, ?_⟩
    cases hb : i.blk with
    | none =>
      rw [hb] at h4
      obtain ⟨rfl, rfl⟩ := h4
      obtain ⟨b1, b2, b3, b4, b5⟩ := hok
      rw [hb] at b5
      have hT := hE.turn (k := k) (B := B) (w' := w) (i' := { i with gen := E.clk }) (B' := ⟨st.clk, e, ti.size, B.cells.take (n * ti.size) ++ []⟩) hk
        (fun b _ => rfl) (Nat.le_refl _) rfl rfl ⟨rfl, Nat.le_refl _⟩ (fun b hb' => by simp [hb] at hb') rfl (fun hle => ⟨hclk, by rw [← hel, ← b2], his, Nat.lt_succ_self _, by simp only [hb]; simp [b5.1, b5.2]⟩)
      refine ⟨_, hrun, ⟨rfl, ?_, fun q hq _ => ?_⟩, hT.1⟩
      · rw [hT.1.clk]; exact Nat.lt_succ_self _
      · simp [hkl] at hq
        subst hq
        exact ⟨_, _, rfl, h1, h2, h3, by simp [hb]⟩
    | some b =>
      rw [hb] at h4
      obtain ⟨hnI, C, hC, hCl, hBl, hrel⟩ := hok.cells (blkAt_size hB) hb
      obtain ⟨b1, b2, b3, b4, b5⟩ := hok
      have hW := hE.write (k := k) (B := B) (B' := ⟨st.clk, e, ti.size, B.cells.take (n * ti.size) ++ []⟩) (i := i) (i' := { i with gen := st.clk }) (b := b) (clk' := st.clk + 1) (C' := C) hk hik hb hb rfl rfl hCl rfl
        (by rw [← hel, ← b2]) his (by simp; omega) (by
          simp only [List.append_nil]
          rw [htl]
          have := hrel.take (n * ti.size)
          rw [List.take_take, Nat.min_eq_left hn] at this
          exact this) (blkAt_size hB) (.inr ⟨rfl, rfl⟩)
      rw [setRow_self w b C.toArray i.elem (0, 0) hC] at hW
      refine ⟨_, hrun, ⟨rfl, ?_, fun q hq _ => ?_⟩, hW.1⟩
      · exact Nat.lt_succ_self _
      · simp [hkl] at hq
        subst hq
        exact ⟨_, _, rfl, h1, h2, h3, by simp only [hb]; exact h4⟩
  · -- something is
    obtain ⟨ad', rfl⟩ : ∃ ad', A = some ad' := by
      cases A with
      | none =>
        have := hnone rfl
        subst this
        have : m * ti.size = 0 := by simpa using hl.symm
        rcases Nat.mul_eq_zero.1 this with h | h <;> omega
      | some ad' => exact ⟨ad', rfl⟩
    obtain ⟨us, hru, hcu⟩ := hsome ad' rfl
    have hul : us.length = m * ti.size := by rw [← hru.1, hl]
    have h63 : (((n + m : Nat)) : Int) ≤ 9223372036854775807 := by simp only [maxLen] at hmax; omega
    have hcapok : ∀ old, n + m ≤ grownCap w (n + m) old e ∧ grownCap w (n + m) old e ≤ maxLen := fun old => ⟨grownCap_ge _ _ _ _, grownCap_le_maxLen _ _ _ _ hmax⟩
    have hzc : ∀ q, (Builtin.zeroCells z.cells q).toList.length = q * ti.size := fun q => by rw [Array.length_toList, size_zeroCells, hzs]
    have nilcase : n = 0 → ∃ r w' E', (Builtin.append_ #[t, t] ty #[.slice none 0 0, .slice (some ad') m c]).run P w = .ok r w' ∧ RelV w' E' (.one (.own k st.clk 0 (n + m))) r ∧
      InvE w0 E0 H0 { st with heap := st.heap.set k (some ⟨st.clk, e, ti.size, B.cells.take (n * ti.size) ++ news⟩), clk := st.clk + 1 } a w' E' := by
      intro hn0
      subst hn0
      have hrun := run_append_nil (P := P) w t ty e ti z hu hi hz ad' m c us hul hcu (by omega) (by omega) (by have := hby; simp only [Nat.zero_add] at this; omega)
      obtain ⟨E', hr', hI'⟩ := fresh us (.slice none 0 0) (grownCap w m 0 e) (Builtin.zeroCells z.cells (grownCap w m 0 e - m)).toList (by simpa using hru) (by have := (hcapok 0).1; simpa using this) (by have := (hcapok 0).2; simpa using this) (by
        have hge := (hcapok 0).1
        simp only [Nat.zero_add] at hge
        rw [List.length_append, hzc, hul, ← Nat.add_mul]; congr 1; omega)
      refine ⟨_, _, E', hrun, ?_, ?_⟩
      · have e1 : us.toArray ++ Builtin.zeroCells z.cells (grownCap w m 0 e - m) = (us ++ (Builtin.zeroCells z.cells (grownCap w m 0 e - m)).toList).toArray := by apply Array.ext'; simp
        rw [e1]; simpa using hr'
      · have e1 : us.toArray ++ Builtin.zeroCells z.cells (grownCap w m 0 e - m) = (us ++ (Builtin.zeroCells z.cells (grownCap w m 0 e - m)).toList).toArray := by apply Array.ext'; simp
        rw [e1]; exact hI'
    cases hb : i.blk with
    | none =>
      rw [hb] at h4
      obtain ⟨rfl, rfl⟩ := h4
      have hn0 : n = 0 := by omega
      have := nilcase hn0
      rw [hn0] at this ⊢
      exact this
    | some b =>
      rw [hb] at h4
      obtain ⟨hnI, C, hC, hCl, hBl, hrel⟩ := hok.cells (blkAt_size hB) hb
      obtain ⟨b1, b2, b3, b4, b5⟩ := hok
      have hroomcap : cap * ti.size ≤ C.length := by rw [his] at h3; omega
      by_cases hroom : n + m ≤ cap
      · -- in place
        have had := h4 (by omega)
        subst had
        have hie : i.elem = e := by rw [b2, hel]
        rw [hie] at hC
        have hcm : (n + m) * ti.size ≤ cap * ti.size := Nat.mul_le_mul_right _ hroom
        have hrun := run_append_room (P := P) w t ty e ti hu hi b n cap C.toArray hC ad' m c us hul hcu (fun u hu' => by
          obtain ⟨j, hj⟩ := List.mem_iff_getElem?.1 hu'
          have hjl : j < news.length := by rw [hru.1]; exact (List.getElem?_eq_some_iff.1 hj).1
          exact (hru.2 j _ u (List.getElem?_eq_getElem hjl) hj).1) hroom (by rw [hul]; simp; omega)
        have hW := hE.write (k := k) (B := B) (B' := ⟨st.clk, e, ti.size, B.cells.take (n * ti.size) ++ news⟩) (i := i) (i' := { i with gen := st.clk }) (b := b) (clk' := st.clk + 1)
          (C' := C.take (n * ti.size) ++ us ++ C.drop (n * ti.size + us.length)) hk hik hb hb rfl rfl (by simp only [List.length_append, List.length_take, List.length_drop]; omega) rfl
          hie his (by simp only [List.length_append]; omega) (by
            simp only
            have e1 : (C.take (n * ti.size) ++ us ++ C.drop (n * ti.size + us.length)).take (B.cells.take (n * ti.size) ++ news).length = C.take (n * ti.size) ++ us := by
              have : (B.cells.take (n * ti.size) ++ news).length = (C.take (n * ti.size) ++ us).length := by simp only [List.length_append, List.length_take]; omega
              rw [this, List.take_left']
              rfl
            rw [e1]
            have h5 := hrel.take (n * ti.size)
            rw [List.take_take, Nat.min_eq_left hn] at h5
            exact h5.append hru) (blkAt_size hB) (.inr ⟨rfl, rfl⟩)
        simp only [List.toList_toArray] at hrun
        refine ⟨_, _, _, hrun, ⟨rfl, ?_, fun q hq _ => ?_⟩, hW.1⟩
        · exact Nat.lt_succ_self _
        · simp [hkl] at hq
          subst hq
          exact ⟨_, _, rfl, hroom, h2, h3, by simp [hb]⟩
      · -- it grows
        have grow : ∀ ad0, ad = some ad0 → (0 < n → ad0 = ⟨b, 0, none⟩) → ∃ r w' E', (Builtin.append_ #[t, t] ty #[.slice ad n cap, .slice (some ad') m c]).run P w = .ok r w' ∧ RelV w' E' (.one (.own k st.clk 0 (n + m))) r ∧
            InvE w0 E0 H0 { st with heap := st.heap.set k (some ⟨st.clk, e, ti.size, B.cells.take (n * ti.size) ++ news⟩), clk := st.clk + 1 } a w' E' := by
          intro ad0 had hpn
          subst had
          have hco : ∀ j u, (C.take (n * ti.size))[j]? = some u → w.cell? (ad0.add j) = some u := by
            intro j u hj
            rcases Nat.eq_zero_or_pos n with h0 | h0
            · subst h0; simp at hj
            · rw [hpn h0, add_lit, World.cell?, hC]
              rw [List.getElem?_take] at hj
              split at hj
              · simpa using hj
              · cases hj
          have hcl : (C.take (n * ti.size)).length = n * ti.size := by rw [List.length_take]; omega
          have hrun := run_append_grow (P := P) w t ty e ti z hu hi hz ad0 n cap (C.take (n * ti.size)) hcl hco ad' m c us hul hcu (by omega) h63 (growslice_fits (by omega) hby)
          have hrelo : RelCs w E (B.cells.take (n * ti.size)) (C.take (n * ti.size)) := by
            have h5 := hrel.take (n * ti.size)
            rwa [List.take_take, Nat.min_eq_left hn] at h5
          obtain ⟨E', hr', hI'⟩ := fresh (C.take (n * ti.size) ++ us) (.slice none 0 0) (grownCap w (n + m) cap e) (Builtin.zeroCells z.cells (grownCap w (n + m) cap e - (n + m))).toList (hrelo.append hru) (hcapok cap).1 (hcapok cap).2 (by
            have hge := (hcapok cap).1
            rw [List.length_append, List.length_append, hzc, hul, hcl, ← Nat.add_mul, ← Nat.add_mul]; congr 1; omega)
          have e1 : (C.take (n * ti.size)).toArray ++ us.toArray ++ Builtin.zeroCells z.cells (grownCap w (n + m) cap e - (n + m)) = (C.take (n * ti.size) ++ us ++ (Builtin.zeroCells z.cells (grownCap w (n + m) cap e - (n + m))).toList).toArray := by apply Array.ext'; simp
          rw [e1] at hrun
          exact ⟨_, _, E', hrun, hr', hI'⟩
        rcases Nat.eq_zero_or_pos cap with hc0 | hc0
        · subst hc0
          have hn0 : n = 0 := by omega
          cases ad with
          | none =>
            have := nilcase hn0
            rw [hn0] at this ⊢
            exact this
          | some ad0 => exact grow ad0 rfl (fun h => by omega)
        · have had := h4 hc0
          exact grow ⟨b, 0, none⟩ had (fun _ => rfl)

theorem zero_of {e : TypeId} {ti : TypeInfo} (hi : P.info? e = some ti) {z : List AC} (hz : zeroT P e = some z) : ∃ v, ti.zero = some v ∧ z.length = v.cells.size := by
  unfold zeroT at hz
  simp only [hi] at hz
  cases h : ti.zero with
  | none => simp [h] at hz
  | some v =>
    simp [h] at hz
    exact ⟨v, rfl, by rw [← hz.2]; simp⟩

theorem set_snoc {α : Type} (l : List α) (x y : α) : (l ++ [x]).set l.length y = l ++ [y] := by
  simp [List.set_append]

theorem ok_append {t u ty : TypeId} {x y : Operand} (ho : o.op = .call { callee := .builtin .append, args := #[x, y], argTypes := #[t, u] })
    (h : appendA P st.heap st.clk t u (st.eval x) (st.eval y) fun v H c => K (ASt.put ⟨st.tmps, H, c⟩ o.dst v)) : OpOk P o st K := by
  unfold appendA at h
  split at h
  · rename_i e size bytes m news hT hel
    obtain ⟨⟨rfl, hpos, hl, hzz⟩, h⟩ := h
    obtain ⟨z, hz, hzl⟩ : ∃ z, zeroT P e = some z ∧ z.length = size := by
      cases hz : zeroT P e with
      | none => simp [hz] at hzz
      | some z => simp [hz] at hzz; exact ⟨z, rfl, hzz⟩
    obtain ⟨hu, ti, hi, rfl, rfl⟩ := sliceT_some hT
    obtain ⟨v, hv, hvs⟩ := zero_of hi hz
    simp only [hT, Option.map_some, Option.getD_some] at hel
    split at h
    · rename_i hx
      obtain ⟨⟨hby, hmax⟩, h⟩ := h
      refine opOk_value fun w0 E0 H0 a w E hE => ?_
      have hr := hE.eval x
      rw [hx] at hr
      generalize hq : a.eval x = q at hr
      cases hr with
      | nil =>
        obtain ⟨hE1, hle⟩ := hE.snocNil e ti.size
        obtain ⟨A, cap, hvy, _, _, h1, h2⟩ := hE.elems (hE.eval y) hel
        have h2' : ∀ ad, A = some ad → Readable w (E.snoc ⟨E.clk, none, e, ti.size, 0⟩) ad news := fun ad had => let ⟨vs, hr, hc⟩ := h2 ad had; ⟨vs, hr.mono hle, hc⟩
        have hlenn : (st.heap ++ [some ⟨st.clk, e, ti.size, []⟩])[st.heap.length]? = some (some (⟨st.clk, e, ti.size, []⟩ : ABlk)) := by simp
        obtain ⟨r, w', E', hrun, hrel, hI⟩ := append_own (P := P) (t := u) (ty := o.type) hu hi hv (by rw [← hvs, hzl]) hE1 (k := st.heap.length) (g := st.clk) (n := 0) (B := ⟨st.clk, e, ti.size, []⟩) (v := .slice none 0 0) (v' := a.eval y) (m := m) (news := news)
          (by simp [blkAt]; omega) ⟨rfl, by simp [Env.snoc, hE.clk], fun i hi' _ => by
            simp only [Env.snoc] at hi'
            rw [← hE.sim.len, List.getElem?_append_right (Nat.le_refl _)] at hi'
            simp at hi'; subst hi'
            exact ⟨none, 0, rfl, Nat.le_refl _, Nat.zero_le _, by simp, rfl, rfl⟩⟩ rfl rfl (by simp) hpos ⟨A, cap, hvy, h1, h2'⟩ hl (by simpa using hby) (by simpa using hmax)
        simp only [set_snoc, Nat.zero_mul, List.take_zero, List.nil_append, Nat.zero_add] at hI hrel
        refine ⟨r, w', _, _, E', ?_, hI, hrel, h⟩
        simp [execOp, ho, resolve, invoke, builtin, hq, hrun]
    · rename_i k g off n hx
      split at h
      · rename_i B hB
        obtain ⟨⟨rfl, hs, hbe, hn, hby, hmax⟩, h⟩ := h
        refine opOk_value fun w0 E0 H0 a w E hE => ?_
        have hr := hE.eval x
        rw [hx] at hr
        obtain ⟨A, cap, hvy, _, _, h1, h2⟩ := hE.elems (hE.eval y) hel
        obtain ⟨r, w', E', hrun, hrel, hI⟩ := append_own (P := P) (t := u) (ty := o.type) hu hi hv (by rw [← hvs, hzl]) hE hB hr hs hbe hn hpos ⟨A, cap, hvy, h1, h2⟩ hl hby hmax
        refine ⟨r, w', _, _, E', ?_, hI, hrel, h⟩
        simp [execOp, ho, resolve, invoke, builtin, hrun]
      · exact h.elim
    · exact h.elim
  · exact h.elim
end
end Go.Abs
namespace Go.Abs
set_option linter.unusedSimpArgs false
set_option linter.unusedVariables false
set_option linter.unnecessarySimpa false
open Go

section
variable {P : Program} {w0 w : World} {E0 E : Env} {H0 : AHeap} {st : ASt} {a : Act} {o : Oper} {K : ASt → Prop}

theorem ok_copy {t u : TypeId} {x y : Operand} (ho : o.op = .call { callee := .builtin .copy, args := #[x, y], argTypes := #[t, u] })
    (h : copyA P st.heap t (st.eval x) (st.eval y) fun v H => K (ASt.put ⟨st.tmps, H, st.clk⟩ o.dst v)) : OpOk P o st K := by
  unfold copyA at h
  split at h
  · rename_i e size bytes m news hT hel
    obtain ⟨hu, ti, hi, rfl, rfl⟩ := sliceT_some hT
    simp only [hT, Option.map_some, Option.getD_some] at hel
    split at h
    · rename_i k g off n hx
      split at h
      · rename_i B hB
        obtain ⟨⟨hs, hl, hroom⟩, h⟩ := h
        refine opOk_value fun w0 E0 H0 a w E hE => ?_
        have hr := hE.eval x
        rw [hx] at hr
        obtain ⟨A, cap', hvy, _, _, h1, h2⟩ := hE.elems (hE.eval y) hel
        obtain ⟨i, ad, cap, hk, hg, hj, hok, hv, g1, g2, g3, g4⟩ := hE.at_own hB hr
        have hjs : i.size = ti.size := by rw [hok.2.2.1, hs]
        obtain ⟨c, hc⟩ : ∃ c, c = min m n := ⟨_, rfl⟩
        rw [← hc] at h
        have hsz : (sizeOf e).run P w = .ok ti.size w := by simp [sizeOf, typeInfo, hi]
        have hfin : ∀ (cells : Array Value) (w' : World) (hld : (Builtin.firstCells ti.size c (.slice A m cap')).run P w = .ok cells w) (hst : (do if let some a := ad then storeCells a cells.toList : Sem Unit).run P w = .ok () w'),
            (execOp a.eval o).run P w = .ok (.value (.int .i64 c)) w' := by
          intro cells w' hld hst
          simp only [execOp, ho, resolve, invoke, builtin]
          have e1 : Nat.min m n = c := hc.symm
          simp [Builtin.copy_, run_underlying hu, hv, hvy, Builtin.lenOf, hsz, e1, hld, goInt]
          cases ad with
          | none => simp at hst; subst hst; simp
          | some ad0 => simp at hst; simp [hst]
        by_cases hc0 : c * ti.size = 0
        · have hB' : ({ B with cells := B.cells.take off ++ news.take (c * ti.size) ++ B.cells.drop (off + c * ti.size) } : ABlk) = B := by
            rw [hc0]; simp
          have hH : st.heap.set k (some B) = st.heap := by
            obtain ⟨hlt, hget⟩ := List.getElem?_eq_some_iff.1 hk
            rw [← hget]; exact List.set_getElem_self hlt
          rw [hB', hH] at h
          refine ⟨.int .i64 c, w, iv .i64 c, st, E, ?_, hE, RelD.s rfl, h⟩
          refine hfin #[] w ?_ ?_
          · cases A with
            | none => simp [Builtin.firstCells]
            | some a0 =>
              have := run_loadCells_list (P := P) w a0 [] (by simp)
              simpa [Builtin.firstCells, hc0] using this
          · cases ad with
            | none => simp
            | some a0 => simp [storeCells]
        · have hcp : 0 < c := by rcases Nat.eq_zero_or_pos c with h | h; · simp [h] at hc0
                                 · exact h
          have hsp : 0 < ti.size := by rcases Nat.eq_zero_or_pos ti.size with h | h; · simp [h] at hc0
                                       · exact h
          have hcm : c ≤ m := by omega
          have hcn : c ≤ n := by omega
          have hle1 : c * ti.size ≤ m * ti.size := Nat.mul_le_mul_right _ hcm
          have hle2 : c * ti.size ≤ n * ti.size := Nat.mul_le_mul_right _ hcn
          obtain ⟨a0, rfl⟩ : ∃ a0, A = some a0 := by
            cases A with
            | none => have := h1 rfl; subst this; simp at hl; omega
            | some a0 => exact ⟨a0, rfl⟩
          obtain ⟨vs, hrel, hcell⟩ := h2 a0 rfl
          have hvl := hrel.1
          cases hb : i.blk with
          | none => rw [hb] at g4; omega
          | some b =>
            rw [hb] at g4
            have had := g4 (by omega)
            subst had
            obtain ⟨hnI, C, hC, hCl, hBl, hrelB⟩ := hok.cells (blkAt_size hB) hb
            obtain ⟨e1, e2, e3, e4, _⟩ := hok
            have hlen : (vs.take (c * ti.size)).length = c * ti.size := by simp; omega
            have hld := run_loadCells_list (P := P) w a0 (vs.take (c * ti.size)) (fun j v hj => by
              rw [List.getElem?_take] at hj
              split at hj
              · exact hcell _ _ hj
              · cases hj)
            rw [hlen] at hld
            have hrt := hrel.take (c * ti.size)
            have hone : ∀ v ∈ vs.take (c * ti.size), v.oneCell' = true := fun u hu => by
              obtain ⟨j, hj⟩ := List.mem_iff_getElem?.1 hu
              have hjl : j < (news.take (c * ti.size)).length := by rw [hrt.1]; exact (List.getElem?_eq_some_iff.1 hj).1
              exact (hrt.2 j _ u (List.getElem?_eq_getElem hjl) hj).1
            have hst := run_storeCells_at P b off i.elem (vs.take (c * ti.size)) 0 C.toArray w hC (by rw [hlen]; simp; omega) hone
            have hnl : (news.take (c * ti.size)).length = c * ti.size := by simp; omega
            have hcells : B.cells.take off ++ news.take (c * ti.size) ++ B.cells.drop (off + c * ti.size) = splice B.cells off (news.take (c * ti.size)) := by
              rw [splice_eq _ _ _ (by rw [hnl]; omega), hnl]
            have hw := hE.write (B' := { B with cells := splice B.cells off (news.take (c * ti.size)) }) (i' := i) (b := b) (clk' := st.clk) (C' := C.take off ++ vs.take (c * ti.size) ++ C.drop (off + c * ti.size))
              hk hj hb hb rfl rfl (by simp; omega) e1 e2 e3 (by simp only; rw [length_splice _ _ _ (by rw [hnl]; omega)]; exact hBl) (by
                simp only
                rw [length_splice _ _ _ (by rw [hnl]; omega)]
                have hs := hrelB.splice hrt (off := off) (by rw [hnl]; omega)
                have e : (C.take off ++ vs.take (c * ti.size) ++ C.drop (off + c * ti.size)).take B.cells.length =
                    (C.take B.cells.length).take off ++ vs.take (c * ti.size) ++ (C.take B.cells.length).drop (off + (vs.take (c * ti.size)).length) := by
                  rw [hlen, List.take_take, Nat.min_eq_left (by omega), List.drop_take, List.append_assoc, List.append_assoc, List.take_append, List.take_append]
                  have l1 : (C.take off).length = off := by simp; omega
                  rw [l1, hlen]
                  congr 1
                  · rw [List.take_of_length_le (by simp; omega)]
                  · congr 1
                    · rw [List.take_of_length_le (by rw [hlen]; omega)]
                    · congr 1; omega
                rw [e]
                exact hs) (blkAt_size hB) (.inl ⟨rfl, rfl⟩)
            rw [hcells] at h
            simp only [Nat.add_zero, hlen] at hst
            refine ⟨.int .i64 c, _, iv .i64 c, _, _, ?_, hw.1, RelD.s rfl, h⟩
            refine hfin _ _ (by simpa [Builtin.firstCells] using hld) ?_
            simpa using hst
      · exact h.elim
    · exact h.elim
  · exact h.elim

theorem ok_max {x y : Operand} {ts : Array TypeId} {k : IntKind} {m n : Int} (ho : o.op = .call { callee := .builtin .max, args := #[x, y], argTypes := ts }) (hx : st.eval x = .one (.d (.s (.int k m)))) (hy : st.eval y = .one (.d (.s (.int k n))))
    (h : K (st.put o.dst (iv k (max m n)))) : OpOk P o st K := by
  refine opOk_same (x := iv k (max m n)) (fun w0 E0 H0 a w E hE => ⟨.int k (max m n), ?_, RelD.s rfl⟩) h
  simp [execOp, ho, resolve, invoke, builtin, Builtin.max_, Builtin.max2, scal_int hE hx, scal_int hE hy, List.foldlM]
  split <;> omega
theorem ok_min {x y : Operand} {ts : Array TypeId} {k : IntKind} {m n : Int} (ho : o.op = .call { callee := .builtin .min, args := #[x, y], argTypes := ts }) (hx : st.eval x = .one (.d (.s (.int k m)))) (hy : st.eval y = .one (.d (.s (.int k n))))
    (h : K (st.put o.dst (iv k (min m n)))) : OpOk P o st K := by
  refine opOk_same (x := iv k (min m n)) (fun w0 E0 H0 a w E hE => ⟨.int k (min m n), ?_, RelD.s rfl⟩) h
  simp [execOp, ho, resolve, invoke, builtin, Builtin.min_, Builtin.min2, scal_int hE hx, scal_int hE hy, List.foldlM]
  split <;> omega
/-- A value that is told whole is that value. -/
theorem val_rel {x : AV} {v u : Value} (hx : x.val? = some u) (hr : RelV w E x v) : v = u := by
  have one : ∀ {c : AC} {u v : Value}, c.val? = some u → RelC w E c v → v = u := by
    intro c u v hc h
    unfold AC.val? at hc
    split at hc
    · cases hc; cases h; rfl
    · cases hc
  cases x with
  | one c => exact one hx hr
  | agg cs =>
    obtain ⟨l, rfl, hrl⟩ := hr
    simp only [AV.val?] at hx
    cases hm : cs.mapM AC.val? with
    | none => simp [hm] at hx
    | some vs =>
      simp [hm] at hx; subst hx
      congr 2
      induction cs generalizing l vs with
      | nil =>
        simp at hm; subst hm
        have := hrl.1
        cases l with
        | nil => rfl
        | cons => simp at this
      | cons c cs ih =>
        rw [List.mapM_cons] at hm
        cases h1 : c.val? with
        | none => simp [h1] at hm
        | some u =>
          cases h2 : cs.mapM AC.val? with
          | none => simp [h1, h2] at hm
          | some us =>
            simp [h1, h2] at hm; subst hm
            cases l with
            | nil => have := hrl.1; simp at this
            | cons q l =>
              rw [one h1 (hrl.2 0 c q rfl rfl).2, ih l ⟨by simpa using hrl.1, fun j c' v' hc hv => hrl.2 (j + 1) c' v' hc hv⟩ us h2]
  | tup vs => cases hx
theorem ofV_rel {v : Value} (h1 : oneCells v = true) : RelV1 w E (AV.ofV v) v := by
  unfold AV.ofV
  split
  · rename_i cs
    exact ⟨cs.toList, by simp, rel_zero (v := .agg cs) h1⟩
  · exact ofValue_rel v
theorem ok_makeMap {t : TypeId} (ho : o.op = .makeMap t none) (h : K (ASt.put ⟨st.tmps, st.heap ++ [some ⟨st.clk, 0, 0, [.obj [] 0]⟩], st.clk + 1⟩ o.dst (.one (.mp st.heap.length st.clk)))) : OpOk P o st K := by
  refine opOk_value fun w0 E0 H0 a w E hE => ?_
  obtain ⟨hE', hle⟩ := hE.allocMap
  refine ⟨_, _, _, _, _, ?_, hE', rel_new_map hE _, h⟩
  simp [execOp, ho, Instr.makeMap, newObj, Sem.run]
theorem ok_lookup {t : TypeId} {m k : Operand} {ok : Bool} (ho : o.op = .lookup t m k ok) (h : lookupA P st.heap t (st.eval m) (st.eval k) ok fun v => K (ASt.put ⟨st.tmps, st.heap, st.clk⟩ o.dst v)) : OpOk P o st K := by
  obtain ⟨kv, es, found, x, hk, hm, ⟨h1, hg⟩, hK⟩ := h
  refine opOk_same (x := if ok then .tup [AV.ofV x, bv found] else AV.ofV x) (fun w0 E0 H0 a w E hE => ⟨if ok then .tuple #[x, .bool found] else x, ?_, ?_⟩) hK
  · have e1 : a.eval k = kv := val_rel hk (hE.eval k)
    have hr := hE.eval m
    have e2 : (a.eval m = .map none ∧ es = [] ∨ ∃ r c, a.eval m = .map (some r) ∧ w.heap[r]? = some (.map es.toArray c)) := by
      unfold mapsA at hm
      split at hm
      · rename_i j g hx
        cases hB : objAt st.heap j g with
        | none => simp [hB] at hm
        | some p =>
          obtain ⟨es', c⟩ := p
          simp [hB] at hm; subst hm
          rw [hx] at hr
          obtain ⟨B, i, b, _, _, _, _, _, _, _, _, _, _, hv, hmm⟩ := hE.at_map hB hr
          exact .inr ⟨b, c, hv, hmm⟩
      · rename_i es' c hx
        cases hm
        rw [hx] at hr
        generalize hq : a.eval m = q at hr
        cases hr with
        | map hI hmm => exact .inr ⟨_, _, rfl, hmm⟩
      · rename_i hx
        cases hm
        rw [hx] at hr
        generalize hq : a.eval m = q at hr
        cases hr with
        | s _ => exact .inl ⟨rfl, rfl⟩
      · cases hm
    simp [execOp, ho, e1, hg w _ e2 ok]
  · cases ok with
    | false =>
      have := ofV_rel (w := w) (E := E) h1
      simp only [Bool.false_eq_true, if_false]
      unfold AV.ofV at this ⊢
      split at this <;> exact this
    | true =>
      refine ⟨[x, .bool found], rfl, rfl, fun j y u hy hu => ?_⟩
      match j with
      | 0 => simp at hy hu; subst hy; subst hu; exact ofV_rel h1
      | 1 => simp at hy hu; subst hy; subst hu; exact RelD.s rfl
      | j + 2 => simp at hy
theorem ok_mapUpdate {t : TypeId} {m k v : Operand} (ho : o.op = .mapUpdate t m k v) (h : mapUpdA P st.heap t (st.eval m) (st.eval k) (st.eval v) fun H => K (ASt.put ⟨st.tmps, H, st.clk⟩ o.dst unknown)) : OpOk P o st K := by
  obtain ⟨j, g, es, c, kv, vv, es', c', hm, hB, hk, hv, hu, hK⟩ := h
  refine opOk_skip fun w0 E0 H0 a w E hE => ?_
  have e1 : a.eval k = kv := val_rel hk (hE.eval k)
  have e2 : a.eval v = vv := val_rel hv (hE.eval v)
  have hr := hE.eval m
  rw [hm] at hr
  obtain ⟨B, i, b, hkB, hgB, hsB, hcB, hi, hb, hgi, hei, hsi, hnI, hvm, hmm⟩ := hE.at_map hB hr
  have hW := hE.writeMap (B' := ⟨g, 0, 0, [.obj es' c']⟩) hkB hi hb hnI hmm hgi hei hsi rfl rfl
  refine ⟨_, _, _, ?_, hW.1, hK⟩
  simp [execOp, ho, e1, e2, hvm, hu w b hmm]
theorem ok_delete {t u : TypeId} {m k : Operand} (ho : o.op = .call { callee := .builtin .delete, args := #[m, k], argTypes := #[t, u] }) (h : mapDelA P st.heap t (st.eval m) (st.eval k) fun H => K (ASt.put ⟨st.tmps, H, st.clk⟩ o.dst unknown)) : OpOk P o st K := by
  obtain ⟨j, g, es, c, kv, es', hm, hB, hk, hu, hK⟩ := h
  refine opOk_value fun w0 E0 H0 a w E hE => ?_
  have e1 : a.eval k = kv := val_rel hk (hE.eval k)
  have hr := hE.eval m
  rw [hm] at hr
  obtain ⟨B, i, b, hkB, hgB, hsB, hcB, hi, hb, hgi, hei, hsi, hnI, hvm, hmm⟩ := hE.at_map hB hr
  have hW := hE.writeMap (B' := ⟨g, 0, 0, [.obj es' c]⟩) hkB hi hb hnI hmm hgi hei hsi rfl rfl
  refine ⟨.tuple #[], _, unknown, _, _, ?_, hW.1, trivial, hK⟩
  simp [execOp, ho, resolve, invoke, builtin, e1, hvm, hu w b u o.type hmm]
theorem run_callFunc {f : FuncId} (h : callable P f = true) (args : Array Value) : (callFunc f args).run P w = .ok (.enter f args) w := by
  unfold callable at h
  split at h
  · rename_i fn hf
    simp only [Bool.and_eq_true, Bool.not_eq_true'] at h
    have hb : fn.body ≠ none := by
      intro hbb; simp [hbb] at h
    have hn : fn.name ≠ "runtime.NumGoroutine" := by simpa using h.2
    simp [callFunc, hf, hn, hb]
  · cases h

theorem ok_enter {f : FuncId} {xs : List AV} (hrun : ∀ w0 E0 H0 a w E, InvE w0 E0 H0 st a w E → ∃ vals : List Value, (execOp a.eval o).run P w = .ok (.enter f vals.toArray) w ∧ RelVs w E xs vals)
    (h : ACall P f xs st.heap st.clk fun r H c => K (ASt.put ⟨st.tmps, H, c⟩ o.dst r)) : OpOk P o st K := by
  intro w0 E0 H0 a w ⟨E, hE⟩ N Q hN
  obtain ⟨vals, hrun, hargs⟩ := hrun w0 E0 H0 a w E hE
  have hcall := h w E _ hE.clk hE.sim hargs
  unfold Oper.wp
  rw [hrun]
  refine hcall.mono fun e w' => ?_
  rintro ⟨v, r, H', E', rfl, hle, hsim, hr, hfrm, hlive, hI0, hK⟩
  refine hN _ _ _ hK ⟨E', InvE.put (st := { st with heap := H', clk := E'.clk }) ⟨hE.dfr.mono hle, hE.le.trans hle, rfl, hsim, hE.rel.mono hle, ?_, ?_, fun b hb hI => (hI0 b (Nat.lt_of_lt_of_le hb hE.frm.size) hI).elim (fun h => hE.I0 b hb h) fun h => (hE.live b h).elim .inr fun h => absurd hb (Nat.not_lt.2 h)⟩ o.dst hr⟩ (put_defers _ _ _)
  · exact hE.frm.trans hfrm (fun b hb hL => by
      rcases hE.live b hL with h | h
      · exact h
      · omega)
  · intro b hb
    rcases hlive b hb with h | h
    · exact hE.live b h
    · have := hE.frm.size; exact .inr (by omega)
theorem caps_eq : ∀ {xs : List AV} {cs : List DC}, capsA xs = some cs → xs = cs.map fun c => .one (.d c)
  | [], cs, h => by simp [capsA] at h; subst h; rfl
  | .one (.d c) :: xs, cs, h => by
    simp only [capsA] at h
    cases hx : capsA xs with
    | none => simp [hx] at h
    | some ds =>
      simp [hx] at h
      subst h
      rw [caps_eq hx]; rfl
  | .one (.own ..) :: xs, cs, h => by simp [capsA] at h
  | .one (.ptr ..) :: xs, cs, h => by simp [capsA] at h
  | .one (.mp ..) :: xs, cs, h => by simp [capsA] at h
  | .one (.obj ..) :: xs, cs, h => by simp [capsA] at h
  | .one .any :: xs, cs, h => by simp [capsA] at h
  | .agg _ :: xs, cs, h => by simp [capsA] at h
  | .tup _ :: xs, cs, h => by simp [capsA] at h
theorem ok_makeFunc {f : FuncId} {captured : Array Operand} {cs : List DC} (ho : o.op = .makeFunc (.func f) #[] captured) (hc : capsA (captured.toList.map st.eval) = some cs)
    (h : K (ASt.put ⟨st.tmps, st.heap, st.clk⟩ o.dst (.one (.d (.fn f cs))))) : OpOk P o st K := by
  refine opOk_same (x := .one (.d (.fn f cs))) (fun w0 E0 H0 a w E hE => ?_) h
  have he := caps_eq hc
  have hl : cs.length = captured.size := by have := congrArg List.length he; simpa using this.symm
  refine ⟨.func (.func f) #[] (captured.map a.eval), ?_, ?_⟩
  · simp [execOp, ho, Instr.makeFunc]
  · have hv : captured.map a.eval = ((List.range cs.length).map fun j => (captured.toList.map a.eval).getD j undef).toArray := by
      apply Array.ext'
      apply List.ext_getElem
      · simp [hl]
      · intro j h1 h2
        simp at h1
        simp [List.getD_eq_getElem?_getD, h1]
    rw [hv]
    refine RelD.fn _ fun j hj => ?_
    have hj' : j < captured.size := hl ▸ hj
    have h1 := hE.eval captured[j]
    have h2 : st.eval captured[j] = .one (.d cs[j]) := by
      have := congrArg (fun l => l[j]?) he
      simpa [hj', hj] using this
    rw [h2] at h1
    have h3 : RelD w E.I cs[j] (a.eval captured[j]) := h1
    simpa [List.getD_eq_getElem?_getD, hj'] using h3
theorem ok_callV {x : Operand} {args : Array Operand} {ts : Array TypeId} {f : FuncId} {cs : List DC} (ho : o.op = .call { callee := .value x, args, argTypes := ts }) (hx : st.eval x = .one (.d (.fn f cs)))
    (hc : callable P f = true) (h : ACall P f (args.toList.map st.eval ++ cs.map fun c => .one (.d c)) st.heap st.clk fun r H c => K (ASt.put ⟨st.tmps, H, c⟩ o.dst r)) : OpOk P o st K := by
  refine ok_enter (fun w0 E0 H0 a w E hE => ?_) h
  have hr := hE.eval x
  rw [hx] at hr
  generalize hq : a.eval x = q at hr
  cases hr with
  | fn g hr =>
    refine ⟨args.toList.map a.eval ++ (List.range cs.length).map g, ?_, ?_, ?_⟩
    · have hm : (args.toList.map a.eval ++ (List.range cs.length).map g).toArray = args.map a.eval ++ ((List.range cs.length).map g).toArray := by apply Array.ext'; simp
      simp [execOp, ho, resolve, hq, Deferred.ofValue, invoke, run_callFunc hc, hm]
    · simp
    · intro j y v hy hv
      rcases Nat.lt_or_ge j args.size with h | h
      · rw [List.getElem?_append_left (by simpa using h)] at hy hv
        rw [List.getElem?_map] at hy hv
        cases hj : args.toList[j]? with
        | none => simp [hj] at hy
        | some z => simp [hj] at hy hv; subst hy; subst hv; exact hE.eval z
      · rw [List.getElem?_append_right (by simpa using h)] at hy hv
        rw [List.getElem?_map] at hy hv
        simp only [List.length_map, Array.length_toList] at hy hv
        cases hj : cs[j - args.size]? with
        | none => simp [hj] at hy
        | some z =>
          obtain ⟨hk, hz⟩ := List.getElem?_eq_some_iff.1 hj
          simp [hj] at hy
          simp [List.getElem?_range hk] at hv
          subst hy; subst hv
          have := hr (j - args.size) hk
          rw [hz] at this
          exact this
theorem xop_sound (h : xcore P o.op st.eval st.heap st.clk fun v H c => K (ASt.put ⟨st.tmps, H, c⟩ o.dst v)) : OpOk P o st K := by
  unfold xcore at h
  split at h
  · rename_i t hop; exact ok_makeMap hop h
  · rename_i t m k ok hop; exact ok_lookup hop h
  · rename_i t m k v hop; exact ok_mapUpdate hop h
  · rename_i args ts hop
    split at h
    · rename_i m k t u hargs hts
      obtain rfl : args = #[m, k] := by cases args; simp_all
      obtain rfl : ts = #[t, u] := by cases ts; simp_all
      exact ok_delete hop h
    · exact h.elim
  · rename_i args ts hop
    split at h
    · rename_i x y t u hargs hts
      obtain rfl : args = #[x, y] := by cases args; simp_all
      obtain rfl : ts = #[t, u] := by cases ts; simp_all
      exact ok_copy hop h
    · exact h.elim
  · rename_i args ts hop
    split at h
    · rename_i x y hargs
      obtain rfl : args = #[x, y] := by cases args; simp_all
      split at h
      · rename_i k m k' n hx hy
        obtain ⟨rfl, h⟩ := h
        exact ok_max hop hx hy h
      · exact h.elim
    · exact h.elim
  · rename_i args ts hop
    split at h
    · rename_i x y hargs
      obtain rfl : args = #[x, y] := by cases args; simp_all
      split at h
      · rename_i k m k' n hx hy
        obtain ⟨rfl, h⟩ := h
        exact ok_min hop hx hy h
      · exact h.elim
    · exact h.elim
  · rename_i f first captured hop
    split at h
    · rename_i cs hf hc
      obtain rfl : first = #[] := by cases first; simp_all
      exact ok_makeFunc hop hc h
    · exact h.elim
  · rename_i x args ts hop
    split at h
    · rename_i f cs hx
      exact ok_callV hop hx h.1 h.2
    · exact h.elim
  · exact h.elim
end
end Go.Abs
namespace Go.Abs
set_option linter.unusedSimpArgs false
set_option linter.unusedVariables false
set_option linter.unnecessarySimpa false
open Go

section
variable {P : Program} {w0 w : World} {E0 E : Env} {H0 : AHeap} {st : ASt} {a : Act} {o : Oper} {K : ASt → Prop}

theorem ok_call {f : FuncId} {args : Array Operand} {ts : Array TypeId} (ho : o.op = .call { callee := .value (.func f), args, argTypes := ts }) (hc : callable P f = true)
    (h : ACall P f (args.toList.map st.eval) st.heap st.clk fun r H c => K (ASt.put { st with heap := H, clk := c } o.dst r)) : OpOk P o st K := by
  intro w0 E0 H0 a w ⟨E, hE⟩ N Q hN
  have hargs : RelVs w E (args.toList.map st.eval) (args.toList.map a.eval) := ⟨by simp, fun j x v hx hv => by
    rw [List.getElem?_map] at hx hv
    cases hj : args.toList[j]? with
    | none => simp [hj] at hx
    | some y => simp [hj] at hx hv; subst hx; subst hv; exact hE.eval y⟩
  have hcall := h w E _ hE.clk hE.sim hargs
  have hrun : (execOp a.eval o).run P w = .ok (.enter f (args.toList.map a.eval).toArray) w := by
    have hm : (args.toList.map a.eval).toArray = args.map a.eval := by apply Array.ext'; simp
    simp [execOp, ho, resolve, Act.eval, Deferred.ofValue, invoke, run_callFunc hc, hm]
  unfold Oper.wp
  rw [hrun]
  refine hcall.mono fun e w' => ?_
  rintro ⟨v, r, H', E', rfl, hle, hsim, hr, hfrm, hlive, hI0, hK⟩
  refine hN _ _ _ hK ⟨E', InvE.put (st := { st with heap := H', clk := E'.clk }) ⟨hE.dfr.mono hle, hE.le.trans hle, rfl, hsim, hE.rel.mono hle, ?_, ?_, fun b hb hI => (hI0 b (Nat.lt_of_lt_of_le hb hE.frm.size) hI).elim (fun h => hE.I0 b hb h) fun h => (hE.live b h).elim .inr fun h => absurd hb (Nat.not_lt.2 h)⟩ o.dst hr⟩ (put_defers _ _ _)
  · exact hE.frm.trans hfrm (fun b hb hL => by
      rcases hE.live b hL with h | h
      · exact h
      · omega)
  · intro b hb
    rcases hlive b hb with h | h
    · exact hE.live b h
    · have := hE.frm.size; exact .inr (by omega)

theorem aop_sound (h : aop P o st K) : OpOk P o st K := by
  unfold aop acore at h
  split at h
  · rename_i x hx; exact ok_move (.inl hx) h
  · rename_i x hx; exact ok_move (.inr hx) h
  · rename_i c x y hop
    split at h
    · rename_i b hb; exact ok_pick hop hb h
    · exact h.elim
  · rename_i e hop
    split at h
    · rename_i z n hz hn; exact ok_alloc hop hz h
    · exact h.elim
  · rename_i e x hop
    split at h
    · rename_i cs n hcs hn; exact ok_box hop hcs h
    · exact h.elim
  · rename_i t ps hop
    split at h
    · rename_i z pl hz hpl
      split at h
      · rename_i cs hcs; exact ok_build hop hz hpl hcs h
      · exact h.elim
    · exact h.elim
  · rename_i t len ps hop
    split at h
    · rename_i e size bytes hT
      split at h
      · rename_i z hz
        split at h
        · rename_i cs hcs
          obtain ⟨⟨h1, h2, h3⟩, h⟩ := h
          exact ok_buildSlice hop hT hz hcs h1 h2 h h3
        · exact h.elim
      · exact h.elim
    · exact h.elim
  · rename_i t x hop; exact ok_load hop h
  · rename_i t x y hop; exact ok_store hop h
  · rename_i op t x y ty hop
    split at h
    · rename_i hy; exact ok_nilCmp hop hy h
    · split at h
      · rename_i hy2; exact ok_ifc hop hy2 h
      · exact ok_bin hop h
  · rename_i op t x hop; exact ok_un hop h
  · rename_i s t x hop; exact ok_conv hop h
  · rename_i t l c hop; exact ok_make hop h
  · rename_i t x lo hi hop; exact ok_slice hop h
  · rename_i s x f hop; exact ok_fieldAddr hop h
  · rename_i s x f hop; exact ok_field hop h
  · rename_i t x i hop; exact ok_index hop h
  · rename_i t x i hop; exact ok_indexV hop h
  · rename_i x i hop
    split at h
    · rename_i vs hx
      split at h
      · rename_i c hc; exact ok_extract hop hx hc h
      · rename_i cs hc; exact ok_extract hop hx hc h
      · exact h.elim
    · exact h.elim
  · rename_i args ts hop
    split at h
    · rename_i x t hx ht
      have e1 : args = #[x] := by apply Array.ext'; simpa using hx
      have e2 : ts = #[t] := by apply Array.ext'; simpa using ht
      subst e1; subst e2
      exact ok_len hop h
    · exact h.elim
  · rename_i args ts hop
    split at h
    · rename_i x y t u hx ht
      have e1 : args = #[x, y] := by apply Array.ext'; simpa using hx
      have e2 : ts = #[t, u] := by apply Array.ext'; simpa using ht
      subst e1; subst e2
      exact ok_append (ty := 0) hop h
    · exact h.elim
  · rename_i f args ts hop
    exact ok_call hop h.1 h.2
  · rename_i x hop; exact ok_nil hop h
  · exact xop_sound h

theorem rel_undef (w : World) (E : Env) : RelV w E (.tup []) undef := ⟨[], rfl, rfl, fun j x u h => by simp at h⟩
theorem guard_rel (hE : InvE w0 E0 H0 st a w E) {ops : Array Oper} {j : Nat} {b : Option Bool} (h : st.guard ops j = some b) : yielded ops a.tmps j = b := by
  unfold ASt.guard at h
  unfold yielded
  split at h
  · rename_i d hd
    rw [hd]
    split at h
    · rename_i b' hb
      cases h
      have hlt : d < st.tmps.length := by
        rcases Nat.lt_or_ge d st.tmps.length with h | h
        · exact h
        · rw [List.getD_eq_getElem?_getD, List.getElem?_eq_none h] at hb; simp [unknown] at hb
      have hlt' : d < a.tmps.size := by have h1 := hE.rel.1; rw [Array.length_toList] at h1; exact h1 ▸ hlt
      have hr := hE.rel.2 d _ (a.tmps[d]) (List.getElem?_eq_getElem hlt) (by simp [hlt'])
      rw [List.getD_eq_getElem?_getD, List.getElem?_eq_getElem hlt] at hb
      simp at hb
      rw [hb] at hr
      simp only [Option.bind_some, hlt', getElem?_pos]
      generalize a.tmps[d] = q at hr
      cases hr with
      | s _ => rfl
    · rename_i hb
      cases h
      have hlt : d < st.tmps.length := by
        rcases Nat.lt_or_ge d st.tmps.length with h | h
        · exact h
        · rw [List.getD_eq_getElem?_getD, List.getElem?_eq_none h] at hb; simp [unknown] at hb
      have hlt' : d < a.tmps.size := by have h1 := hE.rel.1; rw [Array.length_toList] at h1; exact h1 ▸ hlt
      have hr := hE.rel.2 d _ (a.tmps[d]) (List.getElem?_eq_getElem hlt) (by simp [hlt'])
      rw [List.getD_eq_getElem?_getD, List.getElem?_eq_getElem hlt] at hb
      simp at hb
      rw [hb] at hr
      simp only [Option.bind_some, hlt', getElem?_pos]
      obtain ⟨l, hl, _⟩ := hr
      rw [hl]
    · cases h
  · cases h

theorem callsIn_wd {ro : Option Nat} {n : Nat} {f : FuncId} {args : Array Value} {R : Ending → World → Prop} : CallsIn (Wd ro) n P f args w R ↔ Calls P f args w R := by
  have h := callsIn_wide (n := n) (P := P) (f := f) (args := args) (w := w) (R := R)
  exact h
/-- In a round, too, an operation that is no defer statement does what it does elsewhere. -/
theorem wpIn_of_wp {ro : Option Nat} {n : Nat} {N : Act → World → Prop} {Q : Exit → Act → World → Prop} (hd : ∀ c, o.op ≠ .defer c) (h : o.wp P a w N Q) : o.wpIn (Wd ro) n P a w N Q := by
  refine ⟨fun _ _ => trivial, ?_⟩
  rw [Oper.semAt_eq _ _ _ hd]
  unfold Oper.wp at h
  generalize (execOp a.eval o).run P w = r at h ⊢
  cases r with
  | ok x w' =>
    cases x <;> simp only [Oper.upon] at h <;>
      first
        | exact h.elim
        | exact h
        | exact ⟨fun h0 => by simp at h0, callsIn_wd.2 h⟩
        | exact ⟨fun h0 => by simp at h0, fun c cs _ => let ⟨v, w2, hr, hs⟩ := h c cs; ⟨v, w2, hr, stepsIn_wide.2 hs⟩⟩
  | halt x w' => cases x <;> simp only [Oper.upon] at h <;> first | exact h | exact h.elim
theorem acore_nodefer {op : Op} {ev : Operand → AV} {H : AHeap} {clk : Nat} {K : AV → AHeap → Nat → Prop} (h : acore P op ev H clk K) (c : Call) : op ≠ .defer c := by
  intro e
  subst e
  simp [acore, xcore] at h
theorem aop_soundIn (h : aop P o st K) (ro : Option Nat) (n : Nat) : ∀ w0 E0 H0 a w, Inv w0 E0 H0 st a w → ∀ (N : Act → World → Prop) (Q : Exit → Act → World → Prop), (∀ st' a' w', K st' → Inv w0 E0 H0 st' a' w' → a'.defers = a.defers → N a' w') → o.wpIn (Wd ro) n P a w N Q :=
  fun w0 E0 H0 a w hI N Q hN => wpIn_of_wp (acore_nodefer h) (aop_sound h w0 E0 H0 a w hI N Q hN)

theorem aops_sound (ro : Option Nat) (n : Nat) (ds : List Deferred) (ops : Array Oper) {Q : Exit → ASt → Prop} {Q' : Exit → Act → World → Prop} (w0 : World) (E0 : Env) (H0 : AHeap) (hQ : ∀ st a w, Q .normal st → Inv w0 E0 H0 st a w → a.defers = ds → Q' .normal a w) :
    ∀ (l : List Oper) (st : ASt) (a : Act) (w : World), AOps P ops Q l st → Inv w0 E0 H0 st a w → a.defers = ds → wpListIn (Wd ro) n P ops Q' l a w
  | [], st, a, w, h, hI, hd => hQ st a w h hI hd
  | o :: rest, st, a, w, h, hI, hd => by
    unfold wpListIn
    simp only [AOps] at h
    split at h
    · rename_i hg
      have hw : Region.wanted o (yielded ops a.tmps) = true := by simp [Region.wanted, hg]
      rw [if_pos hw]
      exact (aop_soundIn h ro n w0 E0 H0 a w hI _ _ fun st' a' w' hK hI' hd' => aops_sound ro n ds ops w0 E0 H0 hQ rest st' a' w' hK hI' (hd'.trans hd))
    · rename_i j want hg
      split at h
      · rename_i b hb
        obtain ⟨E, hE⟩ := hI
        have hy := guard_rel hE hb
        split at h
        · rename_i hbw
          have hw : Region.wanted o (yielded ops a.tmps) = true := by simp [Region.wanted, hg, hy, hbw]
          rw [if_pos hw]
          exact (aop_soundIn h ro n w0 E0 H0 a w ⟨E, hE⟩ _ _ fun st' a' w' hK hI' hd' => aops_sound ro n ds ops w0 E0 H0 hQ rest st' a' w' hK hI' (hd'.trans hd))
        · rename_i hbw
          have hw : Region.wanted o (yielded ops a.tmps) = false := by simp [Region.wanted, hg, hy, hbw]
          rw [hw]
          exact ⟨fun _ _ => trivial, aops_sound ro n ds ops w0 E0 H0 hQ rest _ _ w h ⟨E, hE.put _ (rel_undef _ _)⟩ ((put_defers _ _ _).trans hd)⟩
      · exact h.elim

theorem CodeOk.mono {c : Code} {Q Q' : Exit → ASt → Prop} {st : ASt} (h : CodeOk P c Q st) (hq : ∀ e st, Q e st → Q' e st) : CodeOk P c Q' st :=
  fun ro n hr w0 E0 H0 a w hI => wpIn_mono (h ro n hr w0 E0 H0 a w hI) fun _ _ _ ⟨hd, st', hq', hI'⟩ => ⟨hd, st', hq _ _ hq', hI'⟩

theorem codeOk_seq {x y : Code} {Q : Exit → ASt → Prop} {st : ASt} (h : CodeOk P x (AExit.then (CodeOk P y Q) Q) st) : CodeOk P (.seq x y) Q st := by
  intro ro n hr w0 E0 H0 a w hI
  have hr1 : ro = none ∨ noRange x = true := hr.imp (fun h => h) fun h => by simp [noRange] at h; exact h.1
  have hr2 : ro = none ∨ noRange y = true := hr.imp (fun h => h) fun h => by simp [noRange] at h; exact h.2
  refine wpIn_seq (wpIn_mono (h ro n hr1 w0 E0 H0 a w hI) ?_)
  rintro e a' w' ⟨hd0, st', hq, hI'⟩
  have hd : noRange (.seq x y) = false ∨ a'.defers = a.defers := hd0.imp (fun h => by simp [noRange, h]) id
  cases e with
  | normal => exact wpIn_mono (hq ro n hr2 w0 E0 H0 a' w' hI') fun _ _ _ h => ⟨defers_trans hd (h.1.imp (fun h => by simp [noRange, h]) id), h.2⟩
  | exit id => exact ⟨hd, st', hq, hI'⟩
  | goto l => exact ⟨hd, st', hq, hI'⟩
  | ret => exact ⟨hd, st', hq, hI'⟩
  | panic c => exact ⟨hd, st', hq, hI'⟩
  | outgrown => exact ⟨hd, st', hq, hI'⟩

theorem codeOk_block {id : Nat} {c : Code} {Q : Exit → ASt → Prop} {st : ASt} (h : CodeOk P c (AExit.inBlock id Q) st) : CodeOk P (.block id c) Q st := by
  intro ro n hr w0 E0 H0 a w hI
  refine wpIn_block (wpIn_mono (h ro n (hr.imp (fun h => h) fun h => by simpa [noRange] using h) w0 E0 H0 a w hI) ?_)
  rintro e a' w' ⟨hd0, st', hq, hI'⟩
  have hd : noRange (.block id c) = false ∨ a'.defers = a.defers := hd0.imp (fun h => by simpa [noRange] using h) fun h => h
  cases e with
  | normal => exact ⟨hd, st', hq, hI'⟩
  | exit id' =>
    simp only [AExit.inBlock] at hq
    simp only [Exit.inBlock]
    split
    · rename_i h1; rw [if_pos h1] at hq; exact ⟨hd, st', hq, hI'⟩
    · rename_i h1; rw [if_neg h1] at hq; exact ⟨hd, st', hq, hI'⟩
  | goto l => exact ⟨hd, st', hq, hI'⟩
  | ret => exact ⟨hd, st', hq, hI'⟩
  | panic c => exact ⟨hd, st', hq, hI'⟩
  | outgrown => exact ⟨hd, st', hq, hI'⟩

theorem wpIn_scope_straight {F : Fence} {n : Nat} {Q : Exit → Act → World → Prop} {a : Act} {w : World} {c : Code} (h : c.wpIn F n P (Exit.noGoto Q) a w) : (Code.scope c).wpIn F n P Q a w := by
  intro b k cs hro hb hr
  have h0 : (lone (b.atR a (.code (.scope c) :: k)) cs w).fenced P F := fenced_calm hb hr rfl
  have s1 : step P (lone (b.atR a (.code (.scope c) :: k)) cs w) = .next (lone (b.atR a (.code c :: .inScope c :: k)) cs w) := step_lone_go (by simp [stepG, stepG.exec, Frame.atR])
  obtain ⟨e, a₁, w₁, hq, harr⟩ := h b (.inScope c :: k) cs hro hb hr
  cases e with
  | normal =>
    have s2 : step P (lone (b.atR a₁ (.inScope c :: k)) cs w₁) = .next (lone (b.atR a₁ k) cs w₁) := step_lone_go (by simp [stepG, stepG.exec, Frame.atR])
    exact ⟨.normal, a₁, w₁, hq, .head h0 s1 (StepsIn.trans harr (.one (fenced_calm hb hr rfl) s2))⟩
  | exit id' =>
    have hx : exitTo id' (.inScope c :: k) = exitTo id' k := by simp [exitTo]
    exact ⟨.exit id', a₁, w₁, hq, fun k' hk => .head h0 s1 (harr.1 k' (by rw [hx]; exact hk)),
      fun hr' hk => let ⟨k₁, h1, h2⟩ := harr.2 hr' (by rw [hx]; exact hk); ⟨k₁, h1, .head h0 s1 h2⟩⟩
  | goto l => exact hq.elim
  | ret => exact ⟨_, a₁, w₁, hq, .of_steps (.one h0 s1) harr⟩
  | panic ch => exact ⟨_, a₁, w₁, hq, .of_steps (.one h0 s1) harr⟩
  | outgrown => exact ⟨_, a₁, w₁, hq, .of_steps (.one h0 s1) harr⟩
theorem codeOk_scope {c : Code} {Q : Exit → ASt → Prop} {st : ASt} (h : CodeOk P c (AExit.inScope Q) st) : CodeOk P (.scope c) Q st := by
  intro ro n hr w0 E0 H0 a w hI
  refine wpIn_scope_straight (wpIn_mono (h ro n (hr.imp (fun h => h) fun h => by simpa [noRange] using h) w0 E0 H0 a w hI) ?_)
  rintro e a' w' ⟨hd0, st', hq, hI'⟩
  have hd : noRange (.scope c) = false ∨ a'.defers = a.defers := hd0.imp (fun h => by simpa [noRange] using h) fun h => h
  cases e with
  | goto l => exact hq
  | normal => exact ⟨hd, st', hq, hI'⟩
  | exit id' => exact ⟨hd, st', hq, hI'⟩
  | ret => exact ⟨hd, st', hq, hI'⟩
  | panic c => exact ⟨hd, st', hq, hI'⟩
  | outgrown => exact ⟨hd, st', hq, hI'⟩

theorem aw_sound : ∀ (c : Code) (Q : Exit → ASt → Prop) (st : ASt), AW P c Q st → CodeOk P c Q st
  | .skip, Q, st, h => fun ro n hr w0 E0 H0 a w hI => wpIn_skip ⟨.inr rfl, st, h, hI⟩
  | .region id ops false, Q, st, h => fun ro n hr w0 E0 H0 a w hI => wpIn_region_list (aops_sound ro n a.defers ops w0 E0 H0 (fun st' a' w' hq hI' hd => ⟨.inr hd, st', hq, hI'⟩) ops.toList st a w h hI rfl)
  | .region id ops true, Q, st, h => h
  | .seq x y, Q, st, h => codeOk_seq (CodeOk.mono (aw_sound x _ st h) fun e st' hq => by
      cases e with
      | normal => exact aw_sound y Q st' hq
      | exit id => exact hq
      | goto l => exact hq
      | ret => exact hq
      | panic c => exact hq
      | outgrown => exact hq)
  | .cond c x y, Q, st, h => by
    simp only [AW] at h
    split at h
    · rename_i b hb
      intro ro n hr w0 E0 H0 a w hI
      obtain ⟨E, hE⟩ := hI
      have hc : a.eval c = .bool b := scal hE hb
      refine wpIn_cond_split hc (fun ht => ?_) (fun hf => ?_)
      · exact wpIn_mono (aw_sound x Q st (h.1 ht) ro n (hr.imp (fun h => h) fun h => by simp [noRange] at h; exact h.1) w0 E0 H0 a w ⟨E, hE⟩) fun _ _ _ h => ⟨h.1.imp (fun h => by simp [noRange, h]) id, h.2⟩
      · exact wpIn_mono (aw_sound y Q st (h.2 hf) ro n (hr.imp (fun h => h) fun h => by simp [noRange] at h; exact h.2) w0 E0 H0 a w ⟨E, hE⟩) fun _ _ _ h => ⟨h.1.imp (fun h => by simp [noRange, h]) id, h.2⟩
    · exact h.elim
  | .block id c, Q, st, h => codeOk_block (aw_sound c _ st h)
  | .exit id, Q, st, h => fun ro n hr w0 E0 H0 a w hI => wpIn_exit ⟨.inr rfl, st, h, hI⟩
  | .ret, Q, st, h => fun ro n hr w0 E0 H0 a w hI => wpIn_ret ⟨.inr rfl, st, h, hI⟩
  | .loop c, Q, st, h => h
  | .rangeFunc .., Q, st, h => h
  | .scope c, Q, st, h => codeOk_scope (aw_sound c _ st h)
  | .label _, Q, st, h => fun ro n hr w0 E0 H0 a w hI => wpIn_label ⟨.inr rfl, st, h, hI⟩
  | .goto _, Q, st, h => h
  | .refuse _, Q, st, h => h

/-! The results -/
def resSem (a : Act) : ResultVar → Sem Value
  | .tmp t => pure (a.tmps.getD t undef)
  | .cell b t => do loadVar t (← asAddr (a.tmps.getD b undef))
theorem results_eq (fn : Func) (a : Act) : results fn a.tmps = (do
    let vs ← fn.results.mapM (resSem a)
    pure (if h : vs.size = 1 then vs[0] else .tuple vs)) := by
  unfold results
  congr
theorem resA_sound {r : ResultVar} {K : AV → Prop} (hE : InvE w0 E0 H0 st a w E) (h : resA P st r K) :
    ∃ v x, (resSem a r).run P w = .ok v w ∧ RelV w E x v ∧ K x := by
  cases r with
  | tmp t => exact ⟨_, _, rfl, hE.eval (.tmp t), h⟩
  | cell b t =>
    simp only [resA, loadA] at h
    split at h
    · rename_i agg n hag hn
      have hev := hE.eval (.tmp b)
      simp only [ASt.eval, Act.eval] at hev
      split at h
      · rename_i k g off hx
        split at h
        · rename_i B hB
          split at h
          · rename_i y hy
            rw [hx] at hev
            obtain ⟨i, bb, _, _, _, hok, hb, hv⟩ := hE.at_ptr hB hev
            obtain ⟨v, hrun, hrel⟩ := run_loadVar (P := P) hag hn hy (hok.readable (blkAt_size hB) hb off)
            exact ⟨v, y, by show (do let q ← asAddr (a.tmps.getD b undef); loadVar t q : Sem Value).run P w = _; rw [hv]; simp [asAddr, hrun], hrel, h⟩
          · exact h.elim
        · exact h.elim
      · rename_i cs hx
        split at h
        · rename_i y hy
          rw [hx] at hev
          generalize hq : a.tmps.getD b undef = q at hev
          cases hev with
          | rptr f hI hc hrr =>
            obtain ⟨v, hrun, hrel⟩ := run_loadVar (P := P) hag hn hy (readable_list (E := E) f hc hrr)
            exact ⟨v, y, by show (do let q ← asAddr (a.tmps.getD b undef); loadVar t q : Sem Value).run P w = _; rw [hq]; simp [asAddr, hrun], hrel, h⟩
        · exact h.elim
      · exact h.elim
    · exact h.elim

theorem ressA_sound (hE : InvE w0 E0 H0 st a w E) : ∀ (rs : List ResultVar) (K : List AV → Prop), ressA P st rs K →
    ∃ vs xs, (rs.mapM (resSem a)).run P w = .ok vs w ∧ xs.length = vs.length ∧ (∀ (j : Nat) x v, xs[j]? = some x → vs[j]? = some v → RelV w E x v) ∧ K xs
  | [], K, h => ⟨[], [], rfl, rfl, fun j x v hx _ => by simp at hx, h⟩
  | r :: rs, K, h => by
    simp only [ressA] at h
    obtain ⟨v, x, hrun, hrel, h⟩ := resA_sound hE h
    obtain ⟨vs, xs, hruns, hlen, hrels, hK⟩ := ressA_sound hE rs _ h
    refine ⟨v :: vs, x :: xs, ?_, by simp [hlen], fun j y u hy hu => ?_, hK⟩
    · rw [List.mapM_cons, Sem.run_bind]
      rw [hrun]
      simp only [Result.andThen_ok, Sem.run_bind]
      rw [hruns]
      rfl
    · match j with
      | 0 => simp at hy hu; subst hy; subst hu; exact hrel
      | j + 1 => exact hrels j y u (by simpa using hy) (by simpa using hu)

theorem acall_of_ok {f : FuncId} {fn : Func} {c : Code} {args : List AV} {H : AHeap} {clk : Nat} {post : AV → AHeap → Nat → Prop} (hf : P.funcs[f]? = some fn) (hb : fn.body = some c)
    (h : CodeOk P c (bodyA P fn.results.toList post) ⟨args ++ List.replicate (fn.ntmps - args.length) unknown, H, clk⟩) : ACall P f args H clk post := by
  intro w E vals hclk hsim hargs
  refine (callsIn_wide (n := 0)).1 (callsIn_of_wp_marks hf hb trivial ?_)
  have hI : Inv w E H ⟨args ++ List.replicate (fn.ntmps - args.length) unknown, H, clk⟩ { tmps := vals.toArray ++ Array.replicate (fn.ntmps - vals.toArray.size) undef, defers := [] } w := by
    refine ⟨E, Marks.nil _ _ _, Env.Le.refl _ _, hclk, hsim, ⟨by simp [hargs.1], fun j x v hx hv => ?_⟩, Frm.refl _ _, fun b hb => .inl hb, fun _ _ h => .inl h⟩
    simp only [Array.toList_append, Array.toList_replicate] at hv
    rw [List.getElem?_append] at hx hv
    by_cases hj : j < args.length
    · rw [if_pos hj] at hx
      rw [if_pos (by rw [← hargs.1]; exact hj)] at hv
      exact hargs.2 j x v hx hv
    · rw [if_neg hj] at hx
      rw [List.getElem?_replicate] at hx
      split at hx
      · cases hx; exact rel_unknown _
      · cases hx
  refine wpIn_mono (h none 0 (.inl rfl) w E H _ w hI) ?_
  rintro e a' w' ⟨_, st', hq, E', hE'⟩
  have fin : ressA P st' fn.results.toList (fun xs => okRes xs = true ∧ post (AV.ofResults xs) st'.heap st'.clk) → ∀ (Ds : List Nat) (a' : Act) (w' : World), InvE w E H st' a' w' E' → a'.defers = Ds.map (fun D => { target := .collected D, args := #[] }) →
      Ds.Nodup → (∀ D ∈ Ds, w.heap.size ≤ D ∧ E'.I D ∧ w'.heap[D]? = some (.deferred (some []))) → LeavesInM Fence.wide 0 P fn a'.tmps (fun e w' => ∃ v r H' E', e = .returned v ∧ Env.Le w E w' E' ∧ SimH w' E' H' ∧ RelV w' E' r v ∧
      Frm w (LiveB E H) w' ∧ (∀ b, LiveB E' H' b → LiveB E H b ∨ w.heap.size ≤ b) ∧ (∀ b, b < w.heap.size → E'.I b → E.I b ∨ LiveB E H b) ∧ post r H' E'.clk) a'.defers .returning w' := by
    intro hr Ds
    induction Ds with
    | cons D Ds ih =>
      intro a' w' hE' hds hnd hall
      have hsh := hE'.shut hds hnd hall
      have hD := (hall D (by simp)).2.2
      obtain ⟨hn1, hn2⟩ := List.nodup_cons.1 hnd
      rw [hds]
      refine ⟨by simp, .inl ⟨D, _, rfl, run_takeDeferred hD, ?_⟩⟩
      exact ih { a' with defers := Ds.map (fun D => { target := .collected D, args := #[] }) } _ hsh rfl hn2 fun q hq => ⟨(hall q (by simp [hq])).1, (hall q (by simp [hq])).2.1, by
        rw [shut_other w' D _ _ (fun e => hn1 (e ▸ hq))]; exact (hall q (by simp [hq])).2.2⟩
    | nil =>
    intro a' w' hE' hds _ _
    rw [hds]
    show LeavesIn Fence.wide 0 P fn a'.tmps _ [] .returning w'
    obtain ⟨vs, xs, hrun, hlen, hrel, hok, hK⟩ := ressA_sound hE' _ _ hr
    have hres : (results fn a'.tmps).run P w' = .ok (if h : vs.toArray.size = 1 then vs.toArray[0] else .tuple vs.toArray) w' := by
      rw [results_eq, Sem.run_bind, Array.mapM_eq_mapM_toList]
      simp only [Sem.run_map, hrun, Result.andThen_ok]
      rfl
    rw [← hE'.clk] at hK
    refine ⟨_, hres, _, AV.ofResults xs, st'.heap, E', rfl, hE'.le, hE'.sim, ?_, hE'.frm, hE'.live, hE'.I0, hK⟩
    by_cases h1 : vs.length = 1
    · match vs, xs, h1, hlen, hrel with
      | [v], [x], _, _, hrel => exact hrel 0 x v rfl rfl
    · have hx1 : xs.length ≠ 1 := by omega
      have ht : AV.ofResults xs = .tup xs := by
        unfold AV.ofResults
        split
        · simp at hx1
        · rfl
      have hall : ∀ x ∈ xs, x.single = true := by
        unfold okRes at hok
        split at hok
        · simp at hx1
        · simpa using hok
      rw [ht]
      have hsz : ¬ (vs.toArray.size = 1) := by simpa using h1
      rw [dif_neg hsz]
      refine ⟨vs, rfl, hlen, fun j x u hx hu => ?_⟩
      have hr := hrel j x u hx hu
      have hn := hall x (List.mem_of_getElem? hx)
      cases x with
      | one c => exact hr
      | agg cs => exact hr
      | tup ys => simp [AV.single] at hn
  obtain ⟨Ds, hd1, hd2, hd3⟩ := hE'.dfr
  cases e with
  | normal => exact fin hq Ds a' w' hE' hd1 hd2 hd3
  | ret => exact fin hq Ds a' w' hE' hd1 hd2 hd3
  | exit id => exact hq.elim
  | goto l => exact hq.elim
  | panic ch => exact hq.elim
  | outgrown => exact hq.elim
theorem acall_of_aw {f : FuncId} {fn : Func} {c : Code} {args : List AV} {H : AHeap} {clk : Nat} {post : AV → AHeap → Nat → Prop} (hf : P.funcs[f]? = some fn) (hb : fn.body = some c)
    (h : AW P c (bodyA P fn.results.toList post) ⟨args ++ List.replicate (fn.ntmps - args.length) unknown, H, clk⟩) : ACall P f args H clk post := acall_of_ok hf hb (aw_sound c _ _ h)
end
end Go.Abs
namespace Go.Abs
set_option linter.unusedSimpArgs false
set_option linter.unusedVariables false
set_option linter.unnecessarySimpa false
open Go

/-- What a loop's head keeps: the slots that are told, the first m arrays. -/
def keepA : List Bool → List AV → List AV
  | b :: bs, x :: xs => (if b then x else unknown) :: keepA bs xs
  | [], _ :: xs => unknown :: keepA [] xs
  | _, [] => []
def ASt.clean (mask : List Bool) (m : Nat) (st : ASt) : ASt := ⟨keepA mask st.tmps, st.heap.take m, st.clk⟩

section
variable {P : Program} {w0 w : World} {E0 E : Env} {H0 : AHeap} {st : ASt} {a : Act} {o : Oper}

theorem length_keepA : ∀ (bs : List Bool) (xs : List AV), (keepA bs xs).length = xs.length
  | [], [] => rfl
  | [], _ :: xs => by simp [keepA, length_keepA [] xs]
  | _ :: bs, [] => rfl
  | _ :: bs, _ :: xs => by simp [keepA, length_keepA bs xs]
theorem keepA_at : ∀ (bs : List Bool) (xs : List AV) (j : Nat) (x : AV), (keepA bs xs)[j]? = some x → x = unknown ∨ xs[j]? = some x
  | [], [], j, x, h => by simp [keepA] at h
  | [], y :: xs, 0, x, h => by simp [keepA] at h; exact .inl h.symm
  | [], y :: xs, j + 1, x, h => by simp [keepA] at h; simpa using keepA_at [] xs j x h
  | _ :: bs, [], j, x, h => by simp [keepA] at h
  | b :: bs, y :: xs, 0, x, h => by
    simp [keepA] at h
    cases b
    · simp at h; exact .inl h.symm
    · simp at h; simp [h]
  | b :: bs, y :: xs, j + 1, x, h => by simp [keepA] at h; simpa using keepA_at bs xs j x h

theorem InvE.clean (h : InvE w0 E0 H0 st a w E) (mask : List Bool) (m : Nat) : InvE w0 E0 H0 (st.clean mask m) a w ⟨E.I, E.β.take m, E.clk⟩ := by
  have htake : ∀ {α : Type} {l : List α} {k : Nat} {x : α}, (l.take m)[k]? = some x → l[k]? = some x := by
    intro α l k x hx
    rw [List.getElem?_take] at hx
    split at hx
    · exact hx
    · cases hx
  have hle : Env.Le w E w ⟨E.I, E.β.take m, E.clk⟩ := ⟨fun b hb => ⟨hb, rfl⟩, Nat.le_refl _, fun k i' hi => .inl (htake hi)⟩
  refine ⟨h.dfr.mono hle, h.le.trans hle, h.clk, ⟨by simp [ASt.clean, h.sim.len], fun k i hi => h.sim.gens k i (htake hi), h.sim.I, ?_, ?_, fun g cs hg => (h.sim.glob g cs hg).mono hle.I⟩, ⟨by simp [ASt.clean, length_keepA, h.rel.1], ?_⟩, h.frm, ?_, h.I0⟩
  · intro k B hB
    have hk : k < m := by
      rcases Nat.lt_or_ge k m with h | h
      · exact h
      · simp only [ASt.clean] at hB
        rw [List.getElem?_take, if_neg (by omega)] at hB
        cases hB
    obtain ⟨i, hi, hok⟩ := h.sim.blk k B (htake hB)
    exact ⟨i, by simp only; rw [List.getElem?_take, if_pos hk]; exact hi, hok.mono_same hle (fun _ _ hI => hI) (fun _ _ => rfl)⟩
  · intro k k' B B' i i' b hB hB' hi hi' hb hb'
    exact h.sim.apart k k' B B' i i' b (htake hB) (htake hB') (htake hi) (htake hi') hb hb'
  · intro j x v hx hv
    rcases keepA_at _ _ _ _ hx with rfl | hx
    · exact rel_unknown _
    · exact (h.rel.2 j x v hx hv).mono hle
  · rintro b ⟨k, B, i, hB, hi, hb⟩
    exact h.live b ⟨k, B, i, htake hB, htake hi, hb⟩

theorem least (p : Nat → Prop) (h : ∃ n, p n) : ∃ n, p n ∧ ∀ m, p m → n ≤ m := by
  obtain ⟨n, hn⟩ := h
  induction n using Nat.strongRecOn with
  | _ n ih =>
    by_cases hx : ∃ m, m < n ∧ p m
    · obtain ⟨m, hm, hp⟩ := hx
      exact ih m hm hp
    · exact ⟨n, hn, fun m hp => Nat.le_of_not_lt fun hlt => hx ⟨m, hlt, hp⟩⟩

theorem codeOk_loop {c : Code} {Q : Exit → ASt → Prop} (mask : List Bool) (m : Nat) (I : ASt → Prop) (μ : ASt → Nat) (h0 : I (st.clean mask m))
    (round : ∀ s, I s → AW P c (AExit.then (fun s' => I (s'.clean mask m) ∧ μ (s'.clean mask m) < μ s) Q) s) : CodeOk P (.loop c) Q st := by
  intro ro n hr w0 E0 H0 a w ⟨E, hE⟩
  have hr1 : ro = none ∨ noRange c = true := hr.imp (fun h => h) fun h => by simpa [noRange] using h
  classical
  obtain ⟨a0, ha0⟩ : ∃ a0, a0 = a := ⟨_, rfl⟩
  rw [← ha0]
  let S : Act → World → Nat → Prop := fun a w n => (noRange (.loop c) = false ∨ a.defers = a0.defers) ∧ ∃ s, I s ∧ Inv w0 E0 H0 s a w ∧ μ s = n
  refine wpIn_loop (fun a w => ∃ n, S a w n) (fun a w => if h : ∃ n, S a w n then Classical.choose (least _ h) else 0) ⟨_, .inr (by rw [ha0]), _, h0, ⟨_, ha0 ▸ hE.clean mask m⟩, rfl⟩ ?_
  intro a w hS
  obtain ⟨hdd, s, hs, hI, hμ⟩ := (Classical.choose_spec (least _ hS)).1
  refine wpIn_mono (aw_sound c _ _ (round s hs) ro n hr1 w0 E0 H0 a w hI) ?_
  rintro e a' w' ⟨hd', s', hq, E', hE'⟩
  have hd := defers_trans hdd (hd'.imp (fun h => by simpa [noRange] using h) id)
  cases e with
  | normal =>
    obtain ⟨hI', hlt⟩ := hq
    have hS' : S a' w' (μ (s'.clean mask m)) := ⟨hd, _, hI', ⟨_, hE'.clean mask m⟩, rfl⟩
    refine ⟨⟨_, hS'⟩, ?_⟩
    have hx : ∃ n, S a' w' n := ⟨_, hS'⟩
    rw [dif_pos hx, dif_pos hS]
    exact Nat.lt_of_le_of_lt ((Classical.choose_spec (least _ hx)).2 _ hS') (by rw [← hμ]; exact hlt)
  | exit id => exact ⟨hd, s', hq, E', hE'⟩
  | goto l => exact ⟨hd, s', hq, E', hE'⟩
  | ret => exact ⟨hd, s', hq, E', hE'⟩
  | panic ch => exact ⟨hd, s', hq, E', hE'⟩
  | outgrown => exact ⟨hd, s', hq, E', hE'⟩

/-! Calls -/
def DC.flat : DC → Bool
  | .s _ | .nil | .err _ | .fn _ [] => true
  | _ => false
def AC.flat : AC → Bool
  | .d c => c.flat
  | .any => true
  | _ => true
def flatL (cs : List AC) : Prop := ∀ c ∈ cs, c.flat = true
def AV.flat : AV → Prop
  | .one c => c.flat = true
  | .agg cs => flatL cs
  | .tup vs => ∀ v ∈ vs, match v with
    | .one c => c.flat = true
    | .agg cs => flatL cs
    | .tup _ => False
def flatB : Option ABlk → Prop
  | some B => flatL B.cells
  | none => True
def flatH (H : AHeap) : Prop := ∀ b ∈ H, flatB b

/-- The numbers of own arrays turned. -/
def AC.ren (ρ : Nat → Nat) : AC → AC
  | .own k g off n => .own (ρ k) g off n
  | .ptr k g off => .ptr (ρ k) g off
  | .mp k g => .mp (ρ k) g
  | c => c
def AV.ren1 (ρ : Nat → Nat) : AV → AV
  | .one c => .one (c.ren ρ)
  | .agg cs => .agg (cs.map (AC.ren ρ))
  | x => x
def AV.ren (ρ : Nat → Nat) : AV → AV
  | .tup vs => .tup (vs.map (AV.ren1 ρ))
  | x => x.ren1 ρ
def ABlk.ren (ρ : Nat → Nat) (B : ABlk) : ABlk := { B with cells := B.cells.map (AC.ren ρ) }

/-- The nil slice as an empty one. -/
def DC.denil : DC → DC
  | .nil => .list 0 []
  | c => c
theorem MapAt.ren {w : World} {B : ABlk} {b : Nat} {ρ : Nat → Nat} (h : MapAt w B b) : MapAt w (B.ren ρ) b := by
  obtain ⟨h1, es, c, h2, h3⟩ := h
  exact ⟨h1, es, c, by simp [ABlk.ren, h2, AC.ren], h3⟩
theorem MapAt.unren {w : World} {B : ABlk} {b : Nat} {ρ : Nat → Nat} (h : MapAt w (B.ren ρ) b) : MapAt w B b := by
  obtain ⟨h1, es, c, h2, h3⟩ := h
  refine ⟨h1, es, c, ?_, h3⟩
  simp only [ABlk.ren] at h2
  match hc : B.cells with
  | [] => rw [hc] at h2; simp at h2
  | [x] =>
    rw [hc] at h2
    simp at h2
    cases x <;> simp [AC.ren] at h2
    rw [h2.1, h2.2]
  | _ :: _ :: _ => rw [hc] at h2; simp at h2
theorem denil_rel {w : World} {I : Nat → Prop} {c : DC} {v : Value} (h : RelD w I c v) : RelD w I c.denil v := by
  cases c with
  | nil => cases h with | nil => exact RelD.list (fun _ => undef) (fun h => absurd rfl h) (fun j h => absurd h (by simp)) (Nat.le_refl _) (Nat.zero_le _)
  | s v => exact h
  | list n cs => exact h
  | rptr cs => exact h
  | map es c => exact h
  | err g => exact h
  | fn f cs => exact h
/-- What a value is as data, its own arrays as they are now: of plain cells. -/
def snap1 (H : AHeap) : AC → Option DC
  | .d c => some c.denil
  | .own k g off n => match blkAt H k g with
    | some B => if off + n * B.size ≤ B.cells.length then (((B.cells.drop off).take (n * B.size)).mapM AC.dc?).map (DC.list n) else none
    | none => none
  | .ptr k g off => match blkAt H k g with
    | some B => ((B.cells.drop off).mapM AC.dc?).map DC.rptr
    | none => none
  | .mp k g => (objAt H k g).map fun p => .map p.1 p.2
  | .obj _ _ => none
  | .any => none
/-- What a value is as data, its own arrays as they are now; they may hold slices of own arrays of plain cells. -/
def snapC (H : AHeap) : AC → Option DC
  | .own k g off n => match blkAt H k g with
    | some B => if off + n * B.size ≤ B.cells.length then (match ((B.cells.drop off).take (n * B.size)).mapM AC.dc? with
      | some ds => some (DC.list n ds)
      | none => (((B.cells.drop off).take (n * B.size)).mapM (snap1 H)).map (DC.list n)) else none
    | none => none
  | c => snap1 H c
def snapV (H : AHeap) : AV → Option AV
  | .one c => (snapC H c).map fun d => .one (.d d)
  | .agg cs => (cs.mapM (snapC H)).map fun ds => .agg (ds.map .d)
  | .tup _ => none

def FPost (post : AV → AHeap → Prop) (r : AV) (H : AHeap) (_ : Nat) : Prop := r.flat ∧ flatH H ∧ post r H
def FCall (P : Program) (f : FuncId) (args : List AV) (post : AV → AHeap → Prop) : Prop :=
  ∀ clk, ACall P f args [] clk (FPost post)

theorem flat_rel {w : World} {E E' : Env} {ρ : Nat → Nat} {c : AC} {v : Value} (hf : c.flat = true) (hG : GlobOk w E'.I) (hclk : E.clk ≤ E'.clk)
    (hβ : ∀ k i, E'.β[ρ k]? = some i → E.β[k]? = some i) (h : RelC w E c v) : RelC w E' (c.ren ρ) v := by
  cases c with
  | d c =>
    cases c with
    | s u => cases h with | s hs => exact RelD.s hs
    | nil => cases h with | nil => exact RelD.nil
    | list => simp [AC.flat, DC.flat] at hf
    | rptr => simp [AC.flat, DC.flat] at hf
    | map => simp [AC.flat, DC.flat] at hf
    | err g => exact RelD.err_in h hG
    | fn f cs =>
      cases cs with
      | nil => cases h with | fn f hr => exact RelD.fn f (fun j h => absurd h (by simp))
      | cons => simp [AC.flat, DC.flat] at hf
  | own k g off n => exact ⟨h.1, Nat.lt_of_lt_of_le h.2.1 hclk, fun i hi => h.2.2 i (hβ k i hi)⟩
  | ptr k g off => exact ⟨h.1, Nat.lt_of_lt_of_le h.2.1 hclk, fun i hi => h.2.2 i (hβ k i hi)⟩
  | mp k g => exact ⟨h.1, Nat.lt_of_lt_of_le h.2.1 hclk, fun i hi => h.2.2 i (hβ k i hi)⟩
  | obj => exact h
  | any => exact h

theorem flat_rels {w : World} {E E' : Env} {ρ : Nat → Nat} {cs : List AC} {vs : List Value} (hf : ∀ c ∈ cs, c.flat = true) (hG : GlobOk w E'.I) (hclk : E.clk ≤ E'.clk)
    (hβ : ∀ k i, E'.β[ρ k]? = some i → E.β[k]? = some i) (h : RelCs w E cs vs) : RelCs w E' (cs.map (AC.ren ρ)) vs := by
  refine ⟨by simp [h.1], fun j c v hc hv => ?_⟩
  rw [List.getElem?_map] at hc
  cases hj : cs[j]? with
  | none => simp [hj] at hc
  | some c0 =>
    simp [hj] at hc; subst hc
    obtain ⟨h1, h2⟩ := h.2 j c0 v hj hv
    exact ⟨h1, flat_rel (hf c0 (List.mem_of_getElem? hj)) hG hclk hβ h2⟩
theorem flat_relV1 {w : World} {E E' : Env} {ρ : Nat → Nat} {x : AV} {v : Value} (hf : x.flat) (hG : GlobOk w E'.I) (hclk : E.clk ≤ E'.clk)
    (hβ : ∀ k i, E'.β[ρ k]? = some i → E.β[k]? = some i) (h : RelV1 w E x v) : RelV1 w E' (x.ren1 ρ) v := by
  cases x with
  | one c => exact flat_rel hf hG hclk hβ h
  | agg cs => obtain ⟨l, rfl, hr⟩ := h; exact ⟨l, rfl, flat_rels hf hG hclk hβ hr⟩
  | tup vs => exact h
theorem flat_relV {w : World} {E E' : Env} {ρ : Nat → Nat} {x : AV} {v : Value} (hf : x.flat) (hG : GlobOk w E'.I) (hclk : E.clk ≤ E'.clk)
    (hβ : ∀ k i, E'.β[ρ k]? = some i → E.β[k]? = some i) (h : RelV w E x v) : RelV w E' (x.ren ρ) v := by
  cases x with
  | one c => exact flat_relV1 (x := .one c) hf hG hclk hβ h
  | agg cs => exact flat_relV1 (x := .agg cs) hf hG hclk hβ h
  | tup vs =>
    obtain ⟨l, rfl, hl, hr⟩ := h
    refine ⟨l, rfl, by simp [hl], fun j x u hx hu => ?_⟩
    rw [List.getElem?_map] at hx
    cases hj : vs[j]? with
    | none => simp [hj] at hx
    | some y =>
      simp [hj] at hx; subst hx
      have hy := hf y (List.mem_of_getElem? hj)
      refine flat_relV1 ?_ hG hclk hβ (hr j y u hj hu)
      cases y with
      | one c => exact hy
      | agg cs => exact hy
      | tup _ => exact hy.elim

theorem mapM_dc : ∀ {cs : List AC} {ds : List DC}, cs.mapM AC.dc? = some ds → cs = ds.map .d
  | [], ds, h => by simp at h; subst h; rfl
  | c :: cs, ds, h => by
    rw [List.mapM_cons] at h
    cases hc : AC.dc? c with
    | none => simp [hc] at h
    | some d =>
      cases hm : cs.mapM AC.dc? with
      | none => simp [hc, hm] at h
      | some es =>
        simp [hc, hm] at h
        subst h
        cases c with
        | d x => simp [AC.dc?] at hc; subst hc; simp [← mapM_dc hm]
        | own => simp [AC.dc?] at hc
        | ptr => simp [AC.dc?] at hc
        | mp => simp [AC.dc?] at hc
        | obj => simp [AC.dc?] at hc
        | any => simp [AC.dc?] at hc

theorem readable_rel {w : World} {E : Env} {I : Nat → Prop} {ad : Addr} {ds : List DC} (hI : ∀ b, E.I b → I b) (h : Readable w E ad (ds.map .d)) :
    ∃ f : Nat → Value, (∀ j, j < ds.length → w.cell? (ad.add j) = some (f j)) ∧ ∀ (j : Nat) (h : j < ds.length), RelD w I ds[j] (f j) := by
  obtain ⟨vs, hr, hc⟩ := h
  have hl : ds.length = vs.length := by simpa using hr.1
  refine ⟨fun j => vs.getD j undef, fun j hj => hc j _ ?_, fun j hj => ?_⟩
  · show vs[j]? = some (vs.getD j undef)
    rw [List.getD_eq_getElem?_getD, List.getElem?_eq_getElem (by omega)]; rfl
  · have := (hr.2 j (.d ds[j]) vs[j] (by simp [hj]) (List.getElem?_eq_getElem (by omega))).2
    have e : vs.getD j undef = vs[j] := by rw [List.getD_eq_getElem?_getD, List.getElem?_eq_getElem (by omega)]; rfl
    simp only [e]
    exact RelD.mono (fun b hb => ⟨hI b hb, rfl⟩) this

theorem snap1_rel' (hs : SimH w E st.heap) {I : Nat → Prop} (hEI : ∀ b, E.I b → I b) (hI : ∀ b, LiveB E st.heap b → I b) {β : List BI} {q : Nat} {c : AC} {d : DC} {v : Value} (h : snap1 st.heap c = some d) (hr : RelC w E c v) : RelC w ⟨I, β, q⟩ (.d d) v := by
  cases c with
  | d c => simp [snap1] at h; subst h; exact RelD.mono (fun b hb => ⟨hEI b hb, rfl⟩) (denil_rel hr)
  | own k g off n =>
    simp only [snap1] at h
    split at h
    · rename_i B hB
      split at h
      · rename_i hle
        cases hm : ((B.cells.drop off).take (n * B.size)).mapM AC.dc? with
        | none => simp [hm] at h
        | some ds =>
          simp [hm] at h; subst h
          obtain ⟨hk, hg⟩ := blkAt_some hB
          obtain ⟨i, hi, hok⟩ := hs.blk k B hk
          obtain ⟨ad, cap, hv, h1, h2, h3, h4⟩ := hr.2.2 i hi (hok.1.trans hg)
          have hds := mapM_dc hm
          subst hv
          cases hb : i.blk with
          | none =>
            rw [hb] at h4
            have hn : n = 0 := by omega
            subst hn
            have : ds = [] := by simpa using hds.symm
            subst this
            exact RelD.list (fun _ => undef) (fun h => absurd rfl h) (fun j h => absurd h (by simp)) h1 h2
          | some b =>
            rw [hb] at h4
            have hrd := (hok.readable (blkAt_size hB) hb off).take (n * B.size)
            rw [hds] at hrd
            obtain ⟨f, hf1, hf2⟩ := readable_rel (I := I) hEI hrd
            refine RelD.list f (fun hne => ?_) hf2 h1 h2
            have hpos : 0 < cap := by
              rcases Nat.eq_zero_or_pos cap with h0 | h0
              · have : n = 0 := by omega
                subst this
                have : ds = [] := by simpa using hds.symm
                exact absurd this hne
              · exact h0
            exact ⟨_, h4 hpos, hI _ ⟨k, B, i, hk, hi, hb⟩, hf1⟩
      · cases h
    · cases h
  | ptr k g off =>
    simp only [snap1] at h
    split at h
    · rename_i B hB
      cases hm : (B.cells.drop off).mapM AC.dc? with
      | none => simp [hm] at h
      | some ds =>
        simp [hm] at h; subst h
        obtain ⟨hk, hg⟩ := blkAt_some hB
        obtain ⟨i, hi, hok⟩ := hs.blk k B hk
        obtain ⟨b, hb, hv⟩ := hr.2.2 i hi (hok.1.trans hg)
        subst hv
        have hrd := hok.readable (blkAt_size hB) hb off
        rw [mapM_dc hm] at hrd
        obtain ⟨f, hf1, hf2⟩ := readable_rel (I := I) hEI hrd
        exact RelD.rptr f (hI _ ⟨k, B, i, hk, hi, hb⟩) hf1 hf2
    · cases h
  | mp k g =>
    simp only [snap1] at h
    cases hB : objAt st.heap k g with
    | none => simp [hB] at h
    | some p =>
      obtain ⟨es, cc⟩ := p
      simp [hB] at h; subst h
      obtain ⟨B, hk, hg, hsz, hel, hcs⟩ := objAt_some hB
      obtain ⟨i, hi, hok⟩ := hs.blk k B hk
      obtain ⟨b, hb, hv⟩ := hr.2.2 i hi (hok.1.trans hg)
      subst hv
      obtain ⟨_, _, _, _, h5⟩ := hok
      rw [hb] at h5
      obtain ⟨_, ⟨C, _, _, _, hrel⟩ | ⟨_, es', c', hc', hm⟩⟩ := h5
      · have h1 := hrel.1
        rw [hcs] at hrel h1
        match hC : C.take [AC.obj es cc].length with
        | [] => rw [hC] at h1; simp at h1
        | u :: us =>
          rw [hC] at hrel
          exact (hrel.2 0 (.obj es cc) u rfl rfl).2.elim
      · rw [hcs] at hc'
        cases hc'
        exact RelD.map (hI _ ⟨k, B, i, hk, hi, hb⟩) hm
  | obj => simp [snap1] at h
  | any => simp [snap1] at h

theorem mapM_len {α β : Type} {f : α → Option β} : ∀ {l : List α} {m : List β}, l.mapM f = some m → l.length = m.length ∧ ∀ (j : Nat) y, m[j]? = some y → ∃ x, l[j]? = some x ∧ f x = some y
  | [], m, h => by simp at h; subst h; exact ⟨rfl, fun j y hy => by simp at hy⟩
  | x :: xs, m, h => by
    rw [List.mapM_cons] at h
    cases h1 : f x with
    | none => simp [h1] at h
    | some y =>
      cases h2 : xs.mapM f with
      | none => simp [h1, h2] at h
      | some ys =>
        simp [h1, h2] at h; subst h
        obtain ⟨e, he⟩ := mapM_len h2
        refine ⟨by simp [e], fun j z hz => ?_⟩
        match j with
        | 0 => simp at hz; subst hz; exact ⟨x, rfl, h1⟩
        | j + 1 => simpa using he j z (by simpa using hz)
theorem dc_snap1 {c : AC} {d : DC} (h : c.dc? = some d) : c = .d d := by
  cases c <;> simp [AC.dc?] at h; rw [h]
/-- A snapshot reads so, whoever may not write. -/
theorem snapC_rel' (hs : SimH w E st.heap) {I : Nat → Prop} (hEI : ∀ b, E.I b → I b) (hI : ∀ b, LiveB E st.heap b → I b) {β : List BI} {q : Nat} {c : AC} {d : DC} {v : Value} (h : snapC st.heap c = some d) (hr : RelC w E c v) : RelC w ⟨I, β, q⟩ (.d d) v := by
  cases c with
  | own k g off n =>
    simp only [snapC] at h
    split at h
    · rename_i B hB
      split at h
      · rename_i hle
        have key : ∃ ds, d = .list n ds ∧ ((B.cells.drop off).take (n * B.size)).length = ds.length ∧ ∀ (j : Nat) y, ds[j]? = some y → ∃ x, ((B.cells.drop off).take (n * B.size))[j]? = some x ∧ ∀ u, RelC w E x u → RelD w I y u := by
          split at h
          · rename_i ds hm
            obtain ⟨e1, e2⟩ := mapM_len hm
            refine ⟨ds, by simpa using h.symm, e1, fun j y hy => ?_⟩
            obtain ⟨x, hx, hxy⟩ := e2 j y hy
            refine ⟨x, hx, fun u hu => ?_⟩
            rw [dc_snap1 hxy] at hu
            exact RelD.mono (fun b hb => ⟨hEI b hb, rfl⟩) hu
          · cases hm : ((B.cells.drop off).take (n * B.size)).mapM (snap1 st.heap) with
            | none => simp [hm] at h
            | some ds =>
              simp [hm] at h
              obtain ⟨e1, e2⟩ := mapM_len hm
              refine ⟨ds, h.symm, e1, fun j y hy => ?_⟩
              obtain ⟨x, hx, hxy⟩ := e2 j y hy
              exact ⟨x, hx, fun u hu => snap1_rel' hs hEI hI (β := []) (q := 0) hxy hu⟩
        obtain ⟨ds, rfl, hlen, hds⟩ := key
        obtain ⟨hk, hg⟩ := blkAt_some hB
        obtain ⟨i, hi, hok⟩ := hs.blk k B hk
        obtain ⟨ad, cap, hv, h1, h2, h3, h4⟩ := hr.2.2 i hi (hok.1.trans hg)
        subst hv
        cases hb : i.blk with
        | none =>
          rw [hb] at h4
          have hn : n = 0 := by omega
          subst hn
          have : ds = [] := List.eq_nil_of_length_eq_zero (by simpa using hlen.symm)
          subst this
          exact RelD.list (fun _ => undef) (fun h => absurd rfl h) (fun j h => absurd h (by simp)) h1 h2
        | some b =>
          rw [hb] at h4
          obtain ⟨vs, hrel, hcell⟩ := (hok.readable (blkAt_size hB) hb off).take (n * B.size)
          have hvl : ds.length = vs.length := by rw [← hlen]; exact hrel.1
          refine RelD.list (fun j => vs.getD j undef) (fun hne => ?_) (fun j hj => ?_) h1 h2
          · have hpos : 0 < cap := by
              rcases Nat.eq_zero_or_pos cap with h0 | h0
              · have : n = 0 := by omega
                subst this
                exact absurd (List.eq_nil_of_length_eq_zero (by simpa using hlen.symm)) hne
              · exact h0
            refine ⟨_, h4 hpos, hI _ ⟨k, B, i, hk, hi, hb⟩, fun j hj => hcell j _ ?_⟩
            show vs[j]? = some (vs.getD j undef)
            rw [List.getD_eq_getElem?_getD, List.getElem?_eq_getElem (by omega)]; rfl
          · obtain ⟨x, hx, hxr⟩ := hds j ds[j] (List.getElem?_eq_getElem hj)
            have e : vs.getD j undef = vs[j] := by rw [List.getD_eq_getElem?_getD, List.getElem?_eq_getElem (by omega)]; rfl
            simp only [e]
            exact hxr _ (hrel.2 j x vs[j] hx (List.getElem?_eq_getElem (by omega))).2
      · cases h
    · cases h
  | d c => exact snap1_rel' (c := .d c) hs hEI hI h hr
  | ptr k g off => exact snap1_rel' (c := .ptr k g off) hs hEI hI h hr
  | mp k g => exact snap1_rel' (c := .mp k g) hs hEI hI h hr
  | obj es c => exact snap1_rel' (c := .obj es c) hs hEI hI h hr
  | any => exact snap1_rel' (c := .any) hs hEI hI h hr

theorem snapV_rel' (hs : SimH w E st.heap) {I : Nat → Prop} (hEI : ∀ b, E.I b → I b) (hI : ∀ b, LiveB E st.heap b → I b) {β : List BI} {q : Nat} {x y : AV} {v : Value} (h : snapV st.heap x = some y) (hr : RelV w E x v) : RelV w ⟨I, β, q⟩ y v := by
  cases x with
  | one c =>
    simp only [snapV] at h
    cases hc : snapC st.heap c with
    | none => simp [hc] at h
    | some d => simp [hc] at h; subst h; exact snapC_rel' hs hEI hI hc hr
  | agg cs =>
    simp only [snapV] at h
    cases hc : cs.mapM (snapC st.heap) with
    | none => simp [hc] at h
    | some ds =>
      simp [hc] at h; subst h
      obtain ⟨l, rfl, hrel⟩ := hr
      refine ⟨l, rfl, ?_⟩
      induction cs generalizing ds l with
      | nil => simp at hc; subst hc; exact ⟨hrel.1, fun j c v h1 h2 => by simp at h1⟩
      | cons c cs ih =>
        rw [List.mapM_cons] at hc
        cases h1 : snapC st.heap c with
        | none => simp [h1] at hc
        | some d =>
          cases h2 : cs.mapM (snapC st.heap) with
          | none => simp [h1, h2] at hc
          | some es =>
            simp [h1, h2] at hc; subst hc
            match l, hrel with
            | [], hrel => have := hrel.1; simp at this
            | u :: l, hrel =>
              obtain ⟨g1, g2⟩ := hrel.2 0 c u rfl rfl
              have hone : RelCs w (⟨I, β, q⟩ : Env) [AC.d d] [u] := RelCs.one g1 (snapC_rel' hs hEI hI h1 g2)
              have hrest := ih (ds := es) h2 (l := l) ⟨by simpa using hrel.1, fun j c v hc hv => hrel.2 (j + 1) c v hc hv⟩
              simpa using hone.append hrest
  | tup vs => simp [snapV] at h

theorem live_lt (hs : SimH w E st.heap) {b : Nat} (h : LiveB E st.heap b) : b < w.heap.size := by
  obtain ⟨k, B, i, h1, h2, h3⟩ := h
  obtain ⟨i2, hi2, hok⟩ := hs.blk k B h1
  rw [h2] at hi2; cases hi2
  exact hok.lt h3
theorem snapV_rel (hs : SimH w E st.heap) {I : Nat → Prop} (hI : ∀ b, b < w.heap.size → I b) {β : List BI} {x y : AV} {v : Value} (h : snapV st.heap x = some y) (hr : RelV w E x v) : RelV w ⟨I, β, E.clk⟩ y v :=
  snapV_rel' hs (fun b hb => hI b (hs.I b hb)) (fun b hb => hI b (live_lt hs hb)) h hr

/-- A call of a function that writes nothing that was there, and whose answer is new memory. -/
theorem acall_pure {f : FuncId} {args dargs : List AV} {H : AHeap} {clk : Nat} {post : AV → AHeap → Prop} {K : AV → AHeap → Nat → Prop} (hc : FCall P f dargs post)
    (hs : args.mapM (snapV H) = some dargs) (hK : ∀ r Hn c, post r Hn → clk ≤ c → K (r.ren (H.length + ·)) (H ++ Hn.map fun b => b.map (ABlk.ren (H.length + ·))) c) : ACall P f args H clk K := by
  intro w E vals hclk hsim hargs
  have hrel : RelVs w ⟨fun b => b < w.heap.size, [], E.clk⟩ dargs vals := by
    clear hc hK
    refine ⟨?_, ?_⟩
    · rw [← hargs.1]
      clear hargs
      induction args generalizing dargs with
      | nil => simp at hs; subst hs; rfl
      | cons x xs ih =>
        rw [List.mapM_cons] at hs
        cases h1 : snapV H x with
        | none => simp [h1] at hs
        | some y =>
          cases h2 : xs.mapM (snapV H) with
          | none => simp [h1, h2] at hs
          | some ys => simp [h1, h2] at hs; subst hs; simp [ih h2]
    · intro j y v hy hv
      have : ∃ x, args[j]? = some x ∧ snapV H x = some y := by
        clear hargs hsim hv
        induction args generalizing dargs j with
        | nil => simp at hs; subst hs; simp at hy
        | cons x xs ih =>
          rw [List.mapM_cons] at hs
          cases h1 : snapV H x with
          | none => simp [h1] at hs
          | some y' =>
            cases h2 : xs.mapM (snapV H) with
            | none => simp [h1, h2] at hs
            | some ys =>
              simp [h1, h2] at hs; subst hs
              match j with
              | 0 => simp at hy; subst hy; exact ⟨x, rfl, h1⟩
              | j + 1 => simpa using ih h2 j (by simpa using hy)
      obtain ⟨x, hx, hxy⟩ := this
      exact snapV_rel (st := ⟨[], H, clk⟩) hsim (fun b hb => hb) hxy (hargs.2 j x v hx hv)
  refine (hc E.clk w ⟨fun b => b < w.heap.size, [], E.clk⟩ vals rfl ⟨rfl, fun k i hi => by simp at hi, fun b hb => hb, fun k B hB => by simp at hB, fun k k' B B' i i' b hB => by simp at hB, fun g cs hg => (hsim.glob g cs hg).mono fun b hb => ⟨hsim.I b hb, rfl⟩⟩ hrel).mono fun e w' => ?_
  rintro ⟨v, r, Hn, E', rfl, hle, hsim', hr, hfrm, hlive, hI0, hrf, hHf, hpost⟩
  have hnot : ∀ b, ¬ LiveB (⟨fun b => b < w.heap.size, [], E.clk⟩ : Env) [] b := fun b ⟨k, B, i, h, _⟩ => by simp at h
  have hold : ∀ b, b < w.heap.size → w'.heap[b]? = w.heap[b]? := fun b hb => hfrm.block b hb (hnot b)
  have hgen : ∀ (k : Nat) (i : BI), E'.β[k]? = some i → E.clk ≤ i.gen := fun k i hi => by
    rcases hle.β k i hi with h | h
    · simp at h
    · exact h
  have hclk' : E.clk ≤ E'.clk := hle.clk
  let E2 : Env := ⟨E.I, E.β ++ E'.β, E'.clk⟩
  have hle2 : Env.Le w E w' E2 := ⟨fun b hb => ⟨hb, hold b (hsim.I b hb)⟩, hclk', fun k i' hi => by
    simp only [E2] at hi
    rw [List.getElem?_append] at hi
    split at hi
    · exact .inl hi
    · exact .inr (hgen _ _ hi)⟩
  have hβ : ∀ k i, E2.β[H.length + k]? = some i → E'.β[k]? = some i := fun k i hi => by
    simp only [E2] at hi
    rw [List.getElem?_append_right (by rw [hsim.len]; omega), hsim.len] at hi
    simpa using hi
  have hβ2 : ∀ k i, E'.β[k]? = some i → E2.β[H.length + k]? = some i := fun k i hi => by
    simp only [E2]
    rw [List.getElem?_append_right (by rw [hsim.len]; omega), hsim.len]
    simpa using hi
  have hH : ∀ k B, (H ++ Hn.map fun b => b.map (ABlk.ren (H.length + ·)))[k]? = some (some B) → (k < H.length ∧ H[k]? = some (some B)) ∨ ∃ j B0, k = H.length + j ∧ Hn[j]? = some (some B0) ∧ B = B0.ren (H.length + ·) := by
    intro k B hB
    rw [List.getElem?_append] at hB
    split at hB
    · rename_i hk; exact .inl ⟨hk, hB⟩
    · rename_i hk
      rw [List.getElem?_map] at hB
      cases hj : Hn[k - H.length]? with
      | none => simp [hj] at hB
      | some b =>
        cases b with
        | none => simp [hj] at hB
        | some B0 => simp [hj] at hB; exact .inr ⟨k - H.length, B0, by omega, hj, hB.symm⟩
  have hnew : ∀ (j : Nat) (B0 : ABlk) (i : BI) (b : Nat), Hn[j]? = some (some B0) → E'.β[j]? = some i → i.blk = some b → w.heap.size ≤ b := fun j B0 i b h1 h2 h3 => by
    rcases hlive b ⟨j, B0, i, h1, h2, h3⟩ with h | h
    · exact absurd h (hnot b)
    · exact h
  have hβl : ∀ k i, k < H.length → E2.β[k]? = some i → E.β[k]? = some i := fun k i hk hi => by
    simp only [E2] at hi
    rwa [List.getElem?_append_left (by rw [hsim.len]; exact hk)] at hi
  refine ⟨v, r.ren (H.length + ·), H ++ Hn.map fun b => b.map (ABlk.ren (H.length + ·)), E2, rfl, hle2, ⟨?_, ?_, ?_, ?_, ?_, fun g cs hg => (hsim.glob g cs hg).mono hle2.I⟩, flat_relV (E := E') (E' := E2) hrf (fun g cs hg => (hsim.glob g cs hg).mono hle2.I) (Nat.le_refl _) hβ hr, ?_, ?_, fun _ _ h => .inl h, hK r Hn _ hpost (by rw [← hclk]; exact hclk')⟩
  · simp [E2, hsim.len, hsim'.len]
  · intro k i hi
    simp only [E2] at hi ⊢
    rw [List.getElem?_append] at hi
    split at hi
    · exact Nat.lt_of_lt_of_le (hsim.gens k i hi) hclk'
    · exact hsim'.gens _ i hi
  · intro b hb
    exact Nat.lt_of_lt_of_le (hsim.I b hb) hfrm.size
  · intro k B hB
    rcases hH k B hB with ⟨hk, hB'⟩ | ⟨j, B0, rfl, hB0, rfl⟩
    · obtain ⟨i, hi, hok⟩ := hsim.blk k B hB'
      exact ⟨i, by simp only [E2]; rw [List.getElem?_append_left (by rw [hsim.len]; exact hk)]; exact hi, hok.mono_same hle2 (fun _ _ hI => hI) (fun b hb => hold b (hok.lt hb))⟩
    · obtain ⟨i, hi, hok⟩ := hsim'.blk j B0 hB0
      refine ⟨i, hβ2 j i hi, hok.1, hok.2.1, hok.2.2.1, hok.2.2.2.1, ?_⟩
      obtain ⟨_, _, _, _, h5⟩ := hok
      cases hb : i.blk with
      | none => rw [hb] at h5; exact ⟨by simp [ABlk.ren, h5.1], h5.2⟩
      | some b =>
        rw [hb] at h5
        have hbn := hnew j B0 i b hB0 hi hb
        obtain ⟨_, h5⟩ := h5
        refine ⟨fun hI => by have := hsim.I b hI; omega, ?_⟩
        rcases h5 with ⟨C, hC, hl, hlc, hrl⟩ | hm
        · refine .inl ⟨C, hC, hl, by simpa [ABlk.ren] using hlc, ?_⟩
          have hfl := hHf _ (List.mem_of_getElem? hB0)
          have := flat_rels (E := E') (E' := E2) (ρ := (H.length + ·)) hfl (fun g cs hg => (hsim.glob g cs hg).mono hle2.I) (Nat.le_refl _) hβ hrl
          simpa [ABlk.ren] using this
        · exact .inr hm.ren
  · intro k k' B B' i i' b hB hB' hi hi' hb hb'
    rcases hH k B hB with ⟨hk, h1⟩ | ⟨j, B0, rfl, h1, rfl⟩ <;> rcases hH k' B' hB' with ⟨hk', h2⟩ | ⟨j', B0', rfl, h2, rfl⟩
    · exact hsim.apart k k' B B' i i' b h1 h2 (hβl k i hk hi) (hβl k' i' hk' hi') hb hb'
    · obtain ⟨i2, hi2, hok⟩ := hsim.blk k B h1
      have e := hβl k i hk hi
      rw [e] at hi2; cases hi2
      have := hok.lt hb
      have := hnew j' B0' i' b h2 (hβ j' i' hi') hb'
      omega
    · obtain ⟨i2, hi2, hok⟩ := hsim.blk k' B' h2
      have e := hβl k' i' hk' hi'
      rw [e] at hi2; cases hi2
      have := hok.lt hb'
      have := hnew j B0 i b h1 (hβ j i hi) hb
      omega
    · rw [hsim'.apart j j' B0 B0' i i' b h1 h2 (hβ j i hi) (hβ j' i' hi') hb hb']
  · exact ⟨hfrm.os, hfrm.tape, hfrm.output, hfrm.size, fun b hb _ => hold b hb⟩
  · rintro b ⟨k, B, i, hB, hi, hb⟩
    rcases hH k B hB with ⟨hk, h1⟩ | ⟨j, B0, rfl, h1, rfl⟩
    · exact .inl ⟨k, B, i, h1, hβl k i hk hi, hb⟩
    · exact .inr (hnew j B0 i b h1 (hβ j i hi) hb)

/-! A call that may write one array of its caller's -/
def RPost (p : AV → ABlk → AHeap → Prop) (r : AV) (H : AHeap) (_ : Nat) : Prop := ∃ B' Hn, H = some B' :: Hn ∧ p r B' Hn
def RCall (P : Program) (f : FuncId) (args : List AV) (B : ABlk) (p : AV → ABlk → AHeap → Prop) : Prop :=
  ∀ clk, ACall P f args [some B] clk (RPost p)
def rho (k n : Nat) : Nat → Nat
  | 0 => k
  | j + 1 => n + j

theorem ren_rel {w : World} {E E' : Env} {ρ : Nat → Nat} {c : AC} {v : Value} (hI : E'.I = E.I) (hclk : E.clk ≤ E'.clk)
    (hβ : ∀ k i, E'.β[ρ k]? = some i → E.β[k]? = some i) (h : RelC w E c v) : RelC w E' (c.ren ρ) v := by
  cases c with
  | d c => show RelD w E'.I c v; rw [hI]; exact h
  | own k g off n => exact ⟨h.1, Nat.lt_of_lt_of_le h.2.1 hclk, fun i hi => h.2.2 i (hβ k i hi)⟩
  | ptr k g off => exact ⟨h.1, Nat.lt_of_lt_of_le h.2.1 hclk, fun i hi => h.2.2 i (hβ k i hi)⟩
  | mp k g => exact ⟨h.1, Nat.lt_of_lt_of_le h.2.1 hclk, fun i hi => h.2.2 i (hβ k i hi)⟩
  | obj => exact h
  | any => exact h
theorem unren_rel {w : World} {E E' : Env} {ρ : Nat → Nat} {c : AC} {v : Value} (hI : E'.I = E.I) (hclk : E.clk = E'.clk)
    (hβ : ∀ k i, E'.β[k]? = some i → E.β[ρ k]? = some i) (h : RelC w E (c.ren ρ) v) : RelC w E' c v := by
  cases c with
  | d c => show RelD w E'.I c v; rw [hI]; exact h
  | own k g off n => exact ⟨h.1, by rw [← hclk]; exact h.2.1, fun i hi => h.2.2 i (hβ k i hi)⟩
  | ptr k g off => exact ⟨h.1, by rw [← hclk]; exact h.2.1, fun i hi => h.2.2 i (hβ k i hi)⟩
  | mp k g => exact ⟨h.1, by rw [← hclk]; exact h.2.1, fun i hi => h.2.2 i (hβ k i hi)⟩
  | obj => exact h
  | any => exact h
theorem ren_rels {w : World} {E E' : Env} {ρ : Nat → Nat} {cs : List AC} {vs : List Value} (hI : E'.I = E.I) (hclk : E.clk ≤ E'.clk)
    (hβ : ∀ k i, E'.β[ρ k]? = some i → E.β[k]? = some i) (h : RelCs w E cs vs) : RelCs w E' (cs.map (AC.ren ρ)) vs := by
  refine ⟨by simp [h.1], fun j c v hc hv => ?_⟩
  rw [List.getElem?_map] at hc
  cases hj : cs[j]? with
  | none => simp [hj] at hc
  | some c0 =>
    simp [hj] at hc; subst hc
    obtain ⟨h1, h2⟩ := h.2 j c0 v hj hv
    exact ⟨h1, ren_rel hI hclk hβ h2⟩
theorem unren_rels {w : World} {E E' : Env} {ρ : Nat → Nat} {cs : List AC} {vs : List Value} (hI : E'.I = E.I) (hclk : E.clk = E'.clk)
    (hβ : ∀ k i, E'.β[k]? = some i → E.β[ρ k]? = some i) (h : RelCs w E (cs.map (AC.ren ρ)) vs) : RelCs w E' cs vs := by
  refine ⟨by simpa using h.1, fun j c v hc hv => ?_⟩
  obtain ⟨h1, h2⟩ := h.2 j (c.ren ρ) v (by rw [List.getElem?_map, hc]; rfl) hv
  exact ⟨h1, unren_rel hI hclk hβ h2⟩
theorem ren_relV1 {w : World} {E E' : Env} {ρ : Nat → Nat} {x : AV} {v : Value} (hI : E'.I = E.I) (hclk : E.clk ≤ E'.clk)
    (hβ : ∀ k i, E'.β[ρ k]? = some i → E.β[k]? = some i) (h : RelV1 w E x v) : RelV1 w E' (x.ren1 ρ) v := by
  cases x with
  | one c => exact ren_rel hI hclk hβ h
  | agg cs => obtain ⟨l, rfl, hr⟩ := h; exact ⟨l, rfl, ren_rels hI hclk hβ hr⟩
  | tup vs => exact h
theorem ren_relV {w : World} {E E' : Env} {ρ : Nat → Nat} {x : AV} {v : Value} (hI : E'.I = E.I) (hclk : E.clk ≤ E'.clk)
    (hβ : ∀ k i, E'.β[ρ k]? = some i → E.β[k]? = some i) (h : RelV w E x v) : RelV w E' (x.ren ρ) v := by
  cases x with
  | one c => exact ren_relV1 (x := .one c) hI hclk hβ h
  | agg cs => exact ren_relV1 (x := .agg cs) hI hclk hβ h
  | tup vs =>
    obtain ⟨l, rfl, hl, hr⟩ := h
    refine ⟨l, rfl, by simp [hl], fun j x u hx hu => ?_⟩
    rw [List.getElem?_map] at hx
    cases hj : vs[j]? with
    | none => simp [hj] at hx
    | some y => simp [hj] at hx; subst hx; exact ren_relV1 hI hclk hβ (hr j y u hj hu)
theorem unren_relV {w : World} {E E' : Env} {ρ : Nat → Nat} {x : AV} {v : Value} (hI : E'.I = E.I) (hclk : E.clk = E'.clk)
    (hβ : ∀ k i, E'.β[k]? = some i → E.β[ρ k]? = some i) (h : RelV w E (x.ren ρ) v) : RelV w E' x v := by
  have one : ∀ {x : AV} {v : Value}, RelV1 w E (x.ren1 ρ) v → RelV1 w E' x v := by
    intro x v h
    cases x with
    | one c => exact unren_rel hI hclk hβ h
    | agg cs => obtain ⟨l, rfl, hr⟩ := h; exact ⟨l, rfl, unren_rels hI hclk hβ hr⟩
    | tup vs => exact h
  cases x with
  | one c => exact one (x := .one c) h
  | agg cs => exact one (x := .agg cs) h
  | tup vs =>
    obtain ⟨l, rfl, hl, hr⟩ := h
    refine ⟨l, rfl, by simpa using hl, fun j y u hy hu => ?_⟩
    exact one (hr j _ u (by rw [List.getElem?_map, hy]; rfl) hu)

theorem acall_ref {f : FuncId} {args cargs : List AV} {H : AHeap} {clk k : Nat} {B : ABlk} {p : AV → ABlk → AHeap → Prop} {K : AV → AHeap → Nat → Prop} (hc : RCall P f cargs B p)
    (hargs : args = cargs.map (AV.ren (rho k H.length))) (hk : H[k]? = some (some (B.ren (rho k H.length))))
    (hK : ∀ r B' Hn c, p r B' Hn → clk ≤ c → K (r.ren (rho k H.length)) (H.set k (some (B'.ren (rho k H.length))) ++ Hn.map fun b => b.map (ABlk.ren (rho k H.length))) c) : ACall P f args H clk K := by
  intro w E vals hclk hsim hrel
  obtain ⟨i0, hi0, hok0⟩ := hsim.blk k _ hk
  have hkl : k < E.β.length := (List.getElem?_eq_some_iff.1 hi0).1
  have hkH : k < H.length := by rw [← hsim.len]; exact hkl
  have hβ0 : ∀ (j : Nat) (i : BI), ([i0] : List BI)[j]? = some i → E.β[rho k H.length j]? = some i := fun j i hj => by
    match j with
    | 0 => simp at hj; subst hj; exact hi0
    | j + 1 => simp at hj
  let Ec : Env := ⟨E.I, [i0], E.clk⟩
  have hsimc : SimH w Ec [some B] := by
    refine ⟨rfl, fun j i hj => ?_, hsim.I, fun j B1 hB1 => ?_, fun j j' B1 B2 i i' b h1 h2 => ?_, hsim.glob⟩
    · match j with
      | 0 => simp [Ec] at hj; subst hj; exact hsim.gens k i0 hi0
      | j + 1 => simp [Ec] at hj
    · match j with
      | 0 =>
        simp at hB1; subst hB1
        refine ⟨i0, rfl, hok0.1, hok0.2.1, hok0.2.2.1, hok0.2.2.2.1, ?_⟩
        obtain ⟨_, _, _, _, h5⟩ := hok0
        cases hb : i0.blk with
        | none => rw [hb] at h5; exact ⟨by simpa [ABlk.ren] using h5.1, h5.2⟩
        | some b =>
          rw [hb] at h5
          obtain ⟨hn, ⟨C, hC, hl, hlc, hrl⟩ | hm⟩ := h5
          · refine ⟨hn, .inl ⟨C, hC, hl, by simpa [ABlk.ren] using hlc, ?_⟩⟩
            have : RelCs w E (B.cells.map (AC.ren (rho k H.length))) (C.take B.cells.length) := by simpa [ABlk.ren] using hrl
            exact unren_rels (E := E) (E' := Ec) rfl rfl hβ0 this
          · exact ⟨hn, .inr hm.unren⟩
      | j + 1 => simp at hB1
    · match j, j' with
      | 0, 0 => intros; rfl
      | 0, j' + 1 => simp at h2
      | j + 1, _ => simp at h1
  have hrelc : RelVs w Ec cargs vals := by
    refine ⟨by rw [← hrel.1, hargs]; simp, fun j x v hx hv => ?_⟩
    have := hrel.2 j (x.ren (rho k H.length)) v (by rw [hargs, List.getElem?_map, hx]; rfl) hv
    exact unren_relV (E := E) (E' := Ec) rfl rfl hβ0 this
  refine (hc E.clk w Ec vals rfl hsimc hrelc).mono fun e w' => ?_
  rintro ⟨v, r, Hc', E', rfl, hle, hsim', hr, hfrm, hlive, hI0, B', Hn, rfl, hp⟩
  have hliv0 : ∀ b, LiveB Ec [some B] b → i0.blk = some b := fun b ⟨j, B1, i, h1, h2, h3⟩ => by
    match j with
    | 0 => simp [Ec] at h2; subst h2; exact h3
    | j + 1 => simp [Ec] at h2
  have hlen' : E'.β.length = Hn.length + 1 := by have := hsim'.len; simpa using this
  obtain ⟨i0', β', hβ'⟩ : ∃ i0' β', E'.β = i0' :: β' := by
    cases hb : E'.β with
    | nil => rw [hb] at hlen'; simp at hlen'
    | cons x xs => exact ⟨x, xs, rfl⟩
  have hβ'l : β'.length = Hn.length := by rw [hβ'] at hlen'; simpa using hlen'
  have hclk' : E.clk ≤ E'.clk := hle.clk
  have hold : ∀ b, b < w.heap.size → i0.blk ≠ some b → w'.heap[b]? = w.heap[b]? := fun b hb hn => hfrm.block b hb (fun hl => hn (hliv0 b hl))
  have hnotI : ∀ b, E.I b → i0.blk ≠ some b := fun b hb e => by
    obtain ⟨_, _, _, _, h5⟩ := hok0
    rw [e] at h5
    exact h5.1 hb
  let E2 : Env := ⟨E'.I, E.β.set k i0' ++ β', E'.clk⟩
  have hgenN : ∀ (j : Nat) (i : BI), β'[j]? = some i → E.clk ≤ i.gen := fun j i hi => by
    rcases hle.β (j + 1) i (by rw [hβ']; simpa using hi) with h | h
    · simp [Ec] at h
    · exact h
  have hgen0 : i0' = i0 ∨ E.clk ≤ i0'.gen := by
    rcases hle.β 0 i0' (by rw [hβ']; rfl) with h | h
    · simp [Ec] at h; exact .inl h.symm
    · exact .inr h
  have at2 : ∀ (q : Nat) (i : BI), E2.β[q]? = some i → (q < H.length ∧ q ≠ k ∧ E.β[q]? = some i) ∨ (q = k ∧ i = i0') ∨ ∃ j, q = H.length + j ∧ β'[j]? = some i := fun q i hi => by
    simp only [E2] at hi
    rw [List.getElem?_append] at hi
    simp only [List.length_set] at hi
    split at hi
    · rename_i hq
      rw [List.getElem?_set] at hi
      split at hi
      · rename_i hkq
        subst hkq
        simp [hkl] at hi
        exact .inr (.inl ⟨rfl, hi.symm⟩)
      · rename_i hkq
        exact .inl ⟨by rw [← hsim.len]; exact hq, fun e => hkq e.symm, hi⟩
    · rename_i hq
      exact .inr (.inr ⟨q - E.β.length, by rw [← hsim.len]; omega, hi⟩)
  have hle2 : Env.Le w E w' E2 := ⟨fun b hb => hle.I b hb, hclk', fun q i hi => by
    rcases at2 q i hi with ⟨_, _, h⟩ | ⟨rfl, rfl⟩ | ⟨j, _, h⟩
    · exact .inl h
    · rcases hgen0 with e | e
      · rw [e]; exact .inl hi0
      · exact .inr e
    · exact .inr (hgenN j i h)⟩
  have hβ : ∀ j i, E2.β[rho k H.length j]? = some i → E'.β[j]? = some i := fun j i hi => by
    match j with
    | 0 =>
      rcases at2 k i hi with ⟨_, h, _⟩ | ⟨_, rfl⟩ | ⟨j, h, _⟩
      · exact absurd rfl h
      · rw [hβ']; rfl
      · omega
    | j + 1 =>
      rcases at2 _ i hi with ⟨h, _, _⟩ | ⟨h, _⟩ | ⟨j', h, h'⟩
      · simp only [rho] at h; omega
      · simp only [rho] at h; omega
      · simp only [rho] at h
        have : j' = j := by omega
        subst this
        rw [hβ']; simpa using h'
  have hβ2 : ∀ j i, E'.β[j]? = some i → E2.β[rho k H.length j]? = some i := fun j i hi => by
    rw [hβ'] at hi
    match j with
    | 0 =>
      simp at hi; subst hi
      simp only [E2, rho]
      rw [List.getElem?_append_left (by simpa using hkl)]
      simp [hkl]
    | j + 1 =>
      simp at hi
      simp only [E2, rho]
      rw [List.getElem?_append_right (by simp [hsim.len]), List.length_set, hsim.len]
      simpa using hi
  have atH : ∀ (q : Nat) (B1 : ABlk), (H.set k (some (B'.ren (rho k H.length))) ++ Hn.map fun b => b.map (ABlk.ren (rho k H.length)))[q]? = some (some B1) →
      (q < H.length ∧ q ≠ k ∧ H[q]? = some (some B1)) ∨ ∃ j B0, q = rho k H.length j ∧ (some B' :: Hn)[j]? = some (some B0) ∧ B1 = B0.ren (rho k H.length) := fun q B1 hq => by
    rw [List.getElem?_append] at hq
    simp only [List.length_set] at hq
    split at hq
    · rename_i hql
      rw [List.getElem?_set] at hq
      split at hq
      · rename_i hkq
        subst hkq
        simp [hkH] at hq
        exact .inr ⟨0, B', rfl, rfl, hq.symm⟩
      · rename_i hkq
        exact .inl ⟨hql, fun e => hkq e.symm, hq⟩
    · rename_i hql
      rw [List.getElem?_map] at hq
      cases hj : Hn[q - H.length]? with
      | none => simp [hj] at hq
      | some b =>
        cases b with
        | none => simp [hj] at hq
        | some B0 => simp [hj] at hq; exact .inr ⟨q - H.length + 1, B0, by simp only [rho]; omega, by simpa using hj, hq.symm⟩
  have hnew : ∀ (j : Nat) (B0 : ABlk) (i : BI) (b : Nat), (some B' :: Hn)[j]? = some (some B0) → E'.β[j]? = some i → i.blk = some b → i0.blk = some b ∨ w.heap.size ≤ b := fun j B0 i b h1 h2 h3 => by
    rcases hlive b ⟨j, B0, i, h1, h2, h3⟩ with h | h
    · exact .inl (hliv0 b h)
    · exact .inr h
  have hother : ∀ (q : Nat) (B1 : ABlk) (i : BI) (b : Nat), q ≠ k → H[q]? = some (some B1) → E.β[q]? = some i → i.blk = some b → b < w.heap.size ∧ i0.blk ≠ some b := fun q B1 i b hq h1 h2 h3 => by
    obtain ⟨i2, hi2, hok⟩ := hsim.blk q B1 h1
    rw [h2] at hi2; cases hi2
    exact ⟨hok.lt h3, fun e => hq (hsim.apart q k B1 _ i i0 b h1 hk h2 hi0 h3 e)⟩
  have back : ∀ (q : Nat) (i : BI), q < H.length → q ≠ k → E2.β[q]? = some i → E.β[q]? = some i := fun q i h1 h2 h3 => by
    rcases at2 q i h3 with ⟨_, _, h⟩ | ⟨h, _⟩ | ⟨j, h, _⟩
    · exact h
    · exact absurd h h2
    · omega
  refine ⟨v, r.ren (rho k H.length), _, E2, rfl, hle2, ⟨?_, ?_, ?_, ?_, ?_, fun g cs hg => (hsim.glob g cs hg).mono hle2.I⟩, ren_relV (E := E') (E' := E2) rfl (Nat.le_refl _) hβ hr, ?_, ?_, fun b hb hI => (hI0 b hb hI).elim .inl fun hl => .inr ⟨k, _, i0, hk, hi0, hliv0 b hl⟩, hK r B' Hn _ hp (by rw [← hclk]; exact hclk')⟩
  · simp [E2, hsim.len, hβ'l]
  · intro q i hi
    rcases at2 q i hi with ⟨_, _, h⟩ | ⟨_, rfl⟩ | ⟨j, _, h⟩
    · exact Nat.lt_of_lt_of_le (hsim.gens q i h) hclk'
    · exact hsim'.gens 0 i (by rw [hβ']; rfl)
    · exact hsim'.gens (j + 1) i (by rw [hβ']; simpa using h)
  · exact hsim'.I
  · intro q B1 hB1
    rcases atH q B1 hB1 with ⟨h1, h2, h3⟩ | ⟨j, B0, rfl, hB0, rfl⟩
    · obtain ⟨i, hi, hok⟩ := hsim.blk q B1 h3
      refine ⟨i, ?_, hok.mono_same hle2 (fun b hb hI => (hI0 b (hother q B1 i b h2 h3 hi hb).1 hI).resolve_right fun hl => (hother q B1 i b h2 h3 hi hb).2 (hliv0 b hl)) (fun b hb => ?_)⟩
      · simp only [E2]
        rw [List.getElem?_append_left (by simpa [hsim.len] using h1), List.getElem?_set, if_neg (fun e => h2 e.symm)]
        exact hi
      · obtain ⟨o1, o2⟩ := hother q B1 i b h2 h3 hi hb
        exact hold b o1 o2
    · obtain ⟨i, hi, hok⟩ := hsim'.blk j B0 hB0
      refine ⟨i, hβ2 j i hi, hok.1, hok.2.1, hok.2.2.1, hok.2.2.2.1, ?_⟩
      obtain ⟨_, _, _, _, h5⟩ := hok
      cases hb : i.blk with
      | none => rw [hb] at h5; exact ⟨by simp [ABlk.ren, h5.1], h5.2⟩
      | some b =>
        rw [hb] at h5
        obtain ⟨hn, ⟨C, hC, hl, hlc, hrl⟩ | hm⟩ := h5
        · refine ⟨hn, .inl ⟨C, hC, hl, by simpa [ABlk.ren] using hlc, ?_⟩⟩
          have := ren_rels (E := E') (E' := E2) (ρ := rho k H.length) rfl (Nat.le_refl _) hβ hrl
          simpa [ABlk.ren] using this
        · exact ⟨hn, .inr hm.ren⟩
  · intro q q' B1 B2 i i' b hB1 hB2 hi hi' hb hb'
    rcases atH q B1 hB1 with ⟨h1, h2, h3⟩ | ⟨j, B0, rfl, hB0, rfl⟩ <;> rcases atH q' B2 hB2 with ⟨g1, g2, g3⟩ | ⟨j', B0', rfl, hB0', rfl⟩
    · exact hsim.apart q q' B1 B2 i i' b h3 g3 (back q i h1 h2 hi) (back q' i' g1 g2 hi') hb hb'
    · obtain ⟨o1, o2⟩ := hother q B1 i b h2 h3 (back q i h1 h2 hi) hb
      rcases hnew j' B0' i' b hB0' (hβ j' i' hi') hb' with h | h
      · exact absurd h o2
      · omega
    · obtain ⟨o1, o2⟩ := hother q' B2 i' b g2 g3 (back q' i' g1 g2 hi') hb'
      rcases hnew j B0 i b hB0 (hβ j i hi) hb with h | h
      · exact absurd h o2
      · omega
    · rw [hsim'.apart j j' B0 B0' i i' b hB0 hB0' (hβ j i hi) (hβ j' i' hi') hb hb']
  · refine ⟨hfrm.os, hfrm.tape, hfrm.output, hfrm.size, fun b hb hn => hold b hb (fun e => hn ⟨k, _, i0, hk, hi0, e⟩)⟩
  · rintro b ⟨q, B1, i, hB1, hi, hb⟩
    rcases atH q B1 hB1 with ⟨h1, h2, h3⟩ | ⟨j, B0, rfl, hB0, rfl⟩
    · exact .inl ⟨q, B1, i, h3, back q i h1 h2 hi, hb⟩
    · rcases hnew j B0 i b hB0 (hβ j i hi) hb with h | h
      · exact .inl ⟨k, _, i0, hk, hi0, h⟩
      · exact .inr h
end
end Go.Abs
namespace Go.Abs
set_option linter.unusedSimpArgs false
set_option linter.unusedVariables false
set_option linter.unnecessarySimpa false
open Go

/-- What was there is there. -/
def HExt (H H' : AHeap) : Prop := ∀ (k : Nat) (B : ABlk), H[k]? = some (some B) → H'[k]? = some (some B)
theorem HExt.refl (H : AHeap) : HExt H H := fun _ _ h => h
theorem HExt.trans {H H' H'' : AHeap} (h : HExt H H') (k : HExt H' H'') : HExt H H'' := fun i B hB => k i B (h i B hB)
theorem HExt.app (H Hn : AHeap) : HExt H (H ++ Hn) := fun k B hB => by
  have hk : k < H.length := (List.getElem?_eq_some_iff.1 hB).1
  rw [List.getElem?_append_left hk]; exact hB
theorem HExt.blkAt {H H' : AHeap} (h : HExt H H') {k g : Nat} {B : ABlk} (hB : blkAt H k g = some B) : Abs.blkAt H' k g = some B := by
  obtain ⟨h1, h2⟩ := blkAt_some hB
  simp [Abs.blkAt, h k B h1, h2, blkAt_size hB]
theorem HExt.objAt {H H' : AHeap} (h : HExt H H') {k g : Nat} {p : List MapEntry × Nat} (hB : objAt H k g = some p) : Abs.objAt H' k g = some p := by
  obtain ⟨es, c⟩ := p
  obtain ⟨B, h1, h2, h3, h4, h5⟩ := objAt_some hB
  simp [Abs.objAt, h k B h1, h2, h3, h4, h5]
theorem HExt.mapsA {H H' : AHeap} (h : HExt H H') {x : AV} {es : List MapEntry} (hB : mapsA H x = some es) : Abs.mapsA H' x = some es := by
  unfold Abs.mapsA at hB ⊢
  split at hB
  · rename_i k g
    cases hp : Abs.objAt H k g with
    | none => simp [hp] at hB
    | some p => simp [hp] at hB; simp [h.objAt hp, hB]
  · exact hB
  · exact hB
  · cases hB
theorem HExt.isSome {H H' : AHeap} (h : HExt H H') {k g : Nat} (hB : (Abs.blkAt H k g).isSome = true) : (Abs.blkAt H' k g).isSome = true := by
  obtain ⟨B, hB⟩ := Option.isSome_iff_exists.1 hB
  simp [h.blkAt hB]

def quietOp : Op → Bool
  | .move _ | .assign _ | .pick .. | .load .. | .unOp .. | .convert .. | .slice _ _ _ _ none | .fieldAddr .. | .field .. | .indexAddr .. | .index .. | .extract .. | .build .. | .nilCheck _ => true
  | .call { callee := .builtin .len, .. } => true
  | .lookup .. | .makeFunc (.func _) .. => true
  | .binOp _ _ _ y _ => !(isNilC y) && !(isNilI y)
  | _ => false
def extOp : Op → Bool
  | .alloc _ | .box .. | .makeSlice .. | .buildSlice .. => true
  | .call { callee := .value (.func _), .. } => true
  | _ => false

/-- As 'acore', but a call may only add to the heap. -/
def acoreX (P : Program) (op : Op) (ev : Operand → AV) (H : AHeap) (c : Nat) (K : AV → AHeap → Nat → Prop) : Prop :=
  match op with
  | .call { callee := .value (.func f), args, .. } => callable P f = true ∧ ACall P f (args.toList.map ev) H c fun r H' c' => HExt H H' ∧ K r H' c'
  | op => acore P op ev H c K

section
variable {P : Program} {op : Op} {ev : Operand → AV} {H : AHeap} {c : Nat} {K : AV → AHeap → Nat → Prop}

theorem ACall.mono {f : FuncId} {args : List AV} {K' : AV → AHeap → Nat → Prop} (h : ACall P f args H c K) (hk : ∀ v H c, K v H c → K' v H c) : ACall P f args H c K' :=
  fun w E vals h1 h2 h3 => (h w E vals h1 h2 h3).mono fun e w' ⟨v, r, H', E', he, a1, a2, a3, a4, a5, a6, a7⟩ => ⟨v, r, H', E', he, a1, a2, a3, a4, a5, a6, hk _ _ _ a7⟩

theorem bin_det {opb : BinOp} {t : TypeId} {x y : AV} {N : AV → Prop} (h : binA P opb t x y N) : ∃ v, N v ∧ ∀ N' : AV → Prop, N' v → binA P opb t x y N' := by
  unfold binA at h ⊢
  split at h
  · split at h
    · rename_i hs
      cases opb <;> simp [isShift] at hs <;> simp only [shiftBin] at h ⊢ <;> obtain ⟨h0, h⟩ := h <;> exact ⟨_, h, fun N' hn => by simp [isShift, h0, hn]⟩
    · rename_i hs
      obtain ⟨rfl, h⟩ := h
      cases opb <;> simp [isShift] at hs <;> simp only [intBin] at h ⊢ <;>
        first
        | exact h.elim
        | (obtain ⟨h0, h⟩ := h; exact ⟨_, h, fun N' hn => by simp [isShift, h0, hn]⟩)
        | exact ⟨_, h, fun N' hn => by rw [if_neg (by simp [isShift])]; exact ⟨trivial, hn⟩⟩
  · cases opb <;> simp only [strBin] at h ⊢ <;>
      first
      | exact h.elim
      | (obtain ⟨h0, h⟩ := h; exact ⟨_, h, fun N' hn => ⟨h0, hn⟩⟩)
      | exact ⟨_, h, fun N' hn => hn⟩
  · unfold boolBin at h
    split at h
    · obtain ⟨h0, h⟩ := h; exact ⟨_, h, fun N' hn => ⟨h0, hn⟩⟩
    · obtain ⟨h0, h⟩ := h; exact ⟨_, h, fun N' hn => ⟨h0, hn⟩⟩
    · exact h.elim
  · obtain ⟨p, q, r, rfl, rfl, heq, h | h⟩ := h
    · obtain ⟨rfl, h⟩ := h
      exact ⟨_, h, fun N' hn => ⟨p, q, r, rfl, rfl, heq, .inl ⟨rfl, hn⟩⟩⟩
    · obtain ⟨rfl, h⟩ := h
      exact ⟨_, h, fun N' hn => ⟨p, q, r, rfl, rfl, heq, .inr ⟨rfl, hn⟩⟩⟩
  · exact h.elim

theorem indexV_det {t : TypeId} {x i : AV} {N : AV → Prop} (h : indexVA P t x i N) : ∃ v, N v ∧ ∀ N' : AV → Prop, N' v → indexVA P t x i N' := by
  unfold indexVA at h
  split at h
  · exact ⟨_, h.2, fun N' hn => ⟨h.1, hn⟩⟩
  · split at h
    · rename_i len e size hA
      split at h
      · rename_i agg ha
        obtain ⟨h0, h⟩ := h
        split at h
        · rename_i y hy; exact ⟨y, h, fun N' hn => by unfold indexVA; simp only [hA, ha, hy]; exact ⟨h0, hn⟩⟩
        · exact h.elim
      · exact h.elim
    · exact h.elim
  · exact h.elim
theorem load_det {t : TypeId} {x : AV} {N : AV → Prop} (h : loadA P H t x N) : ∃ v, N v ∧ ∀ H' (N' : AV → Prop), HExt H H' → N' v → loadA P H' t x N' := by
  unfold loadA at h
  split at h
  · rename_i agg n h1 h2
    split at h
    · split at h
      · rename_i B hB
        split at h
        · rename_i y hy
          exact ⟨y, h, fun H' N' he hn => by simp only [loadA, h1, h2, he.blkAt hB, hy]; exact hn⟩
        · exact h.elim
      · exact h.elim
    · split at h
      · rename_i y hy
        exact ⟨y, h, fun H' N' he hn => by simp only [loadA, h1, h2, hy]; exact hn⟩
      · exact h.elim
    · exact h.elim
  · exact h.elim

theorem elems_ext {H H' : AHeap} (he : HExt H H') {size n : Nat} {x : AV} {cs : List AC} (h : elems? H size x = some (n, cs)) : elems? H' size x = some (n, cs) := by
  unfold elems? at h ⊢
  split at h
  · exact h
  · exact h
  · split at h
    · rename_i B hB
      simp only [he.blkAt hB]; exact h
    · cases h
  · cases h

theorem quiet_core (hq : quietOp op = true) (h : acore P op ev H c K) : ∃ v, K v H c ∧ ∀ H' c' (K' : AV → AHeap → Nat → Prop), HExt H H' → K' v H' c' → acore P op ev H' c' K' := by
  unfold acore at h
  split at h
  · exact ⟨_, h, fun H' c' K' _ hk => hk⟩
  · exact ⟨_, h, fun H' c' K' _ hk => hk⟩
  · split at h
    · rename_i b hb
      exact ⟨_, h, fun H' c' K' _ hk => by simp only [acore, hb]; exact hk⟩
    · exact h.elim
  · simp [quietOp] at hq
  · simp [quietOp] at hq
  · split at h
    · rename_i z pl hz hpl
      split at h
      · rename_i cs hcs
        exact ⟨_, h, fun H' c' K' _ hk => by simp only [acore, hz, hpl, hcs]; exact hk⟩
      · exact h.elim
    · exact h.elim
  · simp [quietOp] at hq
  · obtain ⟨v, h1, h2⟩ := load_det h
    exact ⟨v, h1, fun H' c' K' he hk => h2 H' _ he hk⟩
  · simp [quietOp] at hq
  · split at h
    · rename_i hy; simp [quietOp, hy] at hq
    · rename_i hy
      split at h
      · rename_i hy2; simp [quietOp, hy2] at hq
      · rename_i hy2
        obtain ⟨v, h1, h2⟩ := bin_det h
        exact ⟨v, h1, fun H' c' K' he hk => by simp only [acore]; rw [if_neg hy, if_neg hy2]; exact h2 (fun v => K' v H' c') hk⟩
  · unfold unA at h
    split at h
    · rename_i b hx
      exact ⟨_, h, fun H' c' K' _ hk => by simp only [acore, unA, hx]; exact hk⟩
    · rename_i k n hx
      exact ⟨_, h, fun H' c' K' _ hk => by simp only [acore, unA, hx]; exact hk⟩
    · exact h.elim
  · unfold convA at h
    split at h
    · rename_i k k' n hd hx
      obtain ⟨h0, h⟩ := h
      exact ⟨_, h, fun H' c' K' _ hk => by simp only [acore, convA, hd, hx]; exact ⟨h0, hk⟩⟩
    · rename_i u hd hx
      obtain ⟨h0, h⟩ := h
      exact ⟨_, h, fun H' c' K' _ hk => by simp only [acore, convA, hd, hx]; exact ⟨h0, hk⟩⟩
    · rename_i hne _ _
      split at h
      · rename_i e hs
        obtain ⟨h0, h⟩ := h
        split at h
        · rename_i n cs hel
          split at h
          · rename_i bs hbs
            obtain ⟨h1, h⟩ := h
            refine ⟨_, h, fun H' c' K' he hk => ?_⟩
            have hel' := elems_ext he hel
            simp only [acore, convA]
            split
            · rename_i hd hx; simp_all
            · rename_i hd hx; simp_all
            · simp only [hs, hel', hbs]; exact ⟨h0, h1, hk⟩
            · simp_all
          · exact h.elim
        · exact h.elim
      · exact h.elim
    · exact h.elim
  · simp [quietOp] at hq
  · unfold sliceA at h
    split at h
    · rename_i s hx
      split at h
      · rename_i l hh hl hhh
        obtain ⟨h0, h1, h⟩ := h
        exact ⟨_, h, fun H' c' K' _ hk => by simp only [acore, sliceA, hx, hl, hhh]; exact ⟨h0, h1, hk⟩⟩
      · exact h.elim
    · rename_i n cs hx
      split at h
      · rename_i l hh e size bytes hl hhh hT
        obtain ⟨h0, h⟩ := h
        exact ⟨_, h, fun H' c' K' _ hk => by simp only [acore, sliceA, hx, hl, hhh, hT]; exact ⟨h0, hk⟩⟩
      · exact h.elim
    · rename_i k g off n hx
      split at h
      · rename_i l hh e size bytes B hl hhh hT hB
        obtain ⟨h0, h⟩ := h
        exact ⟨_, h, fun H' c' K' he hk => by simp only [acore, sliceA, hx, hl, hhh, hT, he.blkAt hB]; exact ⟨h0, hk⟩⟩
      · exact h.elim
    · rename_i hx
      split at h
      · rename_i l hh T hl hhh hT
        obtain ⟨h0, h⟩ := h
        exact ⟨_, h, fun H' c' K' _ hk => by simp only [acore, sliceA, hx, hl, hhh, hT]; exact ⟨h0, hk⟩⟩
      · exact h.elim
    · rename_i k g off hx
      split at h
      · rename_i n e size B hA hB
        split at h
        · rename_i l hh hl hhh
          obtain ⟨h0, h⟩ := h
          exact ⟨_, h, fun H' c' K' he hk => by simp only [acore, sliceA, hx, hA, he.blkAt hB, hl, hhh]; exact ⟨h0, hk⟩⟩
        · exact h.elim
      · exact h.elim
    · exact h.elim
  · unfold fieldAddrA at h
    split at h
    · rename_i off n b hT
      obtain ⟨h0, h⟩ := h
      split at h
      · rename_i k g o' hx
        obtain ⟨h1, h⟩ := h
        exact ⟨_, h, fun H' c' K' he hk => by simp only [acore, fieldAddrA, hT, hx]; exact ⟨h0, he.isSome h1, hk⟩⟩
      · rename_i cs hx
        obtain ⟨h1, h⟩ := h
        exact ⟨_, h, fun H' c' K' he hk => by simp only [acore, fieldAddrA, hT, hx]; exact ⟨h0, h1, hk⟩⟩
      · exact h.elim
    · exact h.elim
  · unfold fieldA at h
    split at h
    · rename_i off n agg cs hT hx
      split at h
      · rename_i y hy
        exact ⟨_, h, fun H' c' K' he hk => by simp only [acore, fieldA, hT, hx, hy]; exact hk⟩
      · exact h.elim
    · exact h.elim
  · unfold indexA at h
    split at h
    · rename_i e size bytes kk n hT hix
      split at h
      · rename_i k g off len hx
        obtain ⟨⟨h0, h1, h2⟩, h⟩ := h
        refine ⟨_, h, fun H' c' K' he hk => ?_⟩
        obtain ⟨B, hB⟩ := Option.isSome_iff_exists.1 h0
        simp only [acore, indexA, hT, hix, hx]
        exact ⟨⟨he.isSome h0, by rw [he.blkAt hB]; rw [hB] at h1; exact h1, h2⟩, hk⟩
      · rename_i len cs hx
        obtain ⟨h0, h⟩ := h
        exact ⟨_, h, fun H' c' K' he hk => by simp only [acore, indexA, hT, hix, hx]; exact ⟨h0, hk⟩⟩
      · exact h.elim
    · rename_i kk n hT hix
      split at h
      · rename_i len e size hA
        split at h
        · rename_i k g off hx
          obtain ⟨⟨h0, h1⟩, h⟩ := h
          exact ⟨_, h, fun H' c' K' he hk => by simp only [acore, indexA, hT, hix, hA, hx]; exact ⟨⟨he.isSome h0, h1⟩, hk⟩⟩
        · rename_i cs hx
          obtain ⟨h0, h⟩ := h
          exact ⟨_, h, fun H' c' K' he hk => by simp only [acore, indexA, hT, hix, hA, hx]; exact ⟨h0, hk⟩⟩
        · exact h.elim
      · exact h.elim
    · exact h.elim
  · obtain ⟨v, h1, h2⟩ := indexV_det h
    exact ⟨v, h1, fun H' c' K' he hk => h2 (fun v => K' v H' c') hk⟩
  · split at h
    · rename_i vs hx
      split at h
      · rename_i y hy
        exact ⟨_, h, fun H' c' K' he hk => by simp only [acore, hx, hy]; exact hk⟩
      · rename_i y hy
        exact ⟨_, h, fun H' c' K' he hk => by simp only [acore, hx, hy]; exact hk⟩
      · exact h.elim
    · exact h.elim
  · split at h
    · rename_i x t hx ht
      unfold lenA at h
      split at h
      · rename_i s hv
        obtain ⟨h0, h⟩ := h
        exact ⟨_, h, fun H' c' K' he hk => by simp only [acore, hx, ht, lenA, hv]; exact ⟨h0, hk⟩⟩
      · rename_i hv
        obtain ⟨h0, h⟩ := h
        exact ⟨_, h, fun H' c' K' he hk => by simp only [acore, hx, ht, lenA, hv]; exact ⟨h0, hk⟩⟩
      · rename_i n cs hv
        obtain ⟨h0, h⟩ := h
        exact ⟨_, h, fun H' c' K' he hk => by simp only [acore, hx, ht, lenA, hv]; exact ⟨h0, hk⟩⟩
      · rename_i k g off n hv
        obtain ⟨⟨h0, h1⟩, h⟩ := h
        exact ⟨_, h, fun H' c' K' he hk => by simp only [acore, hx, ht, lenA, hv]; exact ⟨⟨h0, he.isSome h1⟩, hk⟩⟩
      · rename_i es c hv
        obtain ⟨h0, h⟩ := h
        exact ⟨_, h, fun H' c' K' he hk => by simp only [acore, hx, ht, lenA, hv]; exact ⟨h0, hk⟩⟩
      · rename_i k g hv
        split at h
        · rename_i es c hB
          obtain ⟨h0, h⟩ := h
          exact ⟨_, h, fun H' c' K' he hk => by simp only [acore, hx, ht, lenA, hv, he.objAt hB]; exact ⟨h0, hk⟩⟩
        · exact h.elim
      · exact h.elim
    · exact h.elim
  · simp [quietOp] at hq
  · simp [quietOp] at hq
  · unfold nilA at h
    split at h
    · rename_i k g off hx
      obtain ⟨h0, h⟩ := h
      exact ⟨_, h, fun H' c' K' he hk => by simp only [acore, nilA, hx]; exact ⟨he.isSome h0, hk⟩⟩
    · rename_i cs hx
      exact ⟨_, h, fun H' c' K' he hk => by simp only [acore, nilA, hx]; exact hk⟩
    · exact h.elim
  · unfold xcore at h
    split at h
    · simp [quietOp] at hq
    · obtain ⟨kv, es, found, x, hk, hm, hg, hK⟩ := h
      exact ⟨_, hK, fun H' c' K' he hk' => ⟨kv, es, found, x, hk, he.mapsA hm, hg, hk'⟩⟩
    · simp [quietOp] at hq
    · simp [quietOp] at hq
    · simp [quietOp] at hq
    · simp [quietOp] at hq
    · simp [quietOp] at hq
    · rename_i f first captured
      split at h
      · rename_i cs hf hc
        exact ⟨_, h, fun H' c' K' he hk => by simp only [acore, xcore, hf, hc]; exact hk⟩
      · exact h.elim
    · simp [quietOp] at hq
    · exact h.elim

theorem xcore_congr {op : Op} {ev' : Operand → AV} (h : ∀ x ∈ op.operands, ev x = ev' x) : xcore P op ev H c K = xcore P op ev' H c K := by
  unfold xcore
  split
  · rfl
  · rename_i t m k ok
    rw [h m (by simp [Op.operands]), h k (by simp [Op.operands])]
  · rename_i t m k v
    rw [h m (by simp [Op.operands]), h k (by simp [Op.operands]), h v (by simp [Op.operands])]
  · rename_i args ts
    have hargs : ∀ x ∈ args.toList, ev x = ev' x := fun x hx => h x (by simp [Op.operands, Call.operands]; simpa using hx)
    split
    · rename_i x y t u hx ht
      rw [hargs x (by rw [hx]; simp), hargs y (by rw [hx]; simp)]
    · rfl
  · rename_i args ts
    have hargs : ∀ x ∈ args.toList, ev x = ev' x := fun x hx => h x (by simp [Op.operands, Call.operands]; simpa using hx)
    split
    · rename_i x y t u hx ht
      rw [hargs x (by rw [hx]; simp), hargs y (by rw [hx]; simp)]
    · rfl
  · rename_i args ts
    have hargs : ∀ x ∈ args.toList, ev x = ev' x := fun x hx => h x (by simp [Op.operands, Call.operands]; simpa using hx)
    split
    · rename_i x y hx
      rw [hargs x (by rw [hx]; simp), hargs y (by rw [hx]; simp)]
    · rfl
  · rename_i args ts
    have hargs : ∀ x ∈ args.toList, ev x = ev' x := fun x hx => h x (by simp [Op.operands, Call.operands]; simpa using hx)
    split
    · rename_i x y hx
      rw [hargs x (by rw [hx]; simp), hargs y (by rw [hx]; simp)]
    · rfl
  · rename_i f first captured
    rw [List.map_congr_left fun x hx => h x (by simp [Op.operands]; exact .inr (by simpa using hx))]
  · rename_i x args ts
    have hargs : ∀ x ∈ args.toList, ev x = ev' x := fun x hx => h x (by simp [Op.operands, Call.operands]; exact .inr (by simpa using hx))
    rw [h x (by simp [Op.operands, Call.operands]), List.map_congr_left hargs]
  · rfl
theorem copyA_mono {t : TypeId} {x y : AV} {N N' : AV → AHeap → Prop} (hk : ∀ v H, N v H → N' v H) (h : copyA P H t x y N) : copyA P H t x y N' := by
  unfold copyA at h ⊢
  split at h
  · split at h
    · split at h
      · exact ⟨h.1, hk _ _ h.2⟩
      · exact h.elim
    · exact h.elim
  · exact h.elim
theorem xcore_mono {op : Op} {K' : AV → AHeap → Nat → Prop} (hk : ∀ v H c, K v H c → K' v H c) (h : xcore P op ev H c K) : xcore P op ev H c K' := by
  unfold xcore at h ⊢
  split at h
  · exact hk _ _ _ h
  · obtain ⟨kv, es, found, x, h1, h2, h3, h4⟩ := h
    exact ⟨kv, es, found, x, h1, h2, h3, hk _ _ _ h4⟩
  · obtain ⟨j, g, es, c, kv, vv, es', c', h1, h2, h3, h4, h5, h6⟩ := h
    exact ⟨j, g, es, c, kv, vv, es', c', h1, h2, h3, h4, h5, hk _ _ _ h6⟩
  · split at h
    · obtain ⟨j, g, es, c, kv, es', h1, h2, h3, h4, h5⟩ := h
      exact ⟨j, g, es, c, kv, es', h1, h2, h3, h4, hk _ _ _ h5⟩
    · exact h.elim
  · split at h
    · exact copyA_mono (fun v H => hk v H c) h
    · exact h.elim
  · split at h
    · split at h
      · exact ⟨h.1, hk _ _ _ h.2⟩
      · exact h.elim
    · exact h.elim
  · split at h
    · split at h
      · exact ⟨h.1, hk _ _ _ h.2⟩
      · exact h.elim
    · exact h.elim
  · split at h
    · exact hk _ _ _ h
    · exact h.elim
  · split at h
    · exact ⟨h.1, h.2.mono hk⟩
    · exact h.elim
  · exact h.elim

theorem ext_core0 {op : Op} (he : extOp op = true) (hne : ∀ f args ts, op ≠ .call { callee := .value (.func f), args := args, argTypes := ts }) (h : acore P op ev H c K) : acore P op ev H c fun v H' c' => HExt H H' ∧ K v H' c' := by
  match op, he, h with
  | .alloc e, _, h =>
    simp only [acore] at h ⊢
    cases hz : zeroT P e with
    | none => simp [hz] at h
    | some z =>
      cases hn : unitT P e with
      | none => simp [hz, hn] at h
      | some n => simp only [hz, hn] at h; exact ⟨HExt.app _ _, h⟩
  | .box e x, _, h =>
    simp only [acore] at h ⊢
    cases hz : (ev x).cells? with
    | none => simp [hz] at h
    | some z =>
      cases hn : unitT P e with
      | none => simp [hz, hn] at h
      | some n => simp only [hz, hn] at h; exact ⟨HExt.app _ _, h⟩
  | .makeSlice t l m, _, h =>
    simp only [acore, makeA] at h ⊢
    split at h
    · rename_i e size bytes kl n kc m hT hl hc
      split at h
      · rename_i z hz
        exact ⟨h.1, HExt.app _ _, h.2⟩
      · exact h.elim
    · exact h.elim
  | .buildSlice t len ps, _, h =>
    simp only [acore] at h ⊢
    cases hT : sliceT P t with
    | none => simp [hT] at h
    | some r =>
      obtain ⟨e, size, b⟩ := r
      simp only [hT] at h ⊢
      cases hz : zeroT P e with
      | none => simp [hz] at h
      | some z =>
        simp only [hz] at h ⊢
        split at h
        · exact ⟨h.1, HExt.app _ _, h.2⟩
        · exact h.elim
  | .call ⟨.value (.func f), args, ts⟩, _, _ => exact absurd rfl (hne f args ts)

/-- What only adds to the heap adds to it. -/
theorem ext_core (hq : quietOp op = true ∨ extOp op = true) (h : acoreX P op ev H c K) : acoreX P op ev H c fun v H' c' => HExt H H' ∧ K v H' c' := by
  unfold acoreX at h ⊢
  split
  · simp only at h
    exact ⟨h.1, h.2.mono fun v H' c' ⟨a, b⟩ => ⟨a, a, b⟩⟩
  · rename_i hne
    have h' : acore P op ev H c K := by
      split at h
      · exact absurd rfl (hne _ _ _)
      · exact h
    rcases hq with hqq | he
    · obtain ⟨v, h1, h2⟩ := quiet_core hqq h'
      exact h2 H c _ (HExt.refl H) ⟨HExt.refl H, h1⟩
    · exact ext_core0 he (fun f args ts e => hne f args ts e) h'

theorem acoreX_acore (h : acoreX P op ev H c K) : acore P op ev H c K := by
  unfold acoreX at h
  split at h
  · exact ⟨h.1, h.2.mono fun v H' c' ⟨_, b⟩ => b⟩
  · exact h

/-- It hangs on the operands alone. -/
theorem acore_congr {ev' : Operand → AV} (h : ∀ x ∈ op.operands, ev x = ev' x) : acore P op ev H c K = acore P op ev' H c K := by
  have pairs : ∀ ps : Array (Nat × Operand), (∀ x ∈ ps.toList.map (·.2), ev x = ev' x) → (ps.toList.map fun (i, x) => (i, ev x)) = (ps.toList.map fun (i, x) => (i, ev' x)) := fun ps hp =>
    List.map_congr_left fun p hm => by
      obtain ⟨i, x⟩ := p
      simp only [hp x (List.mem_map.2 ⟨(i, x), hm, rfl⟩)]
  have bnd : ∀ (lo : Option Operand) (d : Int), (∀ x ∈ lo.toArray, ev x = ev' x) → boundOf ev lo d = boundOf ev' lo d := fun lo d hl => by
    cases lo with
    | none => rfl
    | some x => simp only [boundOf, hl x (by simp)]
  have h0 := h
  cases op <;> simp only [Op.operands] at h <;> simp only [acore] <;> try exact xcore_congr h0
  case move x => rw [h x (by simp)]
  case assign x => rw [h x (by simp)]
  case pick a b d => rw [h a (by simp), h b (by simp), h d (by simp)]
  case box e x => rw [h x (by simp)]
  case build t ps => rw [pairs ps fun x hx => h x (by simpa using hx)]
  case buildSlice t n ps => rw [pairs ps fun x hx => h x (by simpa using hx)]
  case load t x => rw [h x (by simp)]
  case store t x y => rw [h x (by simp), h y (by simp)]
  case binOp op t x y ty => rw [h x (by simp), h y (by simp)]
  case unOp op t x => rw [h x (by simp)]
  case convert s t x => rw [h x (by simp)]
  case makeSlice t l m => rw [h l (by simp), h m (by simp)]
  case slice t x lo hi mx =>
    cases mx with
    | none =>
      simp only [sliceA]
      rw [h x (by simp)]
      simp only [bnd lo _ (fun y hy => h y (by simp at hy ⊢; simp [hy])), bnd hi _ (fun y hy => h y (by simp at hy ⊢; simp [hy]))]
    | some _ => exact xcore_congr h0
  case fieldAddr s x f => rw [h x (by simp)]
  case field s x f => rw [h x (by simp)]
  case indexAddr t x i => rw [h x (by simp), h i (by simp)]
  case index t x i => rw [h x (by simp), h i (by simp)]
  case extract x i => rw [h x (by simp)]
  case nilCheck x => rw [h x (by simp)]
  case call cl =>
    obtain ⟨callee, args, ts⟩ := cl
    have hargs : ∀ x ∈ args.toList, ev x = ev' x := fun x hx => h x (by simp only [Call.operands]; simp; exact .inr (by simpa using hx))
    cases callee with
    | value f =>
      cases f with
      | func f => simp only; rw [List.map_congr_left hargs]
      | _ => exact xcore_congr h0
    | invoke r m => exact xcore_congr h0
    | builtin b =>
      cases b
      case append =>
        simp only
        split
        · rename_i x y t u hx ht
          rw [hargs x (by rw [hx]; simp), hargs y (by rw [hx]; simp)]
        · rfl
      case len =>
        simp only
        split
        · rename_i x t hx ht
          rw [hargs x (by rw [hx]; simp)]
        · rfl
      all_goals exact xcore_congr h0
theorem acoreX_congr {ev' : Operand → AV} (h : ∀ x ∈ op.operands, ev x = ev' x) : acoreX P op ev H c K = acoreX P op ev' H c K := by
  unfold acoreX
  split
  · rename_i f args ts
    have hargs : ∀ x ∈ args.toList, ev x = ev' x := fun x hx => h x (by simp only [Op.operands, Call.operands]; simp; exact .inr (by simpa using hx))
    rw [List.map_congr_left hargs]
  · exact acore_congr h
end
end Go.Abs
namespace Go.Abs
set_option linter.unusedSimpArgs false
set_option linter.unusedVariables false
set_option linter.unnecessarySimpa false
open Go

def evT (T : List AV) : Operand → AV := ASt.eval ⟨T, [], 0⟩
theorem evT_eq (st : ASt) : st.eval = evT st.tmps := by funext x; cases x <;> rfl
def guardT (T : List AV) (ops : Array Oper) (j : Nat) : Option (Option Bool) := ASt.guard ⟨T, [], 0⟩ ops j

/-- One operation of a region, its guard asked first. -/
def stepC (P : Program) (ops : Array Oper) (o : Oper) (T : List AV) (H : AHeap) (c : Nat) (K : AV → AHeap → Nat → Prop) : Prop :=
  match o.guard with
  | none => acoreX P o.op (evT T) H c K
  | some (j, want) => match guardT T ops j with
    | some b => if b = some want then acoreX P o.op (evT T) H c K else K (.tup []) H c
    | none => False

def putK (T : List AV) (dst : Option Tmp) (K : ASt → Prop) : AV → AHeap → Nat → Prop := fun v H c => K (ASt.put ⟨T, H, c⟩ dst v)
def stepA (P : Program) (ops : Array Oper) (o : Oper) (st : ASt) (K : ASt → Prop) : Prop := stepC P ops o st.tmps st.heap st.clk (putK st.tmps o.dst K)

/-- A walk of the operations that are told, in their order. -/
def AOrd (P : Program) (ops : Array Oper) (Q : Exit → ASt → Prop) : List Oper → ASt → Prop
  | [], st => Q .normal st
  | o :: rest, st => stepA P ops o st (AOrd P ops Q rest)

section
variable {P : Program} {ops : Array Oper} {Q : Exit → ASt → Prop} {K : AV → AHeap → Nat → Prop} {T : List AV} {H : AHeap} {c : Nat}

theorem look_ops {o : Oper} {d : Tmp} (h : d ∉ o.looksAt ops) : (∀ x ∈ o.op.operands, x ≠ .tmp d) ∧ (∀ g want, o.guard = some (g, want) → (ops[g]?).bind (·.dst) ≠ some d) := by
  refine ⟨fun x hx e => h ?_, fun g want hg e => h ?_⟩
  · subst e
    simp only [Oper.looksAt, List.mem_append, List.mem_filterMap]
    exact .inl ⟨.tmp d, by simpa using hx, rfl⟩
  · simp only [Oper.looksAt, List.mem_append, hg]
    exact .inr (by simp [e])

theorem evT_set {d : Tmp} {x : AV} {y : Operand} (h : y ≠ .tmp d) : evT (T.set d x) y = evT T y := by
  cases y with
  | tmp t =>
    have hne : d ≠ t := fun e => h (e ▸ rfl)
    simp [evT, ASt.eval, List.getElem?_set, hne]
  | _ => rfl
theorem stepC_set {o : Oper} {d : Tmp} {x : AV} (h : d ∉ o.looksAt ops) : stepC P ops o (T.set d x) H c K = stepC P ops o T H c K := by
  obtain ⟨h1, h2⟩ := look_ops h
  have hc : ∀ K, acoreX P o.op (evT (T.set d x)) H c K = acoreX P o.op (evT T) H c K := fun K => acoreX_congr fun y hy => evT_set (h1 y hy)
  unfold stepC
  split
  · exact hc K
  · rename_i j want hg
    have hgd : guardT (T.set d x) ops j = guardT T ops j := by
      have := h2 j want hg
      unfold guardT ASt.guard
      cases hd : (ops[j]?).bind (·.dst) with
      | none => rfl
      | some e =>
        have hne : d ≠ e := fun he => this (by rw [hd, he])
        simp [List.getElem?_set, hne]
    rw [hgd]
    split
    · rw [hc K]
    · rfl
theorem stepC_put {o : Oper} {dst : Option Tmp} {x : AV} (h : ∀ d, dst = some d → d ∉ o.looksAt ops) : stepC P ops o (ASt.put ⟨T, H, c⟩ dst x).tmps H c K = stepC P ops o T H c K := by
  cases dst with
  | none => rfl
  | some d => exact stepC_set (h d rfl)

/-- At these slots and in this heap, and in all that have more, it yields x and leaves the heap alone. -/
def QV (P : Program) (ops : Array Oper) (o : Oper) (T : List AV) (H : AHeap) (x : AV) : Prop :=
  ∀ H' c' (K : AV → AHeap → Nat → Prop), HExt H H' → K x H' c' → stepC P ops o T H' c' K

theorem qv_of_step {o : Oper} (hq : quietOp o.op = true) (h : stepC P ops o T H c K) : ∃ x, K x H c ∧ QV P ops o T H x := by
  have core : acoreX P o.op (evT T) H c K → ∃ x, K x H c ∧ ∀ H' c' (K' : AV → AHeap → Nat → Prop), HExt H H' → K' x H' c' → acoreX P o.op (evT T) H' c' K' := by
    intro h
    have hnc : ∀ f args ts, o.op ≠ .call { callee := .value (.func f), args := args, argTypes := ts } := fun f args ts e => by rw [e] at hq; simp [quietOp] at hq
    obtain ⟨x, h1, h2⟩ := quiet_core hq (acoreX_acore h)
    refine ⟨x, h1, fun H' c' K' he hk => ?_⟩
    have := h2 H' c' K' he hk
    unfold acoreX
    split
    · exact absurd (by assumption) (hnc _ _ _)
    · exact this
  unfold stepC at h
  split at h
  · rename_i hg
    obtain ⟨x, h1, h2⟩ := core h
    exact ⟨x, h1, fun H' c' K' he hk => by unfold stepC; rw [hg]; exact h2 H' c' K' he hk⟩
  · rename_i j want hg
    split at h
    · rename_i b hb
      split at h
      · rename_i hw
        obtain ⟨x, h1, h2⟩ := core h
        exact ⟨x, h1, fun H' c' K' he hk => by unfold stepC; simp only [hg, hb, hw, if_true]; exact h2 H' c' K' he hk⟩
      · rename_i hw
        exact ⟨.tup [], h, fun H' c' K' he hk => by unfold stepC; simp only [hg, hb, hw, if_false]; exact hk⟩
    · exact h.elim
theorem QV.ext {o : Oper} {x : AV} (h : QV P ops o T H x) {H' : AHeap} (he : HExt H H') : QV P ops o T H' x := fun H'' c' K he' hk => h H'' c' K (he.trans he') hk
theorem QV.put {o : Oper} {x v : AV} (h : QV P ops o T H x) {dst : Option Tmp} (hd : ∀ d, dst = some d → d ∉ o.looksAt ops) : QV P ops o (ASt.put ⟨T, H, c⟩ dst v).tmps H x := fun H' c' K he hk => by
  cases dst with
  | none => exact h H' c' K he hk
  | some d => show stepC P ops o (T.set d v) H' c' K; rw [stepC_set (hd d rfl)]; exact h H' c' K he hk

theorem stepC_ext {o : Oper} (hq : quietOp o.op = true ∨ extOp o.op = true) (h : stepC P ops o T H c K) : stepC P ops o T H c fun v H' c' => HExt H H' ∧ K v H' c' := by
  unfold stepC at h ⊢
  split
  · rename_i hg; simp only [hg] at h; exact ext_core hq h
  · rename_i j want hg
    simp only [hg] at h
    split
    · rename_i b hb
      simp only [hb] at h
      split
      · rename_i hw; rw [if_pos hw] at h; exact ext_core hq h
      · rename_i hw; rw [if_neg hw] at h; exact ⟨HExt.refl H, h⟩
    · rename_i hb; simp only [hb] at h

theorem nilCmp_mono {H : AHeap} {op : BinOp} {t : TypeId} {x : AV} {K K' : AV → Prop} (hk : ∀ v, K v → K' v) (h : nilCmpA P H op t x K) : nilCmpA P H op t x K' := by
  obtain ⟨hT, hop, h⟩ := h
  refine ⟨hT, hop, ?_⟩
  split at h
  · exact hk _ h
  · exact fun b => hk _ (h b)
  · exact hk _ h
  · exact ⟨h.1, fun h0 => hk _ (h.2.1 h0), fun h0 b => hk _ (h.2.2 h0 b)⟩
  · exact h.elim


theorem ifc_mono {op : BinOp} {t : TypeId} {x : AV} {K K' : AV → Prop} (hk : ∀ v, K v → K' v) (h : ifcA P op t x K) : ifcA P op t x K' := by
  obtain ⟨hT, hop, h⟩ := h
  refine ⟨hT, hop, ?_⟩
  split at h
  · exact hk _ h
  · exact hk _ h
  · exact h.elim
theorem acoreX_mono {op : Op} {ev : Operand → AV} {K' : AV → AHeap → Nat → Prop} (hk : ∀ v H c, K v H c → K' v H c) (h : acoreX P op ev H c K) : acoreX P op ev H c K' := by
  by_cases hqq : quietOp op = true
  · have hnc : ∀ f args ts, op ≠ .call { callee := .value (.func f), args := args, argTypes := ts } := fun f args ts e => by rw [e] at hqq; simp [quietOp] at hqq
    obtain ⟨x, h1, h2⟩ := quiet_core hqq (acoreX_acore h)
    have := h2 H c K' (HExt.refl H) (hk _ _ _ h1)
    unfold acoreX
    split
    · exact absurd rfl (hnc _ _ _)
    · exact this
  · unfold acoreX at h ⊢
    split at h
    · rename_i f args ts
      exact ⟨h.1, h.2.mono fun v H c ⟨a, b⟩ => ⟨a, hk _ _ _ b⟩⟩
    · rename_i hne
      unfold acore at h
      split at h
      all_goals try (simp [quietOp] at hqq; done)
      · simp only [acore]
        rename_i e
        cases hz : zeroT P e with
        | none => simp [hz] at h
        | some z =>
          cases hn : unitT P e with
          | none => simp [hz, hn] at h
          | some n => simp only [hz, hn] at h; exact hk _ _ _ h
      · simp only [acore]
        rename_i e x
        cases hz : (ev x).cells? with
        | none => simp [hz] at h
        | some z =>
          cases hn : unitT P e with
          | none => simp [hz, hn] at h
          | some n => simp only [hz, hn] at h; exact hk _ _ _ h
      · simp only [acore]
        rename_i t len ps
        cases hT : sliceT P t with
        | none => simp [hT] at h
        | some r =>
          obtain ⟨e, size, b⟩ := r
          simp only [hT] at h ⊢
          cases hz : zeroT P e with
          | none => simp [hz] at h
          | some z =>
            simp only [hz] at h ⊢
            split at h
            · exact ⟨h.1, hk _ _ _ h.2⟩
            · exact h.elim
      · simp only [acore, storeA] at h ⊢
        split at h
        · split at h
          · exact ⟨h.1, hk _ _ _ h.2⟩
          · exact h.elim
        · exact h.elim
      · simp only [acore]
        split at h
        · rename_i hy
          rw [if_pos hy]
          exact nilCmp_mono (fun v => hk _ _ _) h
        · rename_i hy
          rw [if_neg hy]
          split at h
          · rename_i hy2
            rw [if_pos hy2]
            exact ifc_mono (fun v => hk _ _ _) h
          · rename_i hy2; exact absurd hqq (by simp [quietOp, hy, hy2])
      · simp only [acore, makeA] at h ⊢
        split at h
        · split at h
          · exact ⟨h.1, hk _ _ _ h.2⟩
          · exact h.elim
        · exact h.elim
      · simp only [acore]
        split at h
        · rename_i x y t u hx ht
          simp only [appendA] at h ⊢
          split at h
          · obtain ⟨h0, h⟩ := h
            refine ⟨h0, ?_⟩
            split at h
            · exact ⟨h.1, hk _ _ _ h.2⟩
            · split at h
              · exact ⟨h.1, hk _ _ _ h.2⟩
              · exact h.elim
            · exact h.elim
          · exact h.elim
        · exact h.elim
      · rename_i f args ts
        exact absurd rfl (hne f args ts)
      · have hx := xcore_mono hk h
        unfold acore
        split <;> first | exact hx | exact (show False by simpa [xcore] using h).elim | (exfalso; simp_all; done)

/-- What follows may be weakened. -/
theorem stepC_mono {o : Oper} {K' : AV → AHeap → Nat → Prop} (hk : ∀ v H c, K v H c → K' v H c) (h : stepC P ops o T H c K) : stepC P ops o T H c K' := by
  unfold stepC at h ⊢
  split
  · rename_i hg; simp only [hg] at h; exact acoreX_mono hk h
  · rename_i j want hg
    simp only [hg] at h
    split
    · rename_i b hb
      simp only [hb] at h
      split
      · rename_i hw; rw [if_pos hw] at h; exact acoreX_mono hk h
      · rename_i hw; rw [if_neg hw] at h; exact hk _ _ _ h
    · rename_i hb; simp only [hb] at h
theorem stepA_mono {o : Oper} {st : ASt} {N N' : ASt → Prop} (hk : ∀ s, N s → N' s) (h : stepA P ops o st N) : stepA P ops o st N' := stepC_mono (fun _ _ _ hh => hk _ hh) h

/-- Whatever order is picked from here on. -/
def AAny (P : Program) (ops : Array Oper) (Q : Exit → ASt → Prop) : Nat → Array Bool → ASt → Prop
  | 0, listed, st => Region.ready .any ops listed = [] ∧ Q .normal st
  | n + 1, listed, st => (Region.ready .any ops listed = [] → Q .normal st) ∧
    ∀ i ∈ Region.ready .any ops listed, ∀ o, ops[i]? = some o → stepA P ops o st (AAny P ops Q n (listed.setIfInBounds i true))

def calm (o : Oper) : Bool := quietOp o.op || extOp o.op
theorem calm_or {o : Oper} (h : calm o = true) : quietOp o.op = true ∨ extOp o.op = true := by simpa [calm] using h

theorem put_put {st : ASt} {x y : Option Tmp} (v u : AV) (h : ∀ d, x = some d → y ≠ some d) : (st.put x v).put y u = (st.put y u).put x v := by
  cases x with
  | none => rfl
  | some d =>
    cases y with
    | none => rfl
    | some e =>
      have hne : d ≠ e := fun he => h d rfl (he ▸ rfl)
      simp [ASt.put, List.set_comm _ _ hne]
theorem put_heap (st : ASt) (x : Option Tmp) (v : AV) : (st.put x v).heap = st.heap := by cases x <;> rfl
theorem put_clk (st : ASt) (x : Option Tmp) (v : AV) : (st.put x v).clk = st.clk := by cases x <;> rfl
theorem put_tmps (T : List AV) (H H' : AHeap) (c c' : Nat) (x : Option Tmp) (v : AV) : (ASt.put ⟨T, H, c⟩ x v).tmps = (ASt.put ⟨T, H', c'⟩ x v).tmps := by cases x <;> rfl

/-- A quiet operation that may come up now may be taken first. -/
theorem aany_first {k : Nat} {ok : Oper} {x : AV} (hk : ops[k]? = some ok) (S : Nat → Prop) : ∀ (n : Nat) (listed : Array Bool) (st : ASt),
    (∀ j, S j → listed.getD j true = false ∧ ∃ oj e, ops[j]? = some oj ∧ e ∈ oj.after ∧ Region.binds .any e = true ∧ (e.on = k ∨ S e.on)) →
    (∀ j oj, ops[j]? = some oj → j ≠ k → listed.getD j true = false → ¬ S j → (∀ e ∈ oj.after, Region.binds .any e = true → e.on ≠ k) → ok.apart ops oj = true ∧ calm oj = true) →
    k ∈ Region.ready .any ops listed → QV P ops ok st.tmps st.heap x → AAny P ops Q n (listed.setIfInBounds k true) (st.put ok.dst x) → AAny P ops Q (n + 1) listed st := by
  intro n
  induction n with
  | zero =>
    intro listed st _ _ hr hy hA
    refine ⟨fun h => (by rw [h] at hr; cases hr), fun i hi o ho => ?_⟩
    by_cases hik : i = k
    · subst hik
      rw [hk] at ho; cases ho
      exact hy _ _ _ (HExt.refl _) hA
    · have := ready_mono hi hik
      rw [hA.1] at this
      cases this
  | succ n ih =>
    intro listed st hS hfree hr hy hA
    refine ⟨fun h => (by rw [h] at hr; cases hr), fun i hi o ho => ?_⟩
    by_cases hik : i = k
    · subst hik
      rw [hk] at ho; cases ho
      exact hy _ _ _ (HExt.refl _) hA
    · have h1 := hA.2 i (ready_mono hi hik) o ho
      obtain ⟨hiun, o', ho', hall⟩ := mem_ready.1 hi
      rw [ho] at ho'; cases ho'
      have hnot : ∀ e ∈ o.after, Region.binds .any e = true → e.on ≠ k := fun e he hb heq => by
        have h1 := hall e he hb
        have h0 := (mem_ready.1 hr).1
        rw [heq] at h1
        rcases Nat.lt_or_ge k listed.size with h' | h'
        · simp [h'] at h0 h1; rw [h0] at h1; cases h1
        · simp [Array.getElem?_eq_none h'] at h1
      have hnS : ¬ S i := fun hs => by
        obtain ⟨_, oj, e, hoj, he, hb, hor⟩ := hS i hs
        rw [ho] at hoj; cases hoj
        rcases hor with h' | h'
        · exact hnot e he hb h'
        · have h1 := hall e he hb
          have h0 := (hS _ h').1
          rcases Nat.lt_or_ge e.on listed.size with g | g
          · simp [g] at h0 h1; rw [h0] at h1; cases h1
          · simp [Array.getElem?_eq_none g] at h1
      obtain ⟨hap, hcalm⟩ := hfree i o ho hik hiun hnS hnot
      obtain ⟨a1, a2, a3⟩ := Oper.apart_spec hap
      unfold stepA at h1 ⊢
      rw [put_heap, put_clk] at h1
      have h2 : stepC P ops o st.tmps st.heap st.clk (putK (st.put ok.dst x).tmps o.dst (AAny P ops Q n ((listed.setIfInBounds k true).setIfInBounds i true))) := by
        have e := stepC_put (P := P) (ops := ops) (o := o) (T := st.tmps) (H := st.heap) (c := st.clk) (K := putK (st.put ok.dst x).tmps o.dst (AAny P ops Q n ((listed.setIfInBounds k true).setIfInBounds i true))) (dst := ok.dst) (x := x) a1
        rw [← e]
        exact h1
      refine stepC_mono ?_ (stepC_ext (calm_or hcalm) h2)
      rintro v H' c' ⟨hext, hK⟩
      refine ih (listed.setIfInBounds i true) (ASt.put ⟨st.tmps, H', c'⟩ o.dst v) ?_ ?_ (ready_mono hr (fun e => hik e.symm)) ?_ ?_
      · intro j hs
        obtain ⟨h1, h2⟩ := hS j hs
        refine ⟨?_, h2⟩
        have hij : i ≠ j := fun e => hnS (e ▸ hs)
        rw [getD_set_ne true hij]; exact h1
      · intro j oj hj hjk hun hns hno
        refine hfree j oj hj hjk ?_ hns hno
        by_cases hij : i = j
        · subst hij; exact hiun
        · rw [getD_set_ne true hij] at hun; exact hun
      · rw [put_heap]
        have h3 := (hy.ext hext)
        have := QV.put (c := c') (v := v) h3 (dst := o.dst) a3
        exact this
      · rw [Array.setIfInBounds_comm _ _ (fun e => hik e)]
        have e1 : (ASt.put ⟨st.tmps, H', c'⟩ o.dst v).put ok.dst x = ASt.put ⟨(st.put ok.dst x).tmps, H', c'⟩ o.dst v := by
          rw [← put_put x v (fun d hd => a2 d hd)]
          congr 1
          cases ok.dst <;> rfl
        rw [e1]
        exact hK

/-- Does operation j wait for operation k by an edge of its own? -/
def waits (o : Oper) (k : Nat) : Bool := o.after.any fun e => Region.binds .any e && e.on == k
def waitsOn (o : Oper) (k : Nat) (S : List Nat) : Bool := o.after.any fun e => Region.binds .any e && (e.on == k || S.contains e.on)
/-- What waits for operation k, by whatever way. -/
def depS (ops : Array Oper) (k : Nat) (listed : Array Bool) : List Nat :=
  (List.range ops.size).foldl (fun S j => if listed.getD j true then S else match ops[j]? with
    | some oj => if waitsOn oj k S then j :: S else S
    | none => S) []
def freeS (ops : Array Oper) (k : Nat) (ok : Oper) (listed : Array Bool) (S : List Nat) : Bool :=
  (S.all fun j => !(listed.getD j true) && match ops[j]? with
    | some oj => waitsOn oj k S
    | none => false) &&
  (List.range ops.size).all fun j => j == k || listed.getD j true || S.contains j || match ops[j]? with
    | some oj => waits oj k || (ok.apart ops oj && calm oj)
    | none => true
def freeOk (ops : Array Oper) (k : Nat) (ok : Oper) (listed : Array Bool) : Bool := freeS ops k ok listed (depS ops k listed)
theorem aany_free {k : Nat} {ok : Oper} {x : AV} {n : Nat} {listed : Array Bool} {st : ASt} (hk : ops[k]? = some ok) (hf : freeOk ops k ok listed = true) (hr : k ∈ Region.ready .any ops listed) (hqv : QV P ops ok st.tmps st.heap x)
    (h : AAny P ops Q n (listed.setIfInBounds k true) (st.put ok.dst x)) : AAny P ops Q (n + 1) listed st := by
  unfold freeOk at hf
  generalize depS ops k listed = S at hf
  simp only [freeS, Bool.and_eq_true, List.all_eq_true, List.mem_range] at hf
  obtain ⟨hS, hf⟩ := hf
  refine aany_first hk (fun j => S.contains j = true) n listed st ?_ ?_ hr hqv h
  · intro j hj
    have hm : j ∈ S := by simpa using hj
    have h1 := hS j hm
    simp only [Bool.and_eq_true, Bool.not_eq_true'] at h1
    obtain ⟨h1, h2⟩ := h1
    refine ⟨h1, ?_⟩
    split at h2
    · rename_i oj hoj
      simp only [waitsOn, Array.any_eq_true, Bool.and_eq_true, Bool.or_eq_true, beq_iff_eq] at h2
      obtain ⟨q, hq1, hq2, hq3⟩ := h2
      exact ⟨oj, _, hoj, Array.getElem_mem hq1, hq2, hq3⟩
    · exact absurd h2 (by simp)
  · intro j oj hj hjk hun hns hno
    have hjl : j < ops.size := by
      rcases Nat.lt_or_ge j ops.size with h | h
      · exact h
      · rw [Array.getElem?_eq_none h] at hj; cases hj
    have := hf j hjl
    have hns' : S.contains j = false := by simpa using hns
    simp only [hj, hun, hns', Bool.or_eq_true, beq_iff_eq, Bool.and_eq_true, Bool.false_eq_true, or_false, hjk, false_or] at this
    rcases this with hw | hw
    · simp only [waits, Array.any_eq_true, Bool.and_eq_true, beq_iff_eq] at hw
      obtain ⟨q, hq1, hq2, hq3⟩ := hw
      exact absurd hq3 (hno _ (Array.getElem_mem hq1) hq2)
    · exact hw
/-- An order that serves all: what comes next is quiet and apart from all that does not wait for it, or nothing else may come. -/
def orderOk (ops : Array Oper) : List Nat → Array Bool → Bool
  | [], listed => Region.ready .any ops listed == []
  | k :: rest, listed => (match ops[k]? with
      | some ok => (Region.ready .any ops listed == [k]) || ((Region.ready .any ops listed).contains k && quietOp ok.op && freeOk ops k ok listed)
      | none => false) && orderOk ops rest (listed.setIfInBounds k true)

theorem aany_of_order : ∀ (ord : List Nat) (l : List Oper) (listed : Array Bool) (st : ASt), l.map some = ord.map (ops[·]?) → orderOk ops ord listed = true → AOrd P ops Q l st → AAny P ops Q ord.length listed st
  | [], l, listed, st, hl, ho, h => by
    have : l = [] := by simpa using hl
    subst this
    exact ⟨by simpa [orderOk] using ho, h⟩
  | k :: rest, l, listed, st, hl, ho, h => by
    match l, hl, h with
    | o :: l2, hl2, h =>
      simp only [List.map_cons, List.cons.injEq] at hl2
      obtain ⟨hk, hl3⟩ := hl2
      simp only [orderOk, ← hk, Bool.and_eq_true, Bool.or_eq_true] at ho
      obtain ⟨h1, h2⟩ := ho
      by_cases hone : Region.ready .any ops listed = [k]
      · refine ⟨fun he => (by rw [hone] at he; cases he), fun i hi o' ho' => ?_⟩
        rw [hone] at hi
        simp at hi
        subst hi
        rw [← hk] at ho'; cases ho'
        exact stepA_mono (fun s hs => aany_of_order rest l2 _ s hl3 h2 hs) h
      · rcases h1 with h1 | h1
        · exact absurd (by simpa using h1) hone
        · obtain ⟨⟨hr, hq⟩, hf⟩ := h1
          unfold AOrd stepA at h
          obtain ⟨x, hx, hqv⟩ := qv_of_step hq h
          exact aany_free hk.symm hf (by simpa using hr) hqv (aany_of_order rest l2 _ _ hl3 h2 hx)

theorem stepA_sound {o : Oper} {st : ASt} {K : ASt → Prop} {w0 : World} {E0 : Env} {H0 : AHeap} {Q' : Exit → Act → World → Prop} {N : Act → World → Prop} {i : Nat} (hi : ops[i]? = some o)
    {a : Act} {w : World} (hN : ∀ st' a' w', K st' → Inv w0 E0 H0 st' a' w' → a'.defers = a.defers → N a' w') (h : stepA P ops o st K) (hI : Inv w0 E0 H0 st a w) (ro : Option Nat) (d : Nat) : wpOpIn (Wd ro) d P ops Q' i N a w := by
  unfold wpOpIn
  simp only [hi]
  have run : acoreX P o.op (evT st.tmps) st.heap st.clk (putK st.tmps o.dst K) → o.wpIn (Wd ro) d P a w N Q' := by
    intro h
    have h1 := acoreX_acore h
    rw [← evT_eq] at h1
    exact aop_soundIn (o := o) (st := st) (K := K) h1 ro d w0 E0 H0 a w hI N Q' hN
  unfold stepA stepC at h
  split at h
  · rename_i hg
    have hw : Region.wanted o (yielded ops a.tmps) = true := by simp [Region.wanted, hg]
    rw [if_pos hw]
    exact run h
  · rename_i j want hg
    split at h
    · rename_i b hb
      obtain ⟨E, hE⟩ := hI
      have hb' : st.guard ops j = some b := hb
      have hy := guard_rel hE hb'
      split at h
      · rename_i hbw
        have hw : Region.wanted o (yielded ops a.tmps) = true := by simp [Region.wanted, hg, hy, hbw]
        rw [if_pos hw]
        exact run h
      · rename_i hbw
        have hw : Region.wanted o (yielded ops a.tmps) = false := by simp [Region.wanted, hg, hy, hbw]
        rw [hw]
        exact ⟨fun _ _ => trivial, hN _ _ _ h ⟨E, InvE.put (st := ⟨st.tmps, st.heap, st.clk⟩) hE _ (rel_undef _ _)⟩ (put_defers _ _ _)⟩
    · exact h.elim

theorem aany_sound (ro : Option Nat) (d : Nat) {w0 : World} {E0 : Env} {H0 : AHeap} {Q' : Exit → Act → World → Prop} {ds : List Deferred} (hQ : ∀ st a w, Q .normal st → Inv w0 E0 H0 st a w → a.defers = ds → Q' .normal a w) : ∀ (n : Nat) (listed : Array Bool) (st : ASt) (a : Act) (w : World),
    AAny P ops Q n listed st → Inv w0 E0 H0 st a w → a.defers = ds → wpAnyIn (Wd ro) d P .any ops Q' n listed a w
  | 0, _, st, a, w, h, hI, hd => ⟨h.1, hQ st a w h.2 hI hd⟩
  | n + 1, listed, st, a, w, h, hI, hd => ⟨fun h0 => hQ st a w (h.1 h0) hI hd, fun i hi => by
    obtain ⟨_, o, ho, _⟩ := mem_ready.1 hi
    exact stepA_sound ho (fun st' a' w' hK hI' hd' => aany_sound ro d hQ n _ st' a' w' hK hI' (hd'.trans hd)) (h.2 i hi o ho) hI ro d⟩

/-- A region whose order is open: walk it in an order that serves all. -/
theorem codeOk_draw {id : Nat} {ops : Array Oper} {st : ASt} (ord : List Nat) (hm : P.follows .mixedOrders = true) (hn : ord.length = ops.size) (hb : ord.all (· < ops.size) = true)
    (ho : orderOk ops ord (Array.replicate ops.size false) = true) (h : AOrd P ops Q (ord.filterMap (ops[·]?)) st) : CodeOk P (.region id ops true) Q st := by
  intro ro d _ w0 E0 H0 a w ⟨E, hE⟩
  refine wpIn_region_any hm ?_
  obtain ⟨l, hle⟩ : ∃ l, l = ord.filterMap (ops[·]?) := ⟨_, rfl⟩
  rw [← hle] at h
  have hl : l.map some = ord.map (ops[·]?) := by
    subst hle
    clear hn ho h
    induction ord with
    | nil => rfl
    | cons k rest ih =>
      simp only [List.all_cons, Bool.and_eq_true, decide_eq_true_eq] at hb
      have hk : ops[k]? = some ops[k] := Array.getElem?_eq_getElem hb.1
      rw [List.filterMap_cons, hk]
      simp only [List.map_cons, hk]
      rw [ih hb.2]
  have hA := aany_of_order ord l _ st hl ho h
  rw [hn] at hA
  exact aany_sound ro d (ds := a.defers) (fun st' a' w' hq hI hd => ⟨.inr hd, st', hq, hI⟩) ops.size _ st a _ hA ⟨E, hE.drew⟩ rfl
end
end Go.Abs
namespace Go.Abs
set_option linter.unusedSimpArgs false
set_option linter.unusedVariables false
set_option linter.unnecessarySimpa false
open Go

def sig (σ : List Nat) (j : Nat) : Nat := σ.getD j 0
def gat (σ : List Nat) (τ : Nat → Nat) (H : AHeap) : AHeap := σ.map fun i => (H.getD i none).map (ABlk.ren τ)
def GPost (σ : List Nat) (τ : Nat → Nat) (post : AV → AHeap → Prop) (r : AV) (H : AHeap) (_ : Nat) : Prop :=
  (r.ren τ).ren (sig σ) = r ∧ (∀ i ∈ σ, ∃ B, H[i]? = some (some B) ∧ (B.ren τ).ren (sig σ) = B) ∧ σ.Nodup ∧ (r.ren τ).flat ∧ flatH (gat σ τ H) ∧ post (r.ren τ) (gat σ τ H)

section
variable {P : Program} {w : World} {E : Env}

theorem fcall_gather {f : FuncId} {args : List AV} {post : AV → AHeap → Prop} (σ : List Nat) (τ : Nat → Nat) (h : ∀ clk, ACall P f args [] clk (GPost σ τ post)) : FCall P f args post := by
  intro clk w E vals hclk hsim hrel
  refine (h clk w E vals hclk hsim hrel).mono fun e w' => ?_
  rintro ⟨v, r, H', E', rfl, hle, hsim', hr, hfrm, hlive, hI0, hren, hblk, hnd, hrf, hHf, hpost⟩
  have hE0 : E.β = [] := List.eq_nil_of_length_eq_zero (by simpa using hsim.len)
  have hall : ∀ i ∈ σ, ∃ b, E'.β[i]? = some b := fun i hi => by
    obtain ⟨B, hB, _⟩ := hblk i hi
    obtain ⟨b, hb, _⟩ := hsim'.blk i B hB
    exact ⟨b, hb⟩
  let bi : Nat → BI := fun i => E'.β.getD i ⟨0, none, 0, 0, 0⟩
  have hbi : ∀ i ∈ σ, E'.β[i]? = some (bi i) := fun i hi => by
    obtain ⟨b, hb⟩ := hall i hi
    simp [bi, List.getD_eq_getElem?_getD, hb]
  let E2 : Env := ⟨E'.I, σ.map bi, E'.clk⟩
  have hβ : ∀ (j : Nat) (i : BI), E2.β[j]? = some i → E'.β[sig σ j]? = some i := fun j i hj => by
    simp only [E2, List.getElem?_map] at hj
    cases hs : σ[j]? with
    | none => simp [hs] at hj
    | some q =>
      simp [hs] at hj
      have : sig σ j = q := by simp [sig, List.getD_eq_getElem?_getD, hs]
      rw [this, hbi q (List.mem_of_getElem? hs), hj]
  have hgen : ∀ (j : Nat) (i : BI), E'.β[j]? = some i → E.clk ≤ i.gen := fun j i hi => by
    rcases hle.β j i hi with h | h
    · rw [hE0] at h; simp at h
    · exact h
  have hle2 : Env.Le w E w' E2 := ⟨hle.I, hle.clk, fun j i hi => .inr (hgen _ i (hβ j i hi))⟩
  have hle3 : Env.Le w' E' w' ⟨E'.I, E'.β, E'.clk⟩ := Env.Le.refl _ _
  have atG : ∀ (j : Nat) (B : ABlk), (gat σ τ H')[j]? = some (some B) → ∃ q B0, σ[j]? = some q ∧ H'[q]? = some (some B0) ∧ B = B0.ren τ ∧ (B0.ren τ).ren (sig σ) = B0 := fun j B hB => by
    simp only [gat, List.getElem?_map] at hB
    cases hs : σ[j]? with
    | none => simp [hs] at hB
    | some q =>
      obtain ⟨B0, hB0, hr0⟩ := hblk q (List.mem_of_getElem? hs)
      simp [hs, hB0] at hB
      exact ⟨q, B0, rfl, hB0, hB.symm, hr0⟩
  have hβq : ∀ (j q : Nat) (i : BI), σ[j]? = some q → E2.β[j]? = some i → E'.β[q]? = some i := fun j q i hs hi => by
    have := hβ j i hi
    simpa [sig, List.getD_eq_getElem?_getD, hs] using this
  refine ⟨v, r.ren τ, gat σ τ H', E2, rfl, hle2, ⟨by simp [E2, gat], ?_, hsim'.I, ?_, ?_, hsim'.glob⟩, ?_, hfrm, ?_, hI0, hrf, hHf, hpost⟩
  · intro j i hi
    exact hsim'.gens _ i (hβ j i hi)
  · intro j B hB
    obtain ⟨q, B0, hs, hB0, rfl, hr0⟩ := atG j B hB
    obtain ⟨i, hi, hok⟩ := hsim'.blk q B0 hB0
    have hij : E2.β[j]? = some i := by
      simp only [E2, List.getElem?_map, hs]
      have := hbi q (List.mem_of_getElem? hs)
      rw [hi] at this
      simpa using this.symm
    refine ⟨i, hij, hok.1, hok.2.1, hok.2.2.1, hok.2.2.2.1, ?_⟩
    obtain ⟨_, _, _, _, h5⟩ := hok
    cases hb : i.blk with
    | none => rw [hb] at h5; exact ⟨by simp [ABlk.ren, h5.1], h5.2⟩
    | some b =>
      rw [hb] at h5
      obtain ⟨hn, ⟨C, hC, hl, hlc, hrl⟩ | hm⟩ := h5
      · refine ⟨hn, .inl ⟨C, hC, hl, by simpa [ABlk.ren] using hlc, ?_⟩⟩
        have hcs : (B0.ren τ).cells.map (AC.ren (sig σ)) = B0.cells := congrArg ABlk.cells hr0
        have hlen : (B0.ren τ).cells.length = B0.cells.length := by simp [ABlk.ren]
        rw [hlen]
        rw [← hcs] at hrl
        have := unren_rels (E := E') (E' := E2) rfl rfl hβ hrl
        simpa [hlen] using this
      · exact ⟨hn, .inr hm.ren⟩
  · intro j j' B B' i i' b hB hB' hi hi' hb hb'
    obtain ⟨q, B0, hs, hB0, _, _⟩ := atG j B hB
    obtain ⟨q', B0', hs', hB0', _, _⟩ := atG j' B' hB'
    have hq := hsim'.apart q q' B0 B0' i i' b hB0 hB0' (hβq j q i hs hi) (hβq j' q' i' hs' hi') hb hb'
    subst hq
    have hjl : j < σ.length := (List.getElem?_eq_some_iff.1 hs).1
    exact (List.getElem?_inj hjl hnd).1 (hs.trans hs'.symm)
  · have h1 : RelV w' E' ((r.ren τ).ren (sig σ)) v := by rw [hren]; exact hr
    exact unren_relV (E := E') (E' := E2) rfl rfl hβ h1
  · rintro b ⟨j, B, i, hB, hi, hb⟩
    obtain ⟨q, B0, hs, hB0, _, _⟩ := atG j B hB
    exact hlive b ⟨q, B0, i, hB0, hβq j q i hs hi, hb⟩

/-- A call that writes one array: what else it made is forgotten. -/
def TPost (p : AV → ABlk → AHeap → Prop) (r : AV) (H : AHeap) (_ : Nat) : Prop := ∃ B' Hn, H = some B' :: Hn ∧ p r B' []
theorem rcall_take {f : FuncId} {args : List AV} {B : ABlk} {p : AV → ABlk → AHeap → Prop} (h : ∀ clk, ACall P f args [some B] clk (TPost p)) : RCall P f args B p := by
  intro clk w E vals hclk hsim hrel
  refine (h clk w E vals hclk hsim hrel).mono fun e w' => ?_
  rintro ⟨v, r, H', E', rfl, hle, hsim', hr, hfrm, hlive, hI0, B', Hn, rfl, hp⟩
  have htake : ∀ {α : Type} {l : List α} {k : Nat} {x : α}, (l.take 1)[k]? = some x → l[k]? = some x := by
    intro α l k x hx
    rw [List.getElem?_take] at hx
    split at hx
    · exact hx
    · cases hx
  have hle1 : Env.Le w' E' w' ⟨E'.I, E'.β.take 1, E'.clk⟩ := ⟨fun b hb => ⟨hb, rfl⟩, Nat.le_refl _, fun k i' hi => .inl (htake hi)⟩
  refine ⟨v, r, [some B'], ⟨E'.I, E'.β.take 1, E'.clk⟩, rfl, hle.trans hle1, ⟨?_, fun k i hi => hsim'.gens k i (htake hi), hsim'.I, ?_, ?_, hsim'.glob⟩, hr.mono hle1, hfrm, ?_, hI0, B', [], rfl, hp⟩
  · have := hsim'.len; simp at this; simp; omega
  · intro k B1 hB1
    match k with
    | 0 =>
      simp at hB1; subst hB1
      obtain ⟨i, hi, hok⟩ := hsim'.blk 0 B' rfl
      exact ⟨i, by rw [List.getElem?_take, if_pos (by omega)]; exact hi, hok.mono_same hle1 (fun _ _ hI => hI) (fun _ _ => rfl)⟩
    | k + 1 => simp at hB1
  · intro k k' B1 B2 i i' b h1 h2
    match k, k' with
    | 0, 0 => intros; rfl
    | 0, k' + 1 => simp at h2
    | k + 1, _ => simp at h1
  · rintro b ⟨k, B1, i, h1, h2, h3⟩
    match k with
    | 0 => simp at h1; subst h1; exact hlive b ⟨0, B', i, rfl, htake h2, h3⟩
    | k + 1 => simp at h1
end
end Go.Abs
namespace Go.Abs
set_option linter.unusedSimpArgs false
set_option linter.unusedVariables false
set_option linter.unnecessarySimpa false
open Go

section
variable {P : Program} {w : World} {E : Env}

theorem flat_same {c : AC} {v : Value} {E' : Env} (hf : c.flat = true) (hG : GlobOk w E'.I) (hclk : E'.clk = E.clk) (hβ : E'.β = E.β) (h : RelC w E c v) : RelC w E' c v := by
  cases c with
  | d c =>
    cases c with
    | s u => cases h with | s hs => exact RelD.s hs
    | nil => cases h with | nil => exact RelD.nil
    | list n cs => simp [AC.flat, DC.flat] at hf
    | rptr cs => simp [AC.flat, DC.flat] at hf
    | map es c => simp [AC.flat, DC.flat] at hf
    | err g => exact RelD.err_in h hG
    | fn f cs =>
      cases cs with
      | nil => cases h with | fn f hr => exact RelD.fn f (fun j h => absurd h (by simp))
      | cons => simp [AC.flat, DC.flat] at hf
  | own k g off n => exact ⟨h.1, by rw [hclk]; exact h.2.1, fun i hi => h.2.2 i (by rw [← hβ]; exact hi)⟩
  | ptr k g off => exact ⟨h.1, by rw [hclk]; exact h.2.1, fun i hi => h.2.2 i (by rw [← hβ]; exact hi)⟩
  | mp k g => exact ⟨h.1, by rw [hclk]; exact h.2.1, fun i hi => h.2.2 i (by rw [← hβ]; exact hi)⟩
  | obj => exact h
  | any => exact h

theorem args_snap {args dargs : List AV} {H : AHeap} {vals : List Value} (hsim : SimH w E H) (hargs : RelVs w E args vals) (hs : args.mapM (snapV H) = some dargs) :
    RelVs w ⟨fun b => b < w.heap.size, [], E.clk⟩ dargs vals := by
  refine ⟨?_, ?_⟩
  · rw [← hargs.1]
    clear hargs
    induction args generalizing dargs with
    | nil => simp at hs; subst hs; rfl
    | cons x xs ih =>
      rw [List.mapM_cons] at hs
      cases h1 : snapV H x with
      | none => simp [h1] at hs
      | some y =>
        cases h2 : xs.mapM (snapV H) with
        | none => simp [h1, h2] at hs
        | some ys => simp [h1, h2] at hs; subst hs; simp [ih h2]
  · intro j y v hy hv
    have : ∃ x, args[j]? = some x ∧ snapV H x = some y := by
      clear hargs hsim hv
      induction args generalizing dargs j with
      | nil => simp at hs; subst hs; simp at hy
      | cons x xs ih =>
        rw [List.mapM_cons] at hs
        cases h1 : snapV H x with
        | none => simp [h1] at hs
        | some y' =>
          cases h2 : xs.mapM (snapV H) with
          | none => simp [h1, h2] at hs
          | some ys =>
            simp [h1, h2] at hs; subst hs
            match j with
            | 0 => simp at hy; subst hy; exact ⟨x, rfl, h1⟩
            | j + 1 => simpa using ih h2 j (by simpa using hy)
    obtain ⟨x, hx, hxy⟩ := this
    exact snapV_rel (st := ⟨[], H, 0⟩) hsim (fun b hb => hb) hxy (hargs.2 j x v hx hv)

theorem acall_froze {f : FuncId} {args dargs : List AV} {H : AHeap} {clk : Nat} {post : AV → AHeap → Prop} {K : AV → AHeap → Nat → Prop} (hc : FCall P f dargs post)
    (hs : args.mapM (snapV H) = some dargs) (hK : ∀ r Hn, post r Hn → ∃ x, snapV Hn r = some x ∧ K x H clk) : ACall P f args H clk K := by
  intro w E vals hclk hsim hargs
  have hrel := args_snap hsim hargs hs
  refine (hc E.clk w ⟨fun b => b < w.heap.size, [], E.clk⟩ vals rfl ⟨rfl, fun k i hi => by simp at hi, fun b hb => hb, fun k B hB => by simp at hB, fun k k' B B' i i' b hB => by simp at hB, fun g cs hg => (hsim.glob g cs hg).mono fun b hb => ⟨hsim.I b hb, rfl⟩⟩ hrel).mono fun e w' => ?_
  rintro ⟨v, r, Hn, E', rfl, hle, hsim', hr, hfrm, hlive, hI0, hrf, hHf, hpost⟩
  obtain ⟨x, hx, hKx⟩ := hK r Hn hpost
  have hnot : ∀ b, ¬ LiveB (⟨fun b => b < w.heap.size, [], E.clk⟩ : Env) [] b := fun b ⟨k, B, i, h, _⟩ => by simp at h
  have hold : ∀ b, b < w.heap.size → w'.heap[b]? = w.heap[b]? := fun b hb => hfrm.block b hb (hnot b)
  have hnew : ∀ b, LiveB E' Hn b → w.heap.size ≤ b := fun b hb => (hlive b hb).resolve_left (hnot b)
  let E2 : Env := ⟨fun b => E.I b ∨ (w.heap.size ≤ b ∧ b < w'.heap.size), E.β, E.clk⟩
  have hle2 : Env.Le w E w' E2 := ⟨fun b hb => ⟨.inl hb, hold b (hsim.I b hb)⟩, Nat.le_refl _, fun k i' hi => .inl hi⟩
  -- the callee's own memory, read without regard to what it had borrowed
  let E3 : Env := ⟨E.I, E'.β, E'.clk⟩
  have hG3 : GlobOk w' E3.I := fun g cs hg => (hsim.glob g cs hg).mono fun b hb => ⟨hb, hold b (hsim.I b hb)⟩
  have hsim3 : SimH w' E3 Hn := ⟨hsim'.len, hsim'.gens, fun b h => Nat.lt_of_lt_of_le (hsim.I b h) hfrm.size, fun k B hB => by
    obtain ⟨i, hi, hok⟩ := hsim'.blk k B hB
    refine ⟨i, hi, hok.1, hok.2.1, hok.2.2.1, hok.2.2.2.1, ?_⟩
    obtain ⟨_, _, _, _, h5⟩ := hok
    cases hb : i.blk with
    | none => rw [hb] at h5; exact h5
    | some b =>
      rw [hb] at h5
      refine ⟨fun h => by have h1 := hnew b ⟨k, B, i, hB, hi, hb⟩; have h2 := hsim.I b h; omega, ?_⟩
      rcases h5.2 with ⟨C, hC, hl, hlc, hrl⟩ | hm
      · refine .inl ⟨C, hC, hl, hlc, hrl.1, fun j c u hj hu => ?_⟩
        obtain ⟨g1, g2⟩ := hrl.2 j c u hj hu
        exact ⟨g1, flat_same (E := E') (E' := E3) (hHf _ (List.mem_of_getElem? hB) c (List.mem_of_getElem? hj)) hG3 rfl rfl g2⟩
      · exact .inr hm, hsim'.apart, fun g cs hg => (hsim.glob g cs hg).mono fun b hb => ⟨hb, hold b (hsim.I b hb)⟩⟩
  have hr3 : RelV w' E3 r v := by
    cases r with
    | one c => exact flat_same (E := E') (E' := E3) hrf hG3 rfl rfl hr
    | agg cs =>
      obtain ⟨l, rfl, hrl⟩ := hr
      exact ⟨l, rfl, hrl.1, fun j c u hj hu => ⟨(hrl.2 j c u hj hu).1, flat_same (E := E') (E' := E3) (hrf c (List.mem_of_getElem? hj)) hG3 rfl rfl (hrl.2 j c u hj hu).2⟩⟩
    | tup vs => simp [snapV] at hx
  have hxv : RelV w' E2 x v := snapV_rel' (st := ⟨[], Hn, 0⟩) hsim3 (fun b h => .inl h) (fun b hb => .inr ⟨hnew b hb, live_lt (st := ⟨[], Hn, 0⟩) hsim3 hb⟩) hx hr3
  refine ⟨v, x, H, E2, rfl, hle2, ⟨hsim.len, hsim.gens, ?_, ?_, hsim.apart, fun g cs hg => (hsim.glob g cs hg).mono hle2.I⟩, hxv, ⟨hfrm.os, hfrm.tape, hfrm.output, hfrm.size, fun b hb _ => hold b hb⟩, fun b hb => .inl hb, ?_, by rw [show E2.clk = clk from hclk]; exact hKx⟩
  · rintro b (hb | hb)
    · exact Nat.lt_of_lt_of_le (hsim.I b hb) hfrm.size
    · exact hb.2
  · intro k B hB
    obtain ⟨i, hi, hok⟩ := hsim.blk k B hB
    refine ⟨i, hi, hok.mono_same hle2 (fun b hb hI => ?_) (fun b hb => hold b (hok.lt hb))⟩
    rcases hI with h | h
    · exact h
    · have := hok.lt hb; omega
  · rintro b hb (h | h)
    · exact .inl h
    · omega

/-- An own array that from now on nobody writes is data. -/
def giveC (H : AHeap) (j : Nat) : AC → Option AC
  | .own k g off n => if k = j then (snap1 H (.own k g off n)).map .d else some (.own k g off n)
  | c => some c
def giveV (H : AHeap) (j : Nat) : AV → Option AV
  | .one c => (giveC H j c).map .one
  | x => some x

theorem mapM_at {α β : Type} {f : α → Option β} : ∀ {l : List α} {m : List β}, l.mapM f = some m → l.length = m.length ∧ ∀ (j : Nat) y, m[j]? = some y → ∃ x, l[j]? = some x ∧ f x = some y
  | [], m, h => by simp at h; subst h; exact ⟨rfl, fun j y hy => by simp at hy⟩
  | x :: xs, m, h => by
    rw [List.mapM_cons] at h
    cases h1 : f x with
    | none => simp [h1] at h
    | some y =>
      cases h2 : xs.mapM f with
      | none => simp [h1, h2] at h
      | some ys =>
        simp [h1, h2] at h; subst h
        obtain ⟨e, he⟩ := mapM_at h2
        refine ⟨by simp [e], fun j z hz => ?_⟩
        match j with
        | 0 => simp at hz; subst hz; exact ⟨x, rfl, h1⟩
        | j + 1 => simpa using he j z (by simpa using hz)

theorem acall_give {f : FuncId} {args dargs : List AV} {H : AHeap} {clk : Nat} {K : AV → AHeap → Nat → Prop} (j : Nat) (hs : args.mapM (giveV H j) = some dargs)
    (h : ACall P f dargs (H.set j none) clk K) : ACall P f args H clk K := by
  intro w E vals hclk hsim hargs
  have htk : ∀ {m q : Nat} {i : BI}, (E.β.take m)[q]? = some i → E.β[q]? = some i := fun {m q i} h => by
    rw [List.getElem?_take] at h
    split at h
    · exact h
    · cases h
  let B1 : Nat → Prop := fun b => ∃ (B : ABlk) (i : BI), H[j]? = some (some B) ∧ E.β[j]? = some i ∧ i.blk = some b
  let E1 : Env := ⟨fun b => E.I b ∨ B1 b, E.β, E.clk⟩
  have hle1 : Env.Le w E w E1 := ⟨fun b hb => ⟨.inl hb, rfl⟩, Nat.le_refl _, fun k i' hi => .inl hi⟩
  have hset : ∀ (k : Nat) (B : ABlk), (H.set j none)[k]? = some (some B) → k ≠ j ∧ H[k]? = some (some B) := fun k B hB => by
    rw [List.getElem?_set] at hB
    split at hB
    · split at hB <;> simp at hB
    · rename_i hne; exact ⟨fun e => hne e.symm, hB⟩
  have hlt1 : ∀ b, B1 b → b < w.heap.size := fun b ⟨B, i, h1, h2, h3⟩ => live_lt (st := ⟨[], H, 0⟩) hsim ⟨j, B, i, h1, h2, h3⟩
  have hsim1 : SimH w E1 (H.set j none) := by
    refine ⟨by simp [E1, hsim.len], hsim.gens, ?_, ?_, ?_, fun g cs hg => (hsim.glob g cs hg).mono hle1.I⟩
    · rintro b (hb | hb)
      · exact hsim.I b hb
      · exact hlt1 b hb
    · intro k B hB
      obtain ⟨hkj, hB'⟩ := hset k B hB
      obtain ⟨i, hi, hok⟩ := hsim.blk k B hB'
      refine ⟨i, hi, hok.mono_same hle1 (fun b hb hI => ?_) (fun _ _ => rfl)⟩
      rcases hI with hI | ⟨B', i', h1, h2, h3⟩
      · exact hI
      · exact absurd (hsim.apart k j B B' i i' b hB' h1 hi h2 hb h3) hkj
    · intro k k' B B' i i' b hB hB' hi hi' hb hb'
      exact hsim.apart k k' B B' i i' b (hset k B hB).2 (hset k' B' hB').2 hi hi' hb hb'
  obtain ⟨hlen, hat⟩ := mapM_at hs
  have hargs1 : RelVs w E1 dargs vals := by
    refine ⟨hlen.symm.trans hargs.1, fun q y v hy hv => ?_⟩
    obtain ⟨x, hx, hxy⟩ := hat q y hy
    have hr := hargs.2 q x v hx hv
    cases x with
    | one c =>
      simp only [giveV] at hxy
      have hr : RelC w E c v := hr
      cases hg : giveC H j c with
      | none => simp [hg] at hxy
      | some c' =>
        simp [hg] at hxy; subst hxy
        cases c with
        | own k g off n =>
          simp only [giveC] at hg
          split at hg
          · rename_i hkj
            subst hkj
            cases hd : snap1 H (.own k g off n) with
            | none => simp [hd] at hg
            | some d =>
              simp [hd] at hg; subst hg
              have hH : ∃ B, H[k]? = some (some B) := by
                simp only [snap1] at hd
                split at hd
                · rename_i B hB; exact ⟨B, (blkAt_some hB).1⟩
                · cases hd
              obtain ⟨B, hB⟩ := hH
              -- read in an environment in which only this array lives
              let H1 : AHeap := (List.replicate k none) ++ [some B]
              have : RelC w ⟨fun b => E.I b ∨ B1 b, E.β, E.clk⟩ (.d d) v := by
                refine snap1_rel' (st := ⟨[], H1, 0⟩) (E := ⟨E.I, E.β.take (k + 1), E.clk⟩) (c := .own k g off n) ⟨?_, fun q i hi => ?_, hsim.I, fun q B' hB' => ?_, fun q q' B' B'' i i' b h1 h2 h3 h4 h5 h6 => ?_, hsim.glob⟩ (fun b hb => .inl hb) (fun b hb => ?_) ?_ ⟨hr.1, hr.2.1, fun i hi hg => ?_⟩
                · have hkl : k < H.length := (List.getElem?_eq_some_iff.1 hB).1
                  have := hsim.len
                  simp [H1]; omega
                · have : E.β[q]? = some i := by rw [List.getElem?_take] at hi; split at hi; exact hi; cases hi
                  exact hsim.gens q i this
                · have hq : q = k ∧ B' = B := by
                    simp only [H1, List.getElem?_append, List.length_replicate] at hB'
                    split at hB'
                    · rename_i hlt; simp [List.getElem?_replicate, hlt] at hB'
                    · rename_i hge
                      have : q - k = 0 := by
                        rcases Nat.eq_zero_or_pos (q - k) with h | h
                        · exact h
                        · rw [List.getElem?_eq_none (by simp; omega)] at hB'; cases hB'
                      rw [this] at hB'
                      simp at hB'
                      exact ⟨by omega, hB'.symm⟩
                  obtain ⟨rfl, rfl⟩ := hq
                  obtain ⟨i, hi, hok⟩ := hsim.blk q B' hB
                  exact ⟨i, by rw [List.getElem?_take, if_pos (by omega)]; exact hi, hok.mono_same (E := E) (E' := ⟨E.I, E.β.take (q + 1), E.clk⟩) ⟨fun b hb => ⟨hb, rfl⟩, Nat.le_refl _, fun a i' hi' => .inl (htk hi')⟩ (fun _ _ hI => hI) (fun _ _ => rfl)⟩
                · have one : ∀ (q : Nat) (B' : ABlk), H1[q]? = some (some B') → q = k := fun q B' hB' => by
                    simp only [H1, List.getElem?_append, List.length_replicate] at hB'
                    split at hB'
                    · rename_i hlt; simp [List.getElem?_replicate, hlt] at hB'
                    · rcases Nat.eq_zero_or_pos (q - k) with h | h
                      · omega
                      · rw [List.getElem?_eq_none (by simp; omega)] at hB'; cases hB'
                  rw [one q B' h1, one q' B'' h2]
                · obtain ⟨q, B', i, h1, h2, h3⟩ := hb
                  have hqk : q = k := by
                    simp only [H1, List.getElem?_append, List.length_replicate] at h1
                    split at h1
                    · rename_i hlt; simp [List.getElem?_replicate, hlt] at h1
                    · rcases Nat.eq_zero_or_pos (q - k) with h | h
                      · omega
                      · rw [List.getElem?_eq_none (by simp; omega)] at h1; cases h1
                  subst hqk
                  exact .inr ⟨B, i, hB, htk h2, h3⟩
                · have hb1 : blkAt H1 k g = blkAt H k g := by
                    have : H1[k]? = some (some B) := by simp [H1]
                    simp [blkAt, this, hB]
                  simp only [snap1] at hd ⊢
                  rw [hb1]; exact hd
                · have : E.β[k]? = some i := by rw [List.getElem?_take] at hi; split at hi; exact hi; cases hi
                  exact hr.2.2 i this hg
              exact this
          · simp at hg; subst hg; exact RelC.mono hle1 hr
        | d c => simp [giveC] at hg; subst hg; exact RelC.mono hle1 hr
        | ptr k g off => simp [giveC] at hg; subst hg; exact RelC.mono hle1 hr
        | mp k g => simp [giveC] at hg; subst hg; exact RelC.mono hle1 hr
        | obj es c => exact hr.elim
        | any => simp [giveC] at hg; subst hg; exact RelC.mono hle1 hr
    | agg cs => simp [giveV] at hxy; subst hxy; exact hr.mono hle1
    | tup vs => simp [giveV] at hxy; subst hxy; exact hr.mono hle1
  have hliv : ∀ b, LiveB E1 (H.set j none) b → LiveB E H b := fun b ⟨k, B, i, h1, h2, h3⟩ => ⟨k, B, i, (hset k B h1).2, h2, h3⟩
  refine (h w E1 vals hclk hsim1 hargs1).mono fun e w' => ?_
  rintro ⟨v, r, H', E', rfl, hle, hsim', hr, hfrm, hlive, hI0, hK⟩
  refine ⟨v, r, H', E', rfl, hle1.trans hle, hsim', hr, ⟨hfrm.os, hfrm.tape, hfrm.output, hfrm.size, fun b hb hn => hfrm.block b hb (fun hl => hn (hliv b hl))⟩, fun b hb => (hlive b hb).imp (hliv b) id, fun b hb hI => ?_, hK⟩
  rcases hI0 b hb hI with (h | ⟨B, i, h1, h2, h3⟩) | h
  · exact .inl h
  · exact .inr ⟨j, B, i, h1, h2, h3⟩
  · exact .inr (hliv b h)
end
end Go.Abs
namespace Go.Abs
set_option linter.unusedSimpArgs false
set_option linter.unusedVariables false
set_option linter.unnecessarySimpa false
open Go

section
variable {P : Program} {ops : Array Oper} {Q : Exit → ASt → Prop} {K : AV → AHeap → Nat → Prop} {T : List AV} {H : AHeap} {c : Nat}

theorem snap1_ext {H H' : AHeap} (he : HExt H H') {x : AC} {d : DC} (h : snap1 H x = some d) : snap1 H' x = some d := by
  cases x with
  | d c => exact h
  | own k g off n =>
    simp only [snap1] at h ⊢
    cases hb : blkAt H k g with
    | none => simp [hb] at h
    | some B => rw [he.blkAt hb]; simpa [hb] using h
  | ptr k g off =>
    simp only [snap1] at h ⊢
    cases hb : blkAt H k g with
    | none => simp [hb] at h
    | some B => rw [he.blkAt hb]; simpa [hb] using h
  | mp k g =>
    simp only [snap1] at h ⊢
    cases hb : objAt H k g with
    | none => simp [hb] at h
    | some p => rw [he.objAt hb]; simpa [hb] using h
  | obj => simp [snap1] at h
  | any => simp [snap1] at h
theorem mapM_ext {α β : Type} {f g : α → Option β} (hfg : ∀ x y, f x = some y → g x = some y) : ∀ {l : List α} {m : List β}, l.mapM f = some m → l.mapM g = some m
  | [], m, h => by simpa using h
  | x :: xs, m, h => by
    rw [List.mapM_cons] at h ⊢
    cases h1 : f x with
    | none => simp [h1] at h
    | some y =>
      cases h2 : xs.mapM f with
      | none => simp [h1, h2] at h
      | some ys => simp [h1, h2] at h; subst h; simp [hfg x y h1, mapM_ext hfg h2]
theorem snapC_ext {H H' : AHeap} (he : HExt H H') {x : AC} {d : DC} (h : snapC H x = some d) : snapC H' x = some d := by
  cases x with
  | own k g off n =>
    simp only [snapC] at h ⊢
    cases hb : blkAt H k g with
    | none => simp [hb] at h
    | some B =>
      rw [he.blkAt hb]
      simp only [hb] at h ⊢
      split at h
      · rename_i hle
        rw [if_pos hle]
        split at h
        · exact h
        · rename_i hm
          cases hm2 : ((B.cells.drop off).take (n * B.size)).mapM (snap1 H) with
          | none => simp [hm2] at h
          | some ds => rw [mapM_ext (fun _ _ hh => snap1_ext he hh) hm2]; simpa [hm2] using h
      · cases h
  | d c => exact h
  | ptr k g off => exact snap1_ext (x := .ptr k g off) he h
  | mp k g => exact snap1_ext (x := .mp k g) he h
  | obj es c => exact snap1_ext (x := .obj es c) he h
  | any => exact snap1_ext (x := .any) he h
theorem snapV_ext {H H' : AHeap} (he : HExt H H') {x y : AV} (h : snapV H x = some y) : snapV H' x = some y := by
  cases x with
  | one c =>
    simp only [snapV] at h ⊢
    cases hc : snapC H c with
    | none => simp [hc] at h
    | some d => rw [snapC_ext he hc]; simpa [hc] using h
  | agg cs =>
    simp only [snapV] at h ⊢
    cases hc : cs.mapM (snapC H) with
    | none => simp [hc] at h
    | some d => rw [mapM_ext (fun _ _ hh => snapC_ext he hh) hc]; simpa [hc] using h
  | tup vs => simp [snapV] at h

/-- A call whose answer is taken as data. -/
def QCall (P : Program) (f : FuncId) (args : List AV) (H : AHeap) (K : AV → Prop) : Prop :=
  ∃ x, K x ∧ ∀ H' c' (K' : AV → AHeap → Nat → Prop), HExt H H' → K' x H' c' → ACall P f args H' c' K'
theorem qcall {f : FuncId} {args dargs : List AV} {post : AV → AHeap → Prop} {K : AV → Prop} (x : AV) (hc : FCall P f dargs post) (hs : args.mapM (snapV H) = some dargs)
    (hx : ∀ r Hn, post r Hn → snapV Hn r = some x) (hK : K x) : QCall P f args H K :=
  ⟨x, hK, fun _ _ _ he hk => acall_froze hc (mapM_ext (fun _ _ hh => snapV_ext he hh) hs) fun r Hn hp => ⟨x, hx r Hn hp, hk⟩⟩

def qcore (P : Program) (op : Op) (ev : Operand → AV) (H : AHeap) (K : AV → Prop) : Prop :=
  match op with
  | .call { callee := .value (.func f), args, .. } => callable P f = true ∧ QCall P f (args.toList.map ev) H K
  | _ => False
def qstep (P : Program) (ops : Array Oper) (o : Oper) (T : List AV) (H : AHeap) (K : AV → Prop) : Prop :=
  match o.guard with
  | none => qcore P o.op (evT T) H K
  | some (j, want) => match guardT T ops j with
    | some b => if b = some want then qcore P o.op (evT T) H K else K (.tup [])
    | none => False

theorem qv_of_qstep {o : Oper} {K : AV → Prop} (h : qstep P ops o T H K) : ∃ x, K x ∧ QV P ops o T H x := by
  have core : qcore P o.op (evT T) H K → ∃ x, K x ∧ ∀ H' c' (K' : AV → AHeap → Nat → Prop), HExt H H' → K' x H' c' → acoreX P o.op (evT T) H' c' K' := by
    intro h
    unfold qcore at h
    split at h
    · rename_i f args ts hop
      obtain ⟨hcl, x, hK, hac⟩ := h
      refine ⟨x, hK, fun H' c' K' he hk => ?_⟩
      rw [hop]
      exact ⟨hcl, hac H' c' _ he ⟨HExt.refl _, hk⟩⟩
    · exact h.elim
  unfold qstep at h
  split at h
  · rename_i hg
    obtain ⟨x, h1, h2⟩ := core h
    exact ⟨x, h1, fun H' c' K' he hk => by unfold stepC; rw [hg]; exact h2 H' c' K' he hk⟩
  · rename_i j want hg
    split at h
    · rename_i b hb
      split at h
      · rename_i hw
        obtain ⟨x, h1, h2⟩ := core h
        exact ⟨x, h1, fun H' c' K' he hk => by unfold stepC; simp only [hg, hb, hw, if_true]; exact h2 H' c' K' he hk⟩
      · rename_i hw
        exact ⟨.tup [], h, fun H' c' K' he hk => by unfold stepC; simp only [hg, hb, hw, if_false]; exact hk⟩
    · exact h.elim

def qputK (st : ASt) (dst : Option Tmp) (K : ASt → Prop) : AV → Prop := fun v => K (st.put dst v)
/-- A walk of operations; a call that is marked is taken as quiet. -/
def AOrdQ (P : Program) (ops : Array Oper) (Q : Exit → ASt → Prop) : List (Bool × Oper) → ASt → Prop
  | [], st => Q .normal st
  | (false, o) :: rest, st => stepA P ops o st (AOrdQ P ops Q rest)
  | (true, o) :: rest, st => qstep P ops o st.tmps st.heap (qputK st o.dst (AOrdQ P ops Q rest))

def orderOkQ (ops : Array Oper) : List (Bool × Nat) → Array Bool → Bool
  | [], listed => Region.ready .any ops listed == []
  | (q, k) :: rest, listed => (match ops[k]? with
      | some ok => (!q && Region.ready .any ops listed == [k]) || ((Region.ready .any ops listed).contains k && (q || quietOp ok.op) && freeOk ops k ok listed)
      | none => false) && orderOkQ ops rest (listed.setIfInBounds k true)

theorem aany_of_orderQ : ∀ (ord : List (Bool × Nat)) (l : List (Bool × Oper)) (listed : Array Bool) (st : ASt), l.map (fun p => (p.1, some p.2)) = ord.map (fun p => (p.1, ops[p.2]?)) → orderOkQ ops ord listed = true → AOrdQ P ops Q l st → AAny P ops Q ord.length listed st
  | [], l, listed, st, hl, ho, h => by
    have : l = [] := by simpa using hl
    subst this
    exact ⟨by simpa [orderOkQ] using ho, h⟩
  | (q, k) :: rest, l, listed, st, hl, ho, h => by
    match l, hl, h with
    | (q2, o) :: l2, hl2, h =>
      simp only [List.map_cons, List.cons.injEq, Prod.mk.injEq] at hl2
      obtain ⟨⟨rfl, hk⟩, hl3⟩ := hl2
      simp only [orderOkQ, ← hk, Bool.and_eq_true, Bool.or_eq_true] at ho
      obtain ⟨h1, h2⟩ := ho
      have free : ∀ {x : AV}, k ∈ Region.ready .any ops listed → freeOk ops k o listed = true → QV P ops o st.tmps st.heap x → AOrdQ P ops Q l2 (st.put o.dst x) → AAny P ops Q (((q2, k) :: rest).length) listed st := by
        intro x hr hf hqv hx
        exact aany_free hk.symm hf hr hqv (aany_of_orderQ rest l2 _ _ hl3 h2 hx)
      cases q2 with
      | true =>
        rcases h1 with h1 | h1
        · simp at h1
        · obtain ⟨⟨hr, _⟩, hf⟩ := h1
          unfold AOrdQ at h
          obtain ⟨x, hx, hqv⟩ := qv_of_qstep h
          exact free (by simpa using hr) hf hqv hx
      | false =>
        by_cases hone : Region.ready .any ops listed = [k]
        · refine ⟨fun he => (by rw [hone] at he; cases he), fun i hi o' ho' => ?_⟩
          rw [hone] at hi
          simp at hi
          subst hi
          rw [← hk] at ho'; cases ho'
          exact stepA_mono (fun s hs => aany_of_orderQ rest l2 _ s hl3 h2 hs) h
        · rcases h1 with h1 | h1
          · exact absurd (by simpa using h1) hone
          · obtain ⟨⟨hr, hq⟩, hf⟩ := h1
            unfold AOrdQ stepA at h
            obtain ⟨x, hx, hqv⟩ := qv_of_step (by simpa using hq) h
            exact free (by simpa using hr) hf hqv hx

/-- A region whose order is open: walk it in an order that serves all, the marked calls taken as quiet. -/
theorem codeOk_drawq {id : Nat} {ops : Array Oper} {st : ASt} (ord : List (Bool × Nat)) (hm : P.follows .mixedOrders = true) (hn : ord.length = ops.size) (hb : ord.all (fun p => p.2 < ops.size) = true)
    (ho : orderOkQ ops ord (Array.replicate ops.size false) = true) (h : AOrdQ P ops Q (ord.filterMap (fun p => (ops[p.2]?).map fun o => (p.1, o))) st) : CodeOk P (.region id ops true) Q st := by
  intro ro d _ w0 E0 H0 a w ⟨E, hE⟩
  refine wpIn_region_any hm ?_
  obtain ⟨l, hle⟩ : ∃ l, l = ord.filterMap (fun p => (ops[p.2]?).map fun o => (p.1, o)) := ⟨_, rfl⟩
  rw [← hle] at h
  have hl : l.map (fun p => (p.1, some p.2)) = ord.map (fun p => (p.1, ops[p.2]?)) := by
    subst hle
    clear hn ho h
    induction ord with
    | nil => rfl
    | cons p rest ih =>
      obtain ⟨q, k⟩ := p
      simp only [List.all_cons, Bool.and_eq_true, decide_eq_true_eq] at hb
      have hk : ops[k]? = some ops[k] := Array.getElem?_eq_getElem hb.1
      rw [List.filterMap_cons]
      simp only [hk, Option.map_some, List.map_cons]
      rw [ih hb.2]
  have hA := aany_of_orderQ ord l _ st hl ho h
  rw [hn] at hA
  exact aany_sound ro d (ds := a.defers) (fun st' a' w' hq hI hd => ⟨.inr hd, st', hq, hI⟩) ops.size _ st a _ hA ⟨E, hE.drew⟩ rfl
end
end Go.Abs
