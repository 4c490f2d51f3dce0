/-
  The abstract steps are sound: conversions, append. No program's text.
-/
import Derived.Test.YtjalcajhmiamgaaAbs9
namespace Go.Abs
set_option linter.unusedSimpArgs false
set_option linter.unusedVariables false
set_option linter.unnecessarySimpa false
open Go

section
variable {P : Program} {w0 w : World} {E0 E : Env} {H0 : AHeap} {st : ASt} {a : Act} {o : Oper} {K : ASt → Prop}

/-- What a slice's elements are in memory. -/
theorem InvE.elems (hE : InvE w0 E0 H0 st a w E) {x : AV} {v : Value} {size n : Nat} {cs : List AC} (hr : RelV w E x v) (h : elems? st.heap size x = some (n, cs)) :
    ∃ A cap, v = .slice A n cap ∧ n ≤ cap ∧ cap ≤ maxLen ∧ (A = none → cs = []) ∧ ∀ ad, A = some ad → Readable w E ad cs := by
  unfold elems? at h
  split at h
  · simp only [Option.some.injEq, Prod.mk.injEq] at h
    obtain ⟨rfl, rfl⟩ := h
    cases hr with
    | nil => exact ⟨none, 0, rfl, Nat.le_refl _, Nat.zero_le _, fun _ => rfl, fun ad h => by cases h⟩
  · rename_i m ds
    simp only [Option.some.injEq, Prod.mk.injEq] at h
    obtain ⟨rfl, rfl⟩ := h
    cases hr with
    | list fv ha hrr hn hm =>
      refine ⟨_, _, rfl, hn, hm, fun hA => ?_, fun ad hA => ?_⟩
      · subst hA
        have : ds = [] := by
          rcases ds with _ | ⟨d, ds⟩
          · rfl
          · obtain ⟨ad, h, _⟩ := ha (by simp); cases h
        subst this; simp
      · rcases ds with _ | ⟨d, ds⟩
        · simp; exact ⟨[], RelCs.nil, fun j v hv => by simp at hv⟩
        · obtain ⟨ad', h, hI, hc⟩ := ha (by simp)
          rw [hA] at h; cases h
          have := (readable_list (E := E) fv hc hrr).take (m * size)
          rw [← List.map_take] at this
          exact this
  · rename_i k g off m
    split at h
    · rename_i B hB
      simp only [Option.some.injEq, Prod.mk.injEq] at h
      obtain ⟨rfl, rfl⟩ := h
      obtain ⟨i, ad, cap, hk, hg, hi, hok, hv, h1, h2, h3, h4⟩ := hE.at_own hB hr
      refine ⟨ad, cap, hv, h1, h2, fun hA => ?_, fun ad' hA => ?_⟩
      · cases hb : i.blk with
        | none =>
          rw [hb] at h4
          have : m = 0 := by omega
          simp [this]
        | some b =>
          rw [hb] at h4
          have : m = 0 := by
            rcases Nat.eq_zero_or_pos cap with h | h
            · omega
            · have := h4 h; rw [hA] at this; cases this
          simp [this]
      · cases hb : i.blk with
        | none => rw [hb] at h4; rw [hA] at h4; simp at h4
        | some b =>
          rw [hb] at h4
          rcases Nat.eq_zero_or_pos cap with h | h
          · have : m = 0 := by omega
            simp [this]; exact ⟨[], RelCs.nil, fun j v hv => by simp at hv⟩
          · have := h4 h; rw [hA] at this; cases this
            exact (hok.readable (blkAt_size hB) hb off).take _
    · cases h
  · cases h

theorem bytes_rel {cs : List AC} {vs : List Value} {bs : List UInt8} (hr : RelCs w E cs vs) (h : bytesOf? cs = some bs) :
    ∃ ns : List Int, vs = ns.map (Value.int .u8) ∧ bs = ns.map fun n => UInt8.ofNat n.toNat := by
  induction cs generalizing vs bs with
  | nil =>
    have : vs = [] := List.eq_nil_of_length_eq_zero (by simpa using hr.1.symm)
    subst this
    simp [bytesOf?] at h
    subst h
    exact ⟨[], rfl, rfl⟩
  | cons c cs ih =>
    match vs, hr with
    | [], hr => have := hr.1; simp at this
    | v :: vs, hr =>
      unfold bytesOf? at h
      rw [List.mapM_cons] at h
      cases hb : (c.dc?).bind DC.byte? with
      | none => simp [hb] at h
      | some x =>
        cases hm : cs.mapM (fun c => (c.dc?).bind DC.byte?) with
        | none => simp [hb, hm] at h
        | some ys =>
          simp [hb, hm] at h
          subst h
          obtain ⟨ns, rfl, rfl⟩ := ih (vs := vs) (bs := ys) ⟨by simpa using hr.1, fun j c' v' hc hv => hr.2 (j + 1) c' v' hc hv⟩ hm
          have hcv := (hr.2 0 c v rfl rfl).2
          cases c with
          | d c =>
            simp [AC.dc?] at hb
            cases c with
            | s u =>
              cases hcv with
              | s _ =>
                unfold DC.byte? at hb
                split at hb
                · rename_i n hn
                  cases hn; cases hb
                  exact ⟨n :: ns, rfl, rfl⟩
                · cases hb
            | list => simp [DC.byte?] at hb
            | nil => simp [DC.byte?] at hb
            | rptr => simp [DC.byte?] at hb
            | map => simp [DC.byte?] at hb
          | own => simp [AC.dc?] at hb
          | ptr => simp [AC.dc?] at hb
          | mp => simp [AC.dc?] at hb
          | obj => simp [AC.dc?] at hb
          | any => simp [AC.dc?] at hb

theorem ok_conv {s t : TypeId} {x : Operand} (ho : o.op = .convert s t x) (h : convA P st.heap s t (st.eval x) fun v => K (st.put o.dst v)) : OpOk P o st K := by
  unfold convA at h
  split at h
  · rename_i k k' n hd hx
    obtain ⟨hs, h⟩ := h
    obtain ⟨ds, hs⟩ := Option.isSome_iff_exists.1 hs
    refine opOk_sv h rfl (fun w0 E0 H0 a w E hE => ?_)
    simp [execOp, ho, scal_int hE hx, convert, run_underlying hs, run_underlying hd, Conv.intToInt]
  · rename_i u hd hx
    obtain ⟨hs, h⟩ := h
    refine opOk_sv h rfl (fun w0 E0 H0 a w E hE => ?_)
    simp [execOp, ho, scal hE hx, convert, run_underlying hs, run_underlying hd]
  · have hd : P.underlying t = some .string := by assumption
    split at h
    · rename_i e hs
      obtain ⟨he, h⟩ := h
      split at h
      · rename_i n cs hel
        split at h
        · rename_i bs hbs
          obtain ⟨hlen, h⟩ := h
          refine opOk_sv h rfl (fun w0 E0 H0 a w E hE => ?_)
          obtain ⟨A, cap, hv, _, _, hnil, hsome⟩ := hE.elems (hE.eval x) hel
          have hc := run_convert_bytes_string w s t e A n cap hs he hd
          cases A with
          | none =>
            have hcs := hnil rfl
            subst hcs
            have hb0 : bs = [] := by simpa [bytesOf?] using hbs
            subst hb0
            simp [execOp, ho, hv, hc, Conv.bytesToString]
            rfl
          | some ad =>
            obtain ⟨vs, hrel, hcell⟩ := hsome ad rfl
            obtain ⟨ns, rfl, rfl⟩ := bytes_rel hrel hbs
            have hl : (ns.map (Value.int .u8)).length = n := by rw [← hrel.1, hlen]
            have hld := run_loadCells_list (P := P) w ad _ hcell
            rw [hl] at hld
            have hrun := run_bytesToString w ad n cap ns hld
            have hfold : ∀ (ns : List Int) (s : ByteArray), ns.foldl (fun r n => r.push (UInt8.ofNat n.toNat)) s = ⟨s.data ++ (ns.map fun n => UInt8.ofNat n.toNat).toArray⟩ := by
              intro ns
              induction ns with
              | nil => intro s; simp
              | cons n ns ih =>
                intro s
                rw [List.foldl_cons, ih]
                congr 1
                apply Array.ext'
                simp [ByteArray.push]
            rw [hfold] at hrun
            have he0 : ByteArray.empty.data = #[] := rfl
            rw [he0, Array.empty_append] at hrun
            simp [execOp, ho, hv, hc, hrun]
        · exact h.elim
      · exact h.elim
    · exact h.elim
  · exact h.elim
end
end Go.Abs
