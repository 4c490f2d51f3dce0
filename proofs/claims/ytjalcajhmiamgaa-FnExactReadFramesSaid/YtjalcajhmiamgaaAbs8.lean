/-
  The abstract steps are sound: slices, addresses, arithmetic. No program's text.
-/
import Derived.Test.YtjalcajhmiamgaaAbs7
namespace Go.Abs
set_option linter.unusedSimpArgs false
set_option linter.unusedVariables false
set_option linter.unnecessarySimpa false
open Go

theorem toList_madeCells (z : Array Value) (len : Nat) : (madeCells z (len * z.size)).toList = (List.replicate len z.toList).flatten := by
  unfold madeCells
  rw [Array.toList_map, Array.toList_range]
  induction len with
  | zero => simp
  | succ len ih =>
    rw [Nat.succ_mul, List.range_add, List.map_append, ih, List.replicate_succ', List.flatten_append]
    congr 1
    simp only [List.map_map, List.flatten_cons, List.flatten_nil, List.append_nil]
    apply List.ext_getElem?
    intro j
    rw [List.getElem?_map]
    by_cases hj : j < z.size
    · rw [List.getElem?_range hj]
      have hm : (len * z.size + j) % z.size = j := by rw [Nat.add_comm, Nat.add_mul_mod_self_right]; exact Nat.mod_eq_of_lt hj
      simp [Function.comp, hm, hj]
    · rw [List.getElem?_eq_none (by simp; omega), List.getElem?_eq_none (by simp; omega)]
      rfl

section
variable {P : Program} {w0 w : World} {E0 E : Env} {H0 : AHeap} {st : ASt} {a : Act} {o : Oper} {K : ASt → Prop}

theorem sliceT_some {t e size bytes : Nat} (h : sliceT P t = some (e, size, bytes)) : P.underlying t = some (.slice e) ∧ ∃ i, P.info? e = some i ∧ i.size = size ∧ i.bytes = bytes := by
  unfold sliceT at h
  split at h
  · rename_i e' hu
    cases hi : P.info? e' with
    | none => simp [hi] at h
    | some i => simp [hi] at h; obtain ⟨rfl, rfl, rfl⟩ := h; exact ⟨hu, i, hi, rfl, rfl⟩
  · cases h

theorem rel_replicate {v : Value} (h1 : oneCells v = true) (len : Nat) : RelCs w E (List.replicate len (v.cells.toList.map AC.ofValue)).flatten (madeCells v.cells (len * v.cells.size)).toList := by
  rw [toList_madeCells]
  induction len with
  | zero => exact RelCs.nil
  | succ n ih =>
    rw [List.replicate_succ, List.replicate_succ, List.flatten_cons, List.flatten_cons]
    exact (rel_zero h1).append ih

theorem ok_make {t : TypeId} {l c : Operand} (ho : o.op = .makeSlice t l c) (h : makeA P st.heap st.clk t (st.eval l) (st.eval c) fun v H c => K (ASt.put ⟨st.tmps, H, c⟩ o.dst v)) : OpOk P o st K := by
  unfold makeA at h
  split at h
  · rename_i e size bytes kl n kc m hT hl hc
    split at h
    · rename_i z hz
      obtain ⟨⟨hzl, h0, hnm, hby, h63⟩, h⟩ := h
      obtain ⟨hu, i, hi, rfl, rfl⟩ := sliceT_some hT
      obtain ⟨v, hv, rfl, h1⟩ := run_zero hz
      refine opOk_value fun w0 E0 H0 a w E hE => ?_
      have el : a.eval l = .int kl n := by
        have := hE.eval l; rw [hl] at this; generalize a.eval l = q at this; cases this with | s _ => rfl
      have ec : a.eval c = .int kc m := by
        have := hE.eval c; rw [hc] at this; generalize a.eval c = q at this; cases this with | s _ => rfl
      have hsz : v.cells.size = i.size := by simpa using hzl
      have hz0 : i.zero = some v := by
        have := hv w
        unfold zeroT at hz
        simp only [hi] at hz
        cases hzz : i.zero with
        | none => simp [hzz] at hz
        | some u => simp [zeroValue, typeInfo, hi, hzz] at this; rw [this]
      have hr := rel_replicate (w := w) (E := E) h1 m.toNat
      obtain ⟨hE', hle⟩ := hE.alloc e i.size [] hr
      rw [List.append_nil, hsz] at hE'
      have hrun := run_make (P := P) w t e i v hu hi hz0 kl kc n m h0 hnm hby h63
      refine ⟨.slice (some ⟨w.heap.size, 0, none⟩) n.toNat m.toNat, _, _, _, _, ?_, hE', ?_, h⟩
      · simp only [execOp, ho, el, ec]
        simp [hrun]
      · refine rel_new_own hE e i.size _ _ _ _ (by omega) (by simp only [maxLen]; omega) ?_
        rw [Array.length_toList, size_madeCells]
        exact Nat.le_refl _
    · exact h.elim
  · exact h.elim

theorem ok_buildSlice {t : TypeId} {len : Nat} {ps : Array (Nat × Operand)} {e size bytes : Nat} {z cs : List AC} (ho : o.op = .buildSlice t len ps) (hT : sliceT P t = some (e, size, bytes))
    (hz : zeroT P e = some z) (hf : fillA (fun i => some (i * size, size)) (List.replicate len z).flatten (ps.toList.map fun (i, x) => (i, st.eval x)) = some cs)
    (hzl : z.length = size) (hlen : len * size ≤ 16777216)
    (h : K (ASt.put { st with heap := st.heap ++ [some ⟨st.clk, e, size, cs⟩], clk := st.clk + 1 } o.dst (.one (.own st.heap.length st.clk 0 len)))) (hpos : 0 < size) : OpOk P o st K := by
  obtain ⟨hu, i, hi, rfl, _⟩ := sliceT_some hT
  obtain ⟨v, hv, rfl, h1⟩ := run_zero hz
  have hsz : v.cells.size = i.size := by simpa using hzl
  refine opOk_value fun w0 E0 H0 a w E hE => ?_
  have hr := rel_replicate (w := w) (E := E) h1 len
  rw [hsz] at hr
  obtain ⟨us, hfu, hru⟩ := fill_rel hr (parts_rel hE ps.toList) hf
  obtain ⟨hE', hle⟩ := hE.alloc e i.size [] hru
  rw [List.append_nil] at hE'
  have hlu : us.length = len * i.size := by
    have : ∀ {ps : List (Nat × AV)} {cs out : List AC}, fillA (fun j => some (j * i.size, i.size)) cs ps = some out → out.length = cs.length := by
      intro ps
      induction ps with
      | nil => intro cs out hf; simp only [fillA, Option.some.injEq] at hf; rw [hf]
      | cons p ps ih =>
        intro cs out hf
        obtain ⟨j, x⟩ := p
        simp only [fillA] at hf
        split at hf
        · rename_i off size xs hp hx
          split at hf
          · rename_i hle; rw [ih hf, length_splice _ _ _ (by omega)]
          · cases hf
        · cases hf
    rw [← hru.1, this hf, hr.1, Array.length_toList, size_madeCells]
  refine ⟨_, _, _, _, _, ?_, hE', rel_new_own hE e i.size _ len len _ (Nat.le_refl _) ?_ ?_, h⟩
  · simp only [Array.toArray_toList] at hfu
    by_cases h0 : len * i.size = 0
    · have hl0 : len = 0 := by
        rcases Nat.mul_eq_zero.1 h0 with h | h <;> omega
      subst hl0
      simp [execOp, ho, Instr.buildSlice, run_underlying hu, sizeOf, typeInfo, hi, newRow, madeCells, Array.range_zero'] at hfu ⊢
      simp [hfu]
    · have hnot : ¬ (2 ^ 24 < len * i.size) := by omega
      simp only [madeCells] at hfu
      simp [execOp, ho, Instr.buildSlice, run_underlying hu, sizeOf, typeInfo, hi, newRow, hv, h0, hnot, hfu]
  · simp only [maxLen]
    have : len ≤ len * i.size := Nat.le_mul_of_pos_right _ hpos
    omega
  · rw [hlu]; exact Nat.le_refl _

theorem scal_int {x : Operand} {k : IntKind} {n : Int} (hE : InvE w0 E0 H0 st a w E) (h : st.eval x = .one (.d (.s (.int k n)))) : a.eval x = .int k n := by
  have := hE.eval x; rw [h] at this; generalize a.eval x = q at this; cases this with | s _ => rfl
theorem scal {x : Operand} {v : Value} (hE : InvE w0 E0 H0 st a w E) (h : st.eval x = .one (.d (.s v))) : a.eval x = v := by
  have := hE.eval x; rw [h] at this; generalize a.eval x = q at this; cases this with | s _ => rfl

theorem fieldT_some {s f off n : Nat} {b : Bool} (h : fieldT P s f = some (off, n, b)) : ∃ fs fd, P.underlying s = some (.struct fs) ∧ fs[f]? = some fd ∧ fd.offset = off ∧ szOf P fd.type = some n ∧ aggT P fd.type = some b := by
  unfold fieldT at h
  split at h
  · rename_i fs hu
    split at h
    · rename_i fd hf
      split at h
      · rename_i n' b' h1 h2
        simp at h
        obtain ⟨rfl, rfl, rfl⟩ := h
        exact ⟨fs, fd, hu, hf, rfl, h1, h2⟩
      · cases h
    · cases h
  · cases h

theorem ok_fieldAddr {s : TypeId} {x : Operand} {f : Nat} (ho : o.op = .fieldAddr s x f) (h : fieldAddrA P st.heap s (st.eval x) f fun v => K (st.put o.dst v)) : OpOk P o st K := by
  unfold fieldAddrA at h
  split at h
  · rename_i off n b hT
    obtain ⟨hn, h⟩ := h
    obtain ⟨fs, fd, hu, hf, rfl, hs, _⟩ := fieldT_some hT
    split at h
    · rename_i k g o' hx
      obtain ⟨hl, h⟩ := h
      obtain ⟨B, hB⟩ := Option.isSome_iff_exists.1 hl
      refine opOk_same (x := .one (.ptr k g (o' + fd.offset))) (fun w0 E0 H0 a w E hE => ?_) h
      have hr := hE.eval x
      rw [hx] at hr
      obtain ⟨i, bb, hk, hg, hi, hok, hb, hv⟩ := hE.at_ptr hB hr
      refine ⟨.pointer (some ⟨bb, o' + fd.offset, none⟩), ?_, rfl, hr.2.1, fun j hj hjg => ?_⟩
      · simp [execOp, ho, Instr.fieldAt, run_underlying hu, hf, hv, Instr.sureAddr, fieldPlace, run_sizeOf hs, hn, add_lit]
      · rw [hi] at hj; cases hj; exact ⟨bb, hb, rfl⟩
    · rename_i cs hx
      obtain ⟨hlt, h⟩ := h
      refine opOk_same (x := .one (.d (.rptr (cs.drop fd.offset)))) (fun w0 E0 H0 a w E hE => ?_) h
      have hr := hE.eval x
      rw [hx] at hr
      generalize hq : a.eval x = q at hr
      cases hr with
      | rptr fv hI hc hrr =>
        rename_i ad
        refine ⟨.pointer (some (ad.add fd.offset)), ?_, ?_⟩
        · simp [execOp, ho, Instr.fieldAt, run_underlying hu, hf, hq, Instr.sureAddr, fieldPlace, run_sizeOf hs, hn]
        · refine RelD.rptr (fun j => fv (fd.offset + j)) (by rw [add_block]; exact hI) (fun j hj => ?_) (fun j hj => ?_)
          · rw [add_add]; exact hc _ (by simp at hj; omega)
          · simp at hj
            rw [List.getElem_drop]; exact hrr (fd.offset + j) (by omega)
    · exact h.elim
  · exact h.elim

theorem ok_field {s : TypeId} {x : Operand} {f : Nat} (ho : o.op = .field s x f) (h : fieldA P s (st.eval x) f fun v => K (st.put o.dst v)) : OpOk P o st K := by
  unfold fieldA at h
  split at h
  · rename_i off n agg cs hT hx
    obtain ⟨fs, fd, hu, hf, rfl, hs, hg⟩ := fieldT_some hT
    split at h
    · rename_i y hy
      refine opOk_same (x := y) (fun w0 E0 H0 a w E hE => ?_) h
      have hr := hE.eval x
      rw [hx] at hr
      obtain ⟨l, hl, hrel⟩ := hr
      unfold valueOf at hy
      cases agg with
      | true =>
        simp only [if_true] at hy
        split at hy
        · rename_i hle
          cases hy
          refine ⟨.agg ((l.drop fd.offset).take n).toArray, ?_, ⟨_, rfl, (hrel.drop _).take _⟩⟩
          simp [execOp, ho, Instr.field, run_underlying hu, hf, hl, asAgg, part, run_isAgg hg, run_sizeOf hs, List.take_drop]
        · cases hy
      | false =>
        simp only [Bool.false_eq_true, if_false] at hy
        cases hd : cs.drop fd.offset with
        | nil => simp [hd] at hy
        | cons c ds =>
          simp [hd] at hy
          subst hy
          have hc : cs[fd.offset]? = some c := by
            have : (cs.drop fd.offset)[0]? = some c := by rw [hd]; rfl
            rw [List.getElem?_drop] at this; simpa using this
          obtain ⟨v, hv, _, hrc⟩ := hrel.at_ hc
          refine ⟨v, ?_, hrc⟩
          simp [execOp, ho, Instr.field, run_underlying hu, hf, hl, asAgg, part, run_isAgg hg, hv]
    · exact h.elim
  · exact h.elim

theorem arrT_some {t n e size : Nat} (h : arrT P t = some (n, e, size)) : P.underlying t = some (.array n e) ∧ szOf P e = some size := by
  unfold arrT at h
  split at h
  · rename_i n' e' hu
    rw [Option.map_eq_some_iff] at h
    obtain ⟨s, hs, h⟩ := h
    simp at h
    obtain ⟨rfl, rfl, rfl⟩ := h
    exact ⟨hu, hs⟩
  · exact absurd h (by simp)
theorem ok_index {t : TypeId} {x ix : Operand} (ho : o.op = .indexAddr t x ix) (h : indexA P st.heap t (st.eval x) (st.eval ix) fun v => K (st.put o.dst v)) : OpOk P o st K := by
  unfold indexA at h
  split at h
  · rename_i e size bytes kk n hT hix
    obtain ⟨hu, i, hi, rfl, _⟩ := sliceT_some hT
    split at h
    · rename_i k g off len hx
      obtain ⟨⟨hl, hsz, h0, hlt⟩, h⟩ := h
      obtain ⟨B, hB⟩ := Option.isSome_iff_exists.1 hl
      refine opOk_same (x := .one (.ptr k g (off + n.toNat * i.size))) (fun w0 E0 H0 a w E hE => ?_) h
      have hr := hE.eval x
      rw [hx] at hr
      obtain ⟨j, ad, cap, hk, hg, hj, hok, hv, h1, h2, h3, h4⟩ := hE.at_own hB hr
      have hjs : j.size = i.size := by rw [hB] at hsz; simp at hsz; rw [hok.2.2.1, hsz]
      cases hb : j.blk with
      | none => rw [hb] at h4; obtain ⟨_, hc⟩ := h4; omega
      | some b =>
        rw [hb] at h4
        have had := h4 (by omega)
        refine ⟨.pointer (some ⟨b, off + n.toNat * i.size, none⟩), ?_, rfl, hr.2.1, fun q hq _ => ?_⟩
        · simp [execOp, ho, Instr.indexAt, scal_int hE hix, asIntOf, run_underlying hu, hv, had, h0, hlt, sizeOf, typeInfo, hi, add_lit]
        · rw [hj] at hq; cases hq; exact ⟨b, hb, rfl⟩
    · rename_i len cs hx
      obtain ⟨⟨hcl, h0, hlt⟩, h⟩ := h
      refine opOk_same (x := .one (.d (.rptr (cs.drop (n.toNat * i.size))))) (fun w0 E0 H0 a w E hE => ?_) h
      have hr := hE.eval x
      rw [hx] at hr
      generalize hq : a.eval x = q at hr
      cases hr with
      | list fv ha hrr hn hm =>
        obtain ⟨ad, rfl, hI, hc⟩ := ha (by intro e; subst e; simp at hcl)
        refine ⟨.pointer (some (ad.add (n.toNat * i.size))), ?_, ?_⟩
        · simp [execOp, ho, Instr.indexAt, scal_int hE hix, asIntOf, run_underlying hu, hq, h0, hlt, sizeOf, typeInfo, hi]
        · refine RelD.rptr (fun j => fv (n.toNat * i.size + j)) (by rw [add_block]; exact hI) (fun j hj => ?_) (fun j hj => ?_)
          · rw [add_add]; exact hc _ (by simp at hj; omega)
          · simp at hj
            rw [List.getElem_drop]; exact hrr (n.toNat * i.size + j) (by omega)
    · exact h.elim
  · rename_i kk n hT hix
    split at h
    · rename_i len e size hA
      obtain ⟨hu, hn⟩ := arrT_some hA
      split at h
      · rename_i k g off hx
        obtain ⟨⟨hl, h0, hlt⟩, h⟩ := h
        obtain ⟨B, hB⟩ := Option.isSome_iff_exists.1 hl
        refine opOk_same (x := .one (.ptr k g (off + n.toNat * size))) (fun w0 E0 H0 a w E hE => ?_) h
        have hr := hE.eval x
        rw [hx] at hr
        obtain ⟨j, b, hk, hg, hj, hok, hb, hv⟩ := hE.at_ptr hB hr
        refine ⟨.pointer (some ⟨b, off + n.toNat * size, none⟩), ?_, rfl, hr.2.1, fun q hq _ => ?_⟩
        · simp [execOp, ho, Instr.indexAt, scal_int hE hix, asIntOf, run_underlying hu, hv, h0, hlt, run_sizeOf hn, add_lit, Instr.sureAddr]
        · rw [hj] at hq; cases hq; exact ⟨b, hb, rfl⟩
      · rename_i cs hx
        obtain ⟨⟨hcl, h0, hlt⟩, h⟩ := h
        refine opOk_same (x := .one (.d (.rptr (cs.drop (n.toNat * size))))) (fun w0 E0 H0 a w E hE => ?_) h
        have hr := hE.eval x
        rw [hx] at hr
        generalize hq : a.eval x = q at hr
        cases hr with
        | rptr fv hI hc hrr =>
          rename_i ad
          refine ⟨.pointer (some (ad.add (n.toNat * size))), ?_, ?_⟩
          · simp [execOp, ho, Instr.indexAt, scal_int hE hix, asIntOf, run_underlying hu, hq, h0, hlt, run_sizeOf hn, Instr.sureAddr]
          · refine RelD.rptr (fun j => fv (n.toNat * size + j)) (by rw [add_block]; exact hI) (fun j hj => ?_) (fun j hj => ?_)
            · rw [add_add]; exact hc _ (by simp at hj; omega)
            · simp at hj
              rw [List.getElem_drop]; exact hrr (n.toNat * size + j) (by omega)
      · exact h.elim
    · exact h.elim
  · exact h.elim

theorem ok_strindex {t : TypeId} {x ix : Operand} {s : ByteArray} {kk : IntKind} {n : Int} (ho : o.op = .index t x ix) (hx : st.eval x = .one (.d (.s (.string s)))) (hix : st.eval ix = .one (.d (.s (.int kk n))))
    (hu : P.underlying t = some .string) (h0 : 0 ≤ n) (hlt : n < (s.size : Int)) (h : K (st.put o.dst (iv .u8 ((s.data.toList.getD n.toNat 0).toNat : Int)))) : OpOk P o st K := by
  refine opOk_same (x := iv .u8 ((s.data.toList.getD n.toNat 0).toNat : Int)) (fun w0 E0 H0 a w E hE => ⟨.int .u8 ((s.data.toList.getD n.toNat 0).toNat : Int), ?_, RelD.s rfl⟩) h
  have hn : n.toNat < s.size := by omega
  have hg : s[n.toNat]? = some (s.data.toList.getD n.toNat 0) := by
    have h1 : s[n.toNat]? = some (s[n.toNat]'hn) := by simp [hn]
    rw [h1]
    have h2 : n.toNat < s.data.toList.length := by simpa using hn
    rw [List.getD_eq_getElem?_getD, List.getElem?_eq_getElem h2]
    simp
    rfl
  simp [execOp, ho, Instr.index, scal_int hE hix, scal hE hx, asIntOf, run_underlying hu, h0, hg]

theorem ok_indexV {t : TypeId} {x ix : Operand} (ho : o.op = .index t x ix) (h : indexVA P t (st.eval x) (st.eval ix) fun v => K (st.put o.dst v)) : OpOk P o st K := by
  unfold indexVA at h
  split at h
  · rename_i s k n hx hix
    obtain ⟨⟨hu, h0, h1⟩, h⟩ := h
    exact ok_strindex ho hx hix hu h0 h1 h
  · rename_i cs k n hx hix
    split at h
    · rename_i len e size hA
      obtain ⟨hu, hn⟩ := arrT_some hA
      split at h
      · rename_i agg ha
        obtain ⟨⟨h0, hlt, hcl, h1⟩, h⟩ := h
        split at h
        · rename_i y hy
          refine opOk_same (x := y) (fun w0 E0 H0 a w E hE => ?_) h
          have hr := hE.eval x
          rw [hx] at hr
          obtain ⟨l, hl, hrl⟩ := hr
          have hll := hrl.1
          have hsz : n.toNat * size + size ≤ l.length := by rw [Nat.add_mul, Nat.one_mul] at hcl; omega
          cases agg with
          | true =>
            have hs2 : size ≤ (cs.drop (n.toNat * size)).length := by simp; omega
            simp [valueOf, hs2] at hy
            have hs3 : size ≤ cs.length - n.toNat * size := by omega
            simp [hs3] at hy
            refine ⟨.agg (l.toArray.extract (n.toNat * size) (n.toNat * size + size)), ?_, ?_⟩
            · simp [execOp, ho, Instr.index, scal_int hE hix, asIntOf, run_underlying hu, hl, h0, hlt, run_sizeOf hn, part, run_isAgg ha]
            · subst hy
              refine ⟨(l.drop (n.toNat * size)).take size, by simp, (hrl.drop _).take _⟩
          | false =>
            have := h1 rfl
            subst this
            simp at hsz
            have hlt2 : n.toNat < cs.length := by omega
            have hlt3 : n.toNat < l.length := by omega
            simp [valueOf] at hy
            obtain ⟨c, hc, rfl⟩ := hy
            refine ⟨l[n.toNat], ?_, ?_⟩
            · simp [execOp, ho, Instr.index, scal_int hE hix, asIntOf, run_underlying hu, hl, h0, hlt, run_sizeOf hn, part, run_isAgg ha, hlt3]
            · exact (hrl.2 n.toNat c _ (by simpa using hc) (List.getElem?_eq_getElem hlt3)).2
        · exact h.elim
      · exact h.elim
    · exact h.elim
  · exact h.elim

theorem ok_nil {x : Operand} (ho : o.op = .nilCheck x) (h : nilA st.heap (st.eval x) fun v => K (st.put o.dst v)) : OpOk P o st K := by
  unfold nilA at h
  split at h
  · rename_i k g off hx
    obtain ⟨hs, h⟩ := h
    refine opOk_same (x := .one (.ptr k g off)) (fun w0 E0 H0 a w E hE => ?_) h
    have hr := hE.eval x
    rw [hx] at hr
    obtain ⟨B, hB⟩ := Option.isSome_iff_exists.1 hs
    obtain ⟨hk, hg⟩ := blkAt_some hB
    obtain ⟨i, hi, hok⟩ := hE.sim.blk k B hk
    obtain ⟨b, hb, hv⟩ := hr.2.2 i hi (hok.1.trans hg)
    exact ⟨a.eval x, by simp [execOp, ho, hv], hr⟩
  · rename_i cs hx
    refine opOk_same (x := .one (.d (.rptr cs))) (fun w0 E0 H0 a w E hE => ?_) h
    have hr := hE.eval x
    rw [hx] at hr
    have hp : ∃ ad, a.eval x = .pointer (some ad) := by
      generalize a.eval x = v at hr
      cases hr with
      | rptr f h1 h2 h3 => exact ⟨_, rfl⟩
    obtain ⟨ad, had⟩ := hp
    exact ⟨a.eval x, by simp [execOp, ho, had], hr⟩
  · exact h.elim

theorem ok_extract {x : Operand} {i : Nat} {vs : List AV} {y : AV} (ho : o.op = .extract x i) (hx : st.eval x = .tup vs) (hy : vs[i]? = some y) (hK : K (st.put o.dst y)) : OpOk P o st K := by
  refine opOk_same (x := y) (fun w0 E0 H0 a w E hE => ?_) hK
  have hr := hE.eval x
  rw [hx] at hr
  obtain ⟨l, hl, hlen, hrel⟩ := hr
  have hi : i < l.length := by rw [← hlen]; exact (List.getElem?_eq_some_iff.1 hy).1
  have h1 := hrel i y _ hy (List.getElem?_eq_getElem hi)
  refine ⟨l[i], by simp [execOp, ho, Instr.extract, hl, hi], ?_⟩
  cases y with
  | one c => exact h1
  | agg cs => exact h1
  | tup vs => exact h1.elim

theorem mapT_some {t k e : TypeId} (h : mapT P t = some (k, e)) : P.underlying t = some (.map k e) := by
  unfold mapT at h
  split at h
  · cases h; assumption
  · cases h
theorem ok_len {x : Operand} {t : TypeId} (ho : o.op = .call { callee := .builtin .len, args := #[x], argTypes := #[t] }) (h : lenA P st.heap t (st.eval x) fun v => K (st.put o.dst v)) : OpOk P o st K := by
  unfold lenA at h
  split at h
  · rename_i s hx
    obtain ⟨hu, h⟩ := h
    refine opOk_same (x := iv .i64 s.size) (fun w0 E0 H0 a w E hE => ⟨.int .i64 s.size, ?_, RelD.s rfl⟩) h
    simp [execOp, ho, resolve, invoke, builtin, Builtin.len_, scal hE hx, run_underlying hu, goInt]
  · rename_i hx
    obtain ⟨hT, h⟩ := h
    obtain ⟨⟨e, size, bytes⟩, hT⟩ := Option.isSome_iff_exists.1 hT
    obtain ⟨hu, _⟩ := sliceT_some hT
    refine opOk_same (x := iv .i64 0) (fun w0 E0 H0 a w E hE => ⟨.int .i64 0, ?_, RelD.s rfl⟩) h
    have hr := hE.eval x
    rw [hx] at hr
    generalize hq : a.eval x = q at hr
    cases hr with
    | nil => simp [execOp, ho, resolve, invoke, builtin, Builtin.len_, hq, run_underlying hu, goInt]
  · rename_i n cs hx
    obtain ⟨hT, h⟩ := h
    obtain ⟨⟨e, size, bytes⟩, hT⟩ := Option.isSome_iff_exists.1 hT
    obtain ⟨hu, _⟩ := sliceT_some hT
    refine opOk_same (x := iv .i64 n) (fun w0 E0 H0 a w E hE => ⟨.int .i64 n, ?_, RelD.s rfl⟩) h
    have hr := hE.eval x
    rw [hx] at hr
    generalize hq : a.eval x = q at hr
    cases hr with
    | list fv ha hrr hn hm => simp [execOp, ho, resolve, invoke, builtin, Builtin.len_, hq, run_underlying hu, goInt]
  · rename_i k g off n hx
    obtain ⟨⟨hT, hl⟩, h⟩ := h
    obtain ⟨⟨e, size, bytes⟩, hT⟩ := Option.isSome_iff_exists.1 hT
    obtain ⟨B, hB⟩ := Option.isSome_iff_exists.1 hl
    obtain ⟨hu, _⟩ := sliceT_some hT
    refine opOk_same (x := iv .i64 n) (fun w0 E0 H0 a w E hE => ⟨.int .i64 n, ?_, RelD.s rfl⟩) h
    have hr := hE.eval x
    rw [hx] at hr
    obtain ⟨j, ad, cap, hk, hg, hj, hok, hv, _⟩ := hE.at_own hB hr
    simp [execOp, ho, resolve, invoke, builtin, Builtin.len_, hv, run_underlying hu, goInt]
  · rename_i es c hx
    obtain ⟨hT, h⟩ := h
    obtain ⟨⟨kt, et⟩, hT⟩ := Option.isSome_iff_exists.1 hT
    refine opOk_same (x := iv .i64 es.length) (fun w0 E0 H0 a w E hE => ⟨.int .i64 es.length, ?_, RelD.s rfl⟩) h
    have hr := hE.eval x
    rw [hx] at hr
    generalize hq : a.eval x = q at hr
    cases hr with
    | map hI hm => simp [execOp, ho, resolve, invoke, builtin, Builtin.len_, hq, run_underlying (mapT_some hT), MapKept.run_getObj_map hm, goInt]
  · rename_i k g hx
    split at h
    · rename_i es c hB
      obtain ⟨hT, h⟩ := h
      obtain ⟨⟨kt, et⟩, hT⟩ := Option.isSome_iff_exists.1 hT
      refine opOk_same (x := iv .i64 es.length) (fun w0 E0 H0 a w E hE => ⟨.int .i64 es.length, ?_, RelD.s rfl⟩) h
      have hr := hE.eval x
      rw [hx] at hr
      obtain ⟨B, i, b, _, _, _, _, _, _, _, _, _, _, hv, hm⟩ := hE.at_map hB hr
      simp [execOp, ho, resolve, invoke, builtin, Builtin.len_, hv, run_underlying (mapT_some hT), MapKept.run_getObj_map hm, goInt]
    · exact h.elim
  · exact h.elim
end
end Go.Abs
