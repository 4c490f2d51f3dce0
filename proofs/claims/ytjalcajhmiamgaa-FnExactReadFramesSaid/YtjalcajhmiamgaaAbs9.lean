/-
  The abstract steps are sound: slice expressions, arithmetic, conversions. No program's text.
-/
import Derived.Test.YtjalcajhmiamgaaAbs8
namespace Go.Abs
set_option linter.unusedSimpArgs false
set_option linter.unusedVariables false
set_option linter.unnecessarySimpa false
open Go

section
variable {P : Program} {w0 w : World} {E0 E : Env} {H0 : AHeap} {st : ASt} {a : Act} {o : Oper} {K : ASt → Prop}

theorem run_bound {x : Value} {k : IntKind} {i : Int} {y : Nat} {code : BoundsCode} (hx : x = .int k i) (h0 : 0 ≤ i) (h1 : i ≤ (y : Int)) : (Instr.sliceBound x y code).run P w = .ok i.toNat w := by
  subst hx
  simp [Instr.sliceBound, asIntOf, h0, h1]

theorem bound_val {lo : Option Operand} {d l : Int} (hE : InvE w0 E0 H0 st a w E) (h : boundOf st.eval lo d = some l) : (lo.map a.eval = none ∧ l = d) ∨ (∃ k, lo.map a.eval = some (.int k l)) := by
  unfold boundOf at h
  cases lo with
  | none => simp at h; exact .inl ⟨rfl, h.symm⟩
  | some x =>
    simp only at h
    split at h
    · rename_i k n hx
      cases h
      exact .inr ⟨k, by simp [scal_int hE hx]⟩
    · cases h

theorem run_bounds {b : Bool} {lo hi : Option Operand} {l h : Int} {len cap n : Nat} (hE : InvE w0 E0 H0 st a w E) (hl : boundOf st.eval lo 0 = some l) (hh : boundOf st.eval hi n = some h)
    (hn : n = len) (h0 : 0 ≤ l) (h1 : l ≤ h) (h2 : h ≤ (n : Int)) (hc : len ≤ cap) : (Instr.sliceBounds b len cap (lo.map a.eval) (hi.map a.eval) none).run P w = .ok (l.toNat, h.toNat, cap) w := by
  subst hn
  have hH : (match (hi.map a.eval : Option Value) with
      | some v => Instr.sliceBound v cap (if b then .sliceAcap else .sliceAlen)
      | none => pure n).run P w = .ok h.toNat w := by
    rcases bound_val hE hh with ⟨e, rfl⟩ | ⟨k, e⟩ <;> rw [e]
    · simp
    · exact run_bound rfl (by omega) (by omega)
  have hL : (match (lo.map a.eval : Option Value) with
      | some v => Instr.sliceBound v h.toNat .sliceB
      | none => pure 0).run P w = .ok l.toNat w := by
    rcases bound_val hE hl with ⟨e, rfl⟩ | ⟨k, e⟩ <;> rw [e]
    · simp
    · exact run_bound rfl h0 (by omega)
  rcases bound_val hE hh with ⟨e, e2⟩ | ⟨k, e⟩ <;> rcases bound_val hE hl with ⟨e', e2'⟩ | ⟨k', e'⟩ <;> simp only [e, e'] at hH hL ⊢ <;> simp [Instr.sliceBounds] <;>
    first
    | (simp at hH hL; simp [hH, hL]; done)
    | (simp [hH]; first | (simp [hL]; done) | simp_all)
    | simp_all

theorem ok_slice {t : TypeId} {x : Operand} {lo hi : Option Operand} (ho : o.op = .slice t x lo hi none) (h : sliceA P st.heap st.eval t (st.eval x) lo hi fun v => K (st.put o.dst v)) : OpOk P o st K := by
  unfold sliceA at h
  split at h
  · rename_i s hx
    split at h
    · rename_i l hh hl hhh
      obtain ⟨hu, ⟨h0, h1, h2⟩, h⟩ := h
      refine opOk_same (x := sv (.string (s.extract l.toNat hh.toNat))) (fun w0 E0 H0 a w E hE => ⟨_, ?_, RelD.s rfl⟩) h
      have hb := run_bounds (P := P) (b := false) (cap := s.size) hE hl hhh rfl h0 h1 h2 (Nat.le_refl _)
      simp [execOp, ho, Instr.sliceAt, Instr.slice, run_underlying hu, scal hE hx, hb]
    · exact h.elim
  · rename_i n cs hx
    split at h
    · rename_i l hh e size bytes hl hhh hT
      obtain ⟨⟨h0, h1, h2⟩, h⟩ := h
      obtain ⟨hu, i, hi', rfl, _⟩ := sliceT_some hT
      refine opOk_same (x := .one (.d (.list (hh.toNat - l.toNat) ((cs.drop (l.toNat * i.size)).take ((hh.toNat - l.toNat) * i.size))))) (fun w0 E0 H0 a w E hE => ?_) h
      have hr := hE.eval x
      rw [hx] at hr
      generalize hq : a.eval x = q at hr
      cases hr with
      | list fv ha hrr hn hm =>
        rename_i ad cap
        have hb := run_bounds (P := P) (b := true) hE hl hhh rfl h0 h1 h2 hn
        refine ⟨.slice (if cap = l.toNat then ad else ad.map (·.add (l.toNat * i.size))) (hh.toNat - l.toNat) (cap - l.toNat), ?_, ?_⟩
        · simp [execOp, ho, Instr.sliceAt, Instr.slice, run_underlying hu, hq, hb, sizeOf, typeInfo, hi']
        · refine RelD.list (fun j => fv (l.toNat * i.size + j)) (fun hne => ?_) (fun j hj => ?_) (by omega) (by omega)
          · have hcs : cs ≠ [] := by intro e; subst e; simp at hne
            obtain ⟨ad', rfl, hI, hc⟩ := ha hcs
            have hne2 : hh.toNat - l.toNat ≠ 0 := by intro e; rw [e] at hne; simp at hne
            rw [if_neg (by omega)]
            refine ⟨_, rfl, by rw [add_block]; exact hI, fun j hj => ?_⟩
            rw [add_add]
            exact hc _ (by simp at hj; omega)
          · simp at hj
            rw [List.getElem_take, List.getElem_drop]; exact hrr _ (by omega)
    · exact h.elim
  · rename_i k g off n hx
    split at h
    · rename_i l hh e size bytes B hl hhh hT hB
      obtain ⟨⟨hs, h0, h1, h2⟩, h⟩ := h
      obtain ⟨hu, i, hi', rfl, _⟩ := sliceT_some hT
      refine opOk_same (x := .one (.own k g (off + l.toNat * i.size) (hh.toNat - l.toNat))) (fun w0 E0 H0 a w E hE => ?_) h
      have hr := hE.eval x
      rw [hx] at hr
      obtain ⟨j, ad, cap, hk, hg, hj, hok, hv, g1, g2, g3, g4⟩ := hE.at_own hB hr
      have hjs : j.size = i.size := by rw [hok.2.2.1, hs]
      have hb := run_bounds (P := P) (b := true) hE hl hhh rfl h0 h1 h2 g1
      refine ⟨.slice (if cap = l.toNat then ad else ad.map (·.add (l.toNat * i.size))) (hh.toNat - l.toNat) (cap - l.toNat), ?_, rfl, hr.2.1, fun q hq _ => ?_⟩
      · simp [execOp, ho, Instr.sliceAt, Instr.slice, run_underlying hu, hv, hb, sizeOf, typeInfo, hi']
      · rw [hj] at hq; cases hq
        refine ⟨_, _, rfl, by omega, by omega, ?_, ?_⟩
        · rw [hjs]; rw [hjs] at g3
          have : l.toNat * i.size + (cap - l.toNat) * i.size = cap * i.size := by rw [← Nat.add_mul]; congr 1; omega
          omega
        · cases hbk : j.blk with
          | none =>
            rw [hbk] at g4
            obtain ⟨rfl, rfl⟩ := g4
            exact ⟨by split <;> rfl, by omega⟩
          | some b =>
            rw [hbk] at g4
            intro hpos
            rw [g4 (by omega), if_neg (by omega)]
            simp [add_lit]
    · exact h.elim
  · rename_i hx
    split at h
    · rename_i l hh T hl hhh hT
      obtain ⟨⟨rfl, rfl⟩, h⟩ := h
      obtain ⟨e, size, bytes⟩ := T
      obtain ⟨hu, i, hi', rfl, _⟩ := sliceT_some hT
      refine opOk_same (x := .one (.d .nil)) (fun w0 E0 H0 a w E hE => ?_) h
      have hr := hE.eval x
      rw [hx] at hr
      generalize hq : a.eval x = q at hr
      cases hr with
      | nil =>
        have hb := run_bounds (P := P) (b := true) (n := 0) (len := 0) (cap := 0) hE hl hhh rfl (Int.le_refl _) (Int.le_refl _) (by omega) (Nat.le_refl _)
        refine ⟨.slice none 0 0, ?_, RelD.nil⟩
        simp [execOp, ho, Instr.sliceAt, Instr.slice, run_underlying hu, hq, sizeOf, typeInfo, hi'] at hb ⊢
        simp [hb]
    · exact h.elim
  · rename_i k g off hx
    split at h
    · rename_i n e size B hA hB
      obtain ⟨hu, hn⟩ := arrT_some hA
      split at h
      · rename_i l hh hl hhh
        obtain ⟨⟨hs, h0, h1, h2, h5, h6⟩, h⟩ := h
        refine opOk_same (x := .one (.own k g (off + l.toNat * size) (hh.toNat - l.toNat))) (fun w0 E0 H0 a w E hE => ?_) h
        have hr := hE.eval x
        rw [hx] at hr
        obtain ⟨j, b, hk, hg, hj, hok, hb, hv⟩ := hE.at_ptr hB hr
        have hjs : j.size = size := by rw [hok.2.2.1, hs]
        have hbd := run_bounds (P := P) (b := false) (n := n) (len := n) (cap := n) hE hl hhh rfl h0 h1 h2 (Nat.le_refl _)
        have hroom : B.cells.length ≤ j.room := by
          obtain ⟨_, _, _, _, h5, _⟩ := hok.cells (blkAt_size hB) hb
          exact h5
        refine ⟨.slice (some (if n = l.toNat then ⟨b, off, none⟩ else (⟨b, off, none⟩ : Addr).add (l.toNat * size))) (hh.toNat - l.toNat) (n - l.toNat), ?_, rfl, hr.2.1, fun q hq _ => ?_⟩
        · simp [execOp, ho, Instr.sliceAt, run_underlying hu, hv, hbd, run_sizeOf hn, Instr.sureAddr]
        · rw [hj] at hq; cases hq
          refine ⟨_, _, rfl, by omega, by simp [maxLen]; omega, ?_, ?_⟩
          · rw [hjs]
            have : l.toNat * size + (n - l.toNat) * size = n * size := by rw [← Nat.add_mul]; congr 1; omega
            omega
          · rw [hb]
            intro hpos
            rw [if_neg (by omega)]
            simp [add_lit]
      · exact h.elim
    · exact h.elim
  · exact h.elim

theorem run_eqGuard_int (op : BinOp) (t : TypeId) (x y : Operand) (k k' : IntKind) (m n : Int) : (eqGuard op t x y (.int k m) (.int k' n)).run P w = .ok () w := by
  cases op <;> simp [eqGuard]
theorem run_eqGuard_str (op : BinOp) (t : TypeId) (x y : Operand) (m n : ByteArray) : (eqGuard op t x y (.string m) (.string n)).run P w = .ok () w := by
  cases op <;> simp [eqGuard]
theorem run_eqGuard_bool (op : BinOp) (t : TypeId) (x y : Operand) (m n : Bool) : (eqGuard op t x y (.bool m) (.bool n)).run P w = .ok () w := by
  cases op <;> simp [eqGuard]

theorem run_equal_bool {t : TypeId} (hu : P.underlying t = some .bool) (m n : Bool) : (Op.equal t (.bool m) (.bool n)).run P w = .ok (m == n) w := by
  have h : ∀ d, (Op.equalIn (d + 1) t (.bool m) (.bool n)).run P w = .ok (m == n) w := fun d => by simp [Op.equalIn, run_underlying hu]
  exact h 9999
theorem run_eql_bool' {t : TypeId} (hu : P.underlying t = some .bool) (m n : Bool) : (binOp .eql t (.bool m) (.bool n)).run P w = .ok (.bool (m == n)) w := by
  simp only [binOp, Sem.run_bind, run_equal_bool hu, Result.andThen_ok, Sem.run_pure]
theorem run_neq_bool' {t : TypeId} (hu : P.underlying t = some .bool) (m n : Bool) : (binOp .neq t (.bool m) (.bool n)).run P w = .ok (.bool (!(m == n))) w := by
  simp only [binOp, Sem.run_bind, run_equal_bool hu, Result.andThen_ok, Sem.run_pure]

theorem opOk_sv {v : Value} (hK : K (st.put o.dst (sv v))) (hs : Scalar v = true) (h : ∀ w0 E0 H0 a w E, InvE w0 E0 H0 st a w E → (execOp a.eval o).run P w = .ok (.value v) w) : OpOk P o st K :=
  opOk_same (x := sv v) (fun w0 E0 H0 a w E hE => ⟨v, h w0 E0 H0 a w E hE, RelD.s hs⟩) hK

theorem agg_eval {x : Operand} {a' : List Value} (hE : InvE w0 E0 H0 st a w E) (h : st.eval x = .agg (scells a')) : a.eval x = .agg a'.toArray := by
  have hr := hE.eval x
  rw [h] at hr
  obtain ⟨l, hl, hlen, hrel⟩ := hr
  rw [hl]
  have : l = a' := by
    apply List.ext_getElem
    · simpa [scells] using hlen.symm
    · intro j h1 h2
      obtain ⟨_, g⟩ := hrel j (.d (.s a'[j])) l[j] (by simp [scells, h2]) (by simp [h1])
      have key : ∀ x y, RelD w E.I (.s x) y → y = x := fun x y g => by cases g with | s hs => rfl
      exact key _ _ g
  rw [this]

theorem ok_bin {op : BinOp} {t ty : TypeId} {x y : Operand} (ho : o.op = .binOp op t x y ty) (h : binA P op t (st.eval x) (st.eval y) fun v => K (st.put o.dst v)) : OpOk P o st K := by
  unfold binA at h
  split at h
  · rename_i k m k' n hx hy
    split at h
    · rename_i hs
      cases op <;> simp [isShift] at hs <;> simp only [shiftBin] at h <;> obtain ⟨h0, h⟩ := h <;>
        refine opOk_sv h rfl (fun w0 E0 H0 a w E hE => ?_) <;>
        simp [execOp, ho, scal_int hE hx, scal_int hE hy, run_eqGuard_int, binOp, Op.shift, Int.not_lt.2 h0]
    · rename_i hs
      obtain ⟨rfl, h⟩ := h
      cases op <;> simp [isShift] at hs <;> simp only [intBin] at h <;>
        first
        | exact h.elim
        | (obtain ⟨h0, h⟩ := h
           refine opOk_sv h rfl (fun w0 E0 H0 a w E hE => ?_)
           simp [execOp, ho, scal_int hE hx, scal_int hE hy, run_eqGuard_int, binOp, Op.intDiv, h0]
           done)
        | (refine opOk_sv h rfl (fun w0 E0 H0 a w E hE => ?_)
           simp [execOp, ho, scal_int hE hx, scal_int hE hy, run_eqGuard_int, binOp, Op.intArith, Op.intBits, Op.intCmp]
           done)
  · rename_i m n hx hy
    cases op <;> simp only [strBin] at h <;>
      first
      | exact h.elim
      | (obtain ⟨h0, h⟩ := h
         refine opOk_sv h rfl (fun w0 E0 H0 a w E hE => ?_)
         have h1 : ¬ (9223372036854775807 < ((m.size : Int) + (n.size : Int))) := by simp only [maxLen] at h0; omega
         simp [execOp, ho, scal hE hx, scal hE hy, run_eqGuard_str, binOp, Op.stringOp, IntKind.max, h1, IntKind.bits, IntKind.signed]
         done)
      | (refine opOk_sv h rfl (fun w0 E0 H0 a w E hE => ?_)
         simp [execOp, ho, scal hE hx, scal hE hy, run_eqGuard_str, binOp, Op.stringOp]
         done)
  · rename_i m n hx hy
    unfold boolBin at h
    split at h
    · obtain ⟨hu, h⟩ := h
      refine opOk_sv h rfl (fun w0 E0 H0 a w E hE => ?_)
      simp only [execOp, ho, scal hE hx, scal hE hy, Sem.run_bind, run_eqGuard_bool, Result.andThen_ok, run_eql_bool' hu, Sem.run_pure]
    · obtain ⟨hu, h⟩ := h
      refine opOk_sv h rfl (fun w0 E0 H0 a w E hE => ?_)
      simp only [execOp, ho, scal hE hx, scal hE hy, Sem.run_bind, run_eqGuard_bool, Result.andThen_ok, run_neq_bool' hu, Sem.run_pure]
    · exact h.elim
  · rename_i xs ys hx hy
    obtain ⟨p, q, r, rfl, rfl, heq, h | h⟩ := h
    · obtain ⟨rfl, h⟩ := h
      refine opOk_sv h rfl (fun w0 E0 H0 a w E hE => ?_)
      obtain ⟨h1, h2⟩ := heq w
      simp [execOp, ho, agg_eval hE hx, agg_eval hE hy, h1, binOp, h2]
    · obtain ⟨rfl, h⟩ := h
      refine opOk_sv h rfl (fun w0 E0 H0 a w E hE => ?_)
      obtain ⟨h1, h2⟩ := heq w
      simp [execOp, ho, agg_eval hE hx, agg_eval hE hy, h1, binOp, h2]
  · exact h.elim

theorem isNilC_some {y : Operand} (h : isNilC y = true) : y = .const (.slice none 0 0) := by
  unfold isNilC at h
  split at h
  · rfl
  · exact absurd h (by simp)
theorem ok_nilCmp {op : BinOp} {t ty : TypeId} {x y : Operand} (ho : o.op = .binOp op t x y ty) (hy : isNilC y = true) (h : nilCmpA P st.heap op t (st.eval x) fun v => K (st.put o.dst v)) : OpOk P o st K := by
  obtain rfl := isNilC_some hy
  obtain ⟨hT, hop, h⟩ := h
  obtain ⟨⟨e, size, bytes⟩, hT⟩ := Option.isSome_iff_exists.1 hT
  obtain ⟨hu, _⟩ := sliceT_some hT
  -- what Go tells of a slice
  have run : ∀ (a : Act) (w : World) (A : Option Addr) (n c : Nat) (hx : a.eval x = .slice A n c), (execOp a.eval o).run P w = .ok (.value (.bool (if op = .eql then A.isNone else !A.isNone))) w := by
    intro a w A n c hx
    have hyv : a.eval (.const (.slice none 0 0)) = .slice none 0 0 := rfl
    have he : (Op.equal t (.slice A n c) (.slice none 0 0)).run P w = .ok A.isNone w := by
      unfold Op.equal Op.maxDepth
      rw [show (10000 : Nat) = 9999 + 1 from rfl, Op.equalIn]
      cases A <;> simp [run_underlying hu]
    rcases hop with rfl | rfl
    · simp [execOp, ho, hx, hyv, eqGuard, binOp, he]
    · simp [execOp, ho, hx, hyv, eqGuard, binOp, he]
  have known : ∀ (b : Bool), K (st.put o.dst (bv b)) → (∀ w0 E0 H0 a w E, InvE w0 E0 H0 st a w E → ∃ A n c, a.eval x = .slice A n c ∧ (if op = .eql then A.isNone else !A.isNone) = b) → OpOk P o st K := fun b hK hv =>
    opOk_sv (v := .bool b) hK rfl fun w0 E0 H0 a w E hE => by
      obtain ⟨A, n, c, hx, hb⟩ := hv w0 E0 H0 a w E hE
      rw [run a w A n c hx, hb]
  have open_ : (∀ b, K (st.put o.dst (bv b))) → (∀ w0 E0 H0 a w E, InvE w0 E0 H0 st a w E → ∃ A n c, a.eval x = .slice A n c) → OpOk P o st K := fun hK hv =>
    opOk_value fun w0 E0 H0 a w E hE => by
      obtain ⟨A, n, c, hx⟩ := hv w0 E0 H0 a w E hE
      exact ⟨_, w, bv (if op = .eql then A.isNone else !A.isNone), st, E, run a w A n c hx, hE, RelD.s rfl, hK _⟩
  split at h
  · rename_i hx
    refine known _ h fun w0 E0 H0 a w E hE => ?_
    have hr := hE.eval x
    rw [hx] at hr
    generalize hq : a.eval x = q at hr
    cases hr with
    | nil => exact ⟨none, 0, 0, rfl, by rcases hop with rfl | rfl <;> rfl⟩
  · rename_i n hx
    refine open_ h fun w0 E0 H0 a w E hE => ?_
    have hr := hE.eval x
    rw [hx] at hr
    generalize hq : a.eval x = q at hr
    cases hr with
    | list f ha hrr hn hm => exact ⟨_, _, _, rfl⟩
  · rename_i n c cs hx
    refine known _ h fun w0 E0 H0 a w E hE => ?_
    have hr := hE.eval x
    rw [hx] at hr
    generalize hq : a.eval x = q at hr
    cases hr with
    | list f ha hrr hn hm =>
      obtain ⟨ad, rfl, _⟩ := ha (by simp)
      exact ⟨_, _, _, rfl, by rcases hop with rfl | rfl <;> rfl⟩
  · rename_i k g off n hx
    obtain ⟨hs, h1, h2⟩ := h
    obtain ⟨B, hB⟩ := Option.isSome_iff_exists.1 hs
    rcases Nat.eq_zero_or_pos n with h0 | h0
    · refine open_ (h2 h0) fun w0 E0 H0 a w E hE => ?_
      have hr := hE.eval x
      rw [hx] at hr
      obtain ⟨j, ad, cap, _, _, _, _, hv, _⟩ := hE.at_own hB hr
      exact ⟨_, _, _, hv⟩
    · refine known _ (h1 h0) fun w0 E0 H0 a w E hE => ?_
      have hr := hE.eval x
      rw [hx] at hr
      obtain ⟨j, ad, cap, _, _, _, _, hv, g1, g2, g3, g4⟩ := hE.at_own hB hr
      refine ⟨_, _, _, hv, ?_⟩
      cases hb : j.blk with
      | none => rw [hb] at g4; omega
      | some b =>
        rw [hb] at g4
        rw [g4 (by omega)]
        rcases hop with rfl | rfl <;> rfl
  · exact h.elim

theorem ok_un {op : UnOp} {t : TypeId} {x : Operand} (ho : o.op = .unOp op t x) (h : unA op (st.eval x) fun v => K (st.put o.dst v)) : OpOk P o st K := by
  unfold unA at h
  split at h
  · rename_i b hx
    refine opOk_sv h rfl (fun w0 E0 H0 a w E hE => ?_)
    simp [execOp, ho, scal hE hx, Op.unary]
  · rename_i k n hx
    refine opOk_sv h rfl (fun w0 E0 H0 a w E hE => ?_)
    simp [execOp, ho, scal_int hE hx, Op.unary, Op.intArith]
  · exact h.elim
end
end Go.Abs
