/-
  The abstract steps are sound: calls; code; functions. No program's text.
-/
import Derived.Test.YtjalcajhmiamgaaAbs17
namespace Go.Abs
set_option linter.unusedSimpArgs false
set_option linter.unusedVariables false
set_option linter.unnecessarySimpa false
open Go

section
variable {P : Program} {w0 w : World} {E0 E : Env} {H0 : AHeap} {st : ASt} {a : Act} {o : Oper} {K : ASt → Prop}

theorem run_callFunc {f : FuncId} (h : callable P f = true) (args : Array Value) : (callFunc f args).run P w = .ok (.enter f args) w := by
  unfold callable at h
  split at h
  · rename_i fn hf
    simp only [Bool.and_eq_true, Bool.not_eq_true'] at h
    have hb : fn.body ≠ none := by
      intro hbb; simp [hbb] at h
    have hn : fn.name ≠ "runtime.NumGoroutine" := by simpa using h.2
    simp [callFunc, hf, hn, hb]
  · cases h

theorem ok_call {f : FuncId} {args : Array Operand} {ts : Array TypeId} (ho : o.op = .call { callee := .value (.func f), args, argTypes := ts }) (hc : callable P f = true)
    (h : ACall P f (args.toList.map st.eval) st.heap st.clk fun r H c => K (ASt.put { st with heap := H, clk := c } o.dst r)) : OpOk P o st K := by
  intro w0 E0 H0 a w ⟨E, hE⟩ N Q hN
  have hargs : RelVs w E (args.toList.map st.eval) (args.toList.map a.eval) := ⟨by simp, fun j x v hx hv => by
    rw [List.getElem?_map] at hx hv
    cases hj : args.toList[j]? with
    | none => simp [hj] at hx
    | some y => simp [hj] at hx hv; subst hx; subst hv; exact hE.eval y⟩
  have hcall := h w E _ hE.clk hE.sim hargs
  have hrun : (execOp a.eval o).run P w = .ok (.enter f (args.toList.map a.eval).toArray) w := by
    have hm : (args.toList.map a.eval).toArray = args.map a.eval := by apply Array.ext'; simp
    simp [execOp, ho, resolve, Act.eval, Deferred.ofValue, invoke, run_callFunc hc, hm]
  unfold Oper.wp
  rw [hrun]
  refine hcall.mono fun e w' => ?_
  rintro ⟨v, r, H', E', rfl, hle, hsim, hr, hfrm, hlive, hI0, hK⟩
  refine hN _ _ _ hK ⟨E', InvE.put (st := { st with heap := H', clk := E'.clk }) ⟨hE.dfr, hE.le.trans hle, rfl, hsim, hE.rel.mono hle, ?_, ?_, fun b hb hI => (hI0 b (Nat.lt_of_lt_of_le hb hE.frm.size) hI).elim (fun h => hE.I0 b hb h) fun h => (hE.live b h).elim .inr fun h => absurd hb (Nat.not_lt.2 h)⟩ o.dst hr⟩
  · exact hE.frm.trans hfrm (fun b hb hL => by
      rcases hE.live b hL with h | h
      · exact h
      · omega)
  · intro b hb
    rcases hlive b hb with h | h
    · exact hE.live b h
    · have := hE.frm.size; exact .inr (by omega)

theorem aop_sound (h : aop P o st K) : OpOk P o st K := by
  unfold aop acore at h
  split at h
  · rename_i x hx; exact ok_move (.inl hx) h
  · rename_i x hx; exact ok_move (.inr hx) h
  · rename_i c x y hop
    split at h
    · rename_i b hb; exact ok_pick hop hb h
    · exact h.elim
  · rename_i e hop
    split at h
    · rename_i z n hz hn; exact ok_alloc hop hz h
    · exact h.elim
  · rename_i e x hop
    split at h
    · rename_i cs n hcs hn; exact ok_box hop hcs h
    · exact h.elim
  · rename_i t ps hop
    split at h
    · rename_i z pl hz hpl
      split at h
      · rename_i cs hcs; exact ok_build hop hz hpl hcs h
      · exact h.elim
    · exact h.elim
  · rename_i t len ps hop
    split at h
    · rename_i e size bytes hT
      split at h
      · rename_i z hz
        split at h
        · rename_i cs hcs
          obtain ⟨⟨h1, h2, h3⟩, h⟩ := h
          exact ok_buildSlice hop hT hz hcs h1 h2 h h3
        · exact h.elim
      · exact h.elim
    · exact h.elim
  · rename_i t x hop; exact ok_load hop h
  · rename_i t x y hop; exact ok_store hop h
  · rename_i op t x y ty hop
    split at h
    · rename_i hy; exact ok_nilCmp hop hy h
    · exact ok_bin hop h
  · rename_i op t x hop; exact ok_un hop h
  · rename_i s t x hop; exact ok_conv hop h
  · rename_i t l c hop; exact ok_make hop h
  · rename_i t x lo hi hop; exact ok_slice hop h
  · rename_i s x f hop; exact ok_fieldAddr hop h
  · rename_i s x f hop; exact ok_field hop h
  · rename_i t x i hop; exact ok_index hop h
  · rename_i t x i hop; exact ok_indexV hop h
  · rename_i x i hop
    split at h
    · rename_i vs hx
      split at h
      · rename_i c hc; exact ok_extract hop hx hc h
      · rename_i cs hc; exact ok_extract hop hx hc h
      · exact h.elim
    · exact h.elim
  · rename_i args ts hop
    split at h
    · rename_i x t hx ht
      have e1 : args = #[x] := by apply Array.ext'; simpa using hx
      have e2 : ts = #[t] := by apply Array.ext'; simpa using ht
      subst e1; subst e2
      exact ok_len hop h
    · exact h.elim
  · rename_i args ts hop
    split at h
    · rename_i x y t u hx ht
      have e1 : args = #[x, y] := by apply Array.ext'; simpa using hx
      have e2 : ts = #[t, u] := by apply Array.ext'; simpa using ht
      subst e1; subst e2
      exact ok_append (ty := 0) hop h
    · exact h.elim
  · rename_i f args ts hop
    exact ok_call hop h.1 h.2
  · rename_i x hop; exact ok_nil hop h
  · exact xop_sound h

theorem rel_undef (w : World) (E : Env) : RelV w E (.tup []) undef := ⟨[], rfl, rfl, fun j x u h => by simp at h⟩
theorem guard_rel (hE : InvE w0 E0 H0 st a w E) {ops : Array Oper} {j : Nat} {b : Option Bool} (h : st.guard ops j = some b) : yielded ops a.tmps j = b := by
  unfold ASt.guard at h
  unfold yielded
  split at h
  · rename_i d hd
    rw [hd]
    split at h
    · rename_i b' hb
      cases h
      have hlt : d < st.tmps.length := by
        rcases Nat.lt_or_ge d st.tmps.length with h | h
        · exact h
        · rw [List.getD_eq_getElem?_getD, List.getElem?_eq_none h] at hb; simp [unknown] at hb
      have hlt' : d < a.tmps.size := by have h1 := hE.rel.1; rw [Array.length_toList] at h1; exact h1 ▸ hlt
      have hr := hE.rel.2 d _ (a.tmps[d]) (List.getElem?_eq_getElem hlt) (by simp [hlt'])
      rw [List.getD_eq_getElem?_getD, List.getElem?_eq_getElem hlt] at hb
      simp at hb
      rw [hb] at hr
      simp only [Option.bind_some, hlt', getElem?_pos]
      generalize a.tmps[d] = q at hr
      cases hr with
      | s _ => rfl
    · rename_i hb
      cases h
      have hlt : d < st.tmps.length := by
        rcases Nat.lt_or_ge d st.tmps.length with h | h
        · exact h
        · rw [List.getD_eq_getElem?_getD, List.getElem?_eq_none h] at hb; simp [unknown] at hb
      have hlt' : d < a.tmps.size := by have h1 := hE.rel.1; rw [Array.length_toList] at h1; exact h1 ▸ hlt
      have hr := hE.rel.2 d _ (a.tmps[d]) (List.getElem?_eq_getElem hlt) (by simp [hlt'])
      rw [List.getD_eq_getElem?_getD, List.getElem?_eq_getElem hlt] at hb
      simp at hb
      rw [hb] at hr
      simp only [Option.bind_some, hlt', getElem?_pos]
      obtain ⟨l, hl, _⟩ := hr
      rw [hl]
    · cases h
  · cases h

theorem aops_sound (ops : Array Oper) {Q : Exit → ASt → Prop} {Q' : Exit → Act → World → Prop} (w0 : World) (E0 : Env) (H0 : AHeap) (hQ : ∀ st a w, Q .normal st → Inv w0 E0 H0 st a w → Q' .normal a w) :
    ∀ (l : List Oper) (st : ASt) (a : Act) (w : World), AOps P ops Q l st → Inv w0 E0 H0 st a w → wpList P ops Q' l a w
  | [], st, a, w, h, hI => hQ st a w h hI
  | o :: rest, st, a, w, h, hI => by
    unfold wpList
    simp only [AOps] at h
    split at h
    · rename_i hg
      have hw : Region.wanted o (yielded ops a.tmps) = true := by simp [Region.wanted, hg]
      rw [if_pos hw]
      exact .inl (aop_sound h w0 E0 H0 a w hI _ _ fun st' a' w' hK hI' => aops_sound ops w0 E0 H0 hQ rest st' a' w' hK hI')
    · rename_i j want hg
      split at h
      · rename_i b hb
        obtain ⟨E, hE⟩ := hI
        have hy := guard_rel hE hb
        split at h
        · rename_i hbw
          have hw : Region.wanted o (yielded ops a.tmps) = true := by simp [Region.wanted, hg, hy, hbw]
          rw [if_pos hw]
          exact .inl (aop_sound h w0 E0 H0 a w ⟨E, hE⟩ _ _ fun st' a' w' hK hI' => aops_sound ops w0 E0 H0 hQ rest st' a' w' hK hI')
        · rename_i hbw
          have hw : Region.wanted o (yielded ops a.tmps) = false := by simp [Region.wanted, hg, hy, hbw]
          rw [hw]
          exact aops_sound ops w0 E0 H0 hQ rest _ _ w h ⟨E, hE.put _ (rel_undef _ _)⟩
      · exact h.elim

theorem CodeOk.mono {c : Code} {Q Q' : Exit → ASt → Prop} {st : ASt} (h : CodeOk P c Q st) (hq : ∀ e st, Q e st → Q' e st) : CodeOk P c Q' st :=
  fun w0 E0 H0 a w hI => wp_mono (h w0 E0 H0 a w hI) fun _ _ _ ⟨st', hq', hI'⟩ => ⟨st', hq _ _ hq', hI'⟩

theorem codeOk_seq {x y : Code} {Q : Exit → ASt → Prop} {st : ASt} (h : CodeOk P x (AExit.then (CodeOk P y Q) Q) st) : CodeOk P (.seq x y) Q st := by
  intro w0 E0 H0 a w hI
  refine wp_seq (wp_mono (h w0 E0 H0 a w hI) ?_)
  rintro e a' w' ⟨st', hq, hI'⟩
  cases e with
  | normal => exact hq w0 E0 H0 a' w' hI'
  | exit id => exact ⟨st', hq, hI'⟩
  | goto l => exact ⟨st', hq, hI'⟩
  | ret => exact ⟨st', hq, hI'⟩
  | panic c => exact ⟨st', hq, hI'⟩
  | outgrown => exact ⟨st', hq, hI'⟩

theorem codeOk_block {id : Nat} {c : Code} {Q : Exit → ASt → Prop} {st : ASt} (h : CodeOk P c (AExit.inBlock id Q) st) : CodeOk P (.block id c) Q st := by
  intro w0 E0 H0 a w hI
  refine wp_block (wp_mono (h w0 E0 H0 a w hI) ?_)
  rintro e a' w' ⟨st', hq, hI'⟩
  cases e with
  | normal => exact ⟨st', hq, hI'⟩
  | exit id' =>
    simp only [AExit.inBlock] at hq
    simp only [Exit.inBlock]
    split
    · rename_i h1; rw [if_pos h1] at hq; exact ⟨st', hq, hI'⟩
    · rename_i h1; rw [if_neg h1] at hq; exact ⟨st', hq, hI'⟩
  | goto l => exact ⟨st', hq, hI'⟩
  | ret => exact ⟨st', hq, hI'⟩
  | panic c => exact ⟨st', hq, hI'⟩
  | outgrown => exact ⟨st', hq, hI'⟩

theorem aw_sound : ∀ (c : Code) (Q : Exit → ASt → Prop) (st : ASt), AW P c Q st → CodeOk P c Q st
  | .skip, Q, st, h => fun w0 E0 H0 a w hI => wp_skip ⟨st, h, hI⟩
  | .region id ops false, Q, st, h => fun w0 E0 H0 a w hI => wp_region_list (aops_sound ops w0 E0 H0 (fun st' a' w' hq hI' => ⟨st', hq, hI'⟩) ops.toList st a w h hI)
  | .region id ops true, Q, st, h => h
  | .seq x y, Q, st, h => codeOk_seq (CodeOk.mono (aw_sound x _ st h) fun e st' hq => by
      cases e with
      | normal => exact aw_sound y Q st' hq
      | exit id => exact hq
      | goto l => exact hq
      | ret => exact hq
      | panic c => exact hq
      | outgrown => exact hq)
  | .cond c x y, Q, st, h => by
    simp only [AW] at h
    split at h
    · rename_i b hb
      intro w0 E0 H0 a w hI
      obtain ⟨E, hE⟩ := hI
      have hc : a.eval c = .bool b := scal hE hb
      refine wp_cond_split hc (fun ht => ?_) (fun hf => ?_)
      · exact aw_sound x Q st (h.1 ht) w0 E0 H0 a w ⟨E, hE⟩
      · exact aw_sound y Q st (h.2 hf) w0 E0 H0 a w ⟨E, hE⟩
    · exact h.elim
  | .block id c, Q, st, h => codeOk_block (aw_sound c _ st h)
  | .exit id, Q, st, h => fun w0 E0 H0 a w hI => wp_exit ⟨st, h, hI⟩
  | .ret, Q, st, h => fun w0 E0 H0 a w hI => wp_ret ⟨st, h, hI⟩
  | .loop c, Q, st, h => h
  | .rangeFunc .., Q, st, h => h
  | .scope _, Q, st, h => h
  | .label _, Q, st, h => h
  | .goto _, Q, st, h => h
  | .refuse _, Q, st, h => h

/-! The results -/
def resSem (a : Act) : ResultVar → Sem Value
  | .tmp t => pure (a.tmps.getD t undef)
  | .cell b t => do loadVar t (← asAddr (a.tmps.getD b undef))
theorem results_eq (fn : Func) (a : Act) : results fn a.tmps = (do
    let vs ← fn.results.mapM (resSem a)
    pure (if h : vs.size = 1 then vs[0] else .tuple vs)) := by
  unfold results
  congr
theorem resA_sound {r : ResultVar} {K : AV → Prop} (hE : InvE w0 E0 H0 st a w E) (h : resA P st r K) :
    ∃ v x, (resSem a r).run P w = .ok v w ∧ RelV w E x v ∧ K x := by
  cases r with
  | tmp t => exact ⟨_, _, rfl, hE.eval (.tmp t), h⟩
  | cell b t =>
    simp only [resA, loadA] at h
    split at h
    · rename_i agg n hag hn
      have hev := hE.eval (.tmp b)
      simp only [ASt.eval, Act.eval] at hev
      split at h
      · rename_i k g off hx
        split at h
        · rename_i B hB
          split at h
          · rename_i y hy
            rw [hx] at hev
            obtain ⟨i, bb, _, _, _, hok, hb, hv⟩ := hE.at_ptr hB hev
            obtain ⟨v, hrun, hrel⟩ := run_loadVar (P := P) hag hn hy (hok.readable (blkAt_size hB) hb off)
            exact ⟨v, y, by show (do let q ← asAddr (a.tmps.getD b undef); loadVar t q : Sem Value).run P w = _; rw [hv]; simp [asAddr, hrun], hrel, h⟩
          · exact h.elim
        · exact h.elim
      · rename_i cs hx
        split at h
        · rename_i y hy
          rw [hx] at hev
          generalize hq : a.tmps.getD b undef = q at hev
          cases hev with
          | rptr f hI hc hrr =>
            obtain ⟨v, hrun, hrel⟩ := run_loadVar (P := P) hag hn hy (readable_list (E := E) f hc hrr)
            exact ⟨v, y, by show (do let q ← asAddr (a.tmps.getD b undef); loadVar t q : Sem Value).run P w = _; rw [hq]; simp [asAddr, hrun], hrel, h⟩
        · exact h.elim
      · exact h.elim
    · exact h.elim

theorem ressA_sound (hE : InvE w0 E0 H0 st a w E) : ∀ (rs : List ResultVar) (K : List AV → Prop), ressA P st rs K →
    ∃ vs xs, (rs.mapM (resSem a)).run P w = .ok vs w ∧ xs.length = vs.length ∧ (∀ (j : Nat) x v, xs[j]? = some x → vs[j]? = some v → RelV w E x v) ∧ K xs
  | [], K, h => ⟨[], [], rfl, rfl, fun j x v hx _ => by simp at hx, h⟩
  | r :: rs, K, h => by
    simp only [ressA] at h
    obtain ⟨v, x, hrun, hrel, h⟩ := resA_sound hE h
    obtain ⟨vs, xs, hruns, hlen, hrels, hK⟩ := ressA_sound hE rs _ h
    refine ⟨v :: vs, x :: xs, ?_, by simp [hlen], fun j y u hy hu => ?_, hK⟩
    · rw [List.mapM_cons, Sem.run_bind]
      rw [hrun]
      simp only [Result.andThen_ok, Sem.run_bind]
      rw [hruns]
      rfl
    · match j with
      | 0 => simp at hy hu; subst hy; subst hu; exact hrel
      | j + 1 => exact hrels j y u (by simpa using hy) (by simpa using hu)

theorem acall_of_aw {f : FuncId} {fn : Func} {c : Code} {args : List AV} {H : AHeap} {clk : Nat} {post : AV → AHeap → Nat → Prop} (hf : P.funcs[f]? = some fn) (hb : fn.body = some c)
    (h : AW P c (bodyA P fn.results.toList post) ⟨args ++ List.replicate (fn.ntmps - args.length) unknown, H, clk⟩) : ACall P f args H clk post := by
  intro w E vals hclk hsim hargs
  refine calls_of_wp hf hb ?_
  have hI : Inv w E H ⟨args ++ List.replicate (fn.ntmps - args.length) unknown, H, clk⟩ { tmps := vals.toArray ++ Array.replicate (fn.ntmps - vals.toArray.size) undef, defers := [] } w := by
    refine ⟨E, rfl, Env.Le.refl _ _, hclk, hsim, ⟨by simp [hargs.1], fun j x v hx hv => ?_⟩, Frm.refl _ _, fun b hb => .inl hb, fun _ _ h => .inl h⟩
    simp only [Array.toList_append, Array.toList_replicate] at hv
    rw [List.getElem?_append] at hx hv
    by_cases hj : j < args.length
    · rw [if_pos hj] at hx
      rw [if_pos (by rw [← hargs.1]; exact hj)] at hv
      exact hargs.2 j x v hx hv
    · rw [if_neg hj] at hx
      rw [List.getElem?_replicate] at hx
      split at hx
      · cases hx; exact rel_unknown _
      · cases hx
  refine wp_mono (aw_sound c _ _ h w E H _ w hI) ?_
  rintro e a' w' ⟨st', hq, E', hE'⟩
  have fin : ressA P st' fn.results.toList (fun xs => okRes xs = true ∧ post (AV.ofResults xs) st'.heap st'.clk) → a'.defers = [] ∧ ∃ v, (results fn a'.tmps).run P w' = .ok v w' ∧
      ∃ v_1 r H' E', Ending.returned v = .returned v_1 ∧ Env.Le w E w' E' ∧ SimH w' E' H' ∧ RelV w' E' r v_1 ∧ Frm w (LiveB E H) w' ∧ (∀ b, LiveB E' H' b → LiveB E H b ∨ w.heap.size ≤ b) ∧ (∀ b, b < w.heap.size → E'.I b → E.I b ∨ LiveB E H b) ∧ post r H' E'.clk := by
    intro hr
    refine ⟨hE'.dfr, ?_⟩
    obtain ⟨vs, xs, hrun, hlen, hrel, hok, hK⟩ := ressA_sound hE' _ _ hr
    have hres : (results fn a'.tmps).run P w' = .ok (if h : vs.toArray.size = 1 then vs.toArray[0] else .tuple vs.toArray) w' := by
      rw [results_eq, Sem.run_bind, Array.mapM_eq_mapM_toList]
      simp only [Sem.run_map, hrun, Result.andThen_ok]
      rfl
    rw [← hE'.clk] at hK
    refine ⟨_, hres, _, AV.ofResults xs, st'.heap, E', rfl, hE'.le, hE'.sim, ?_, hE'.frm, hE'.live, hE'.I0, hK⟩
    by_cases h1 : vs.length = 1
    · match vs, xs, h1, hlen, hrel with
      | [v], [x], _, _, hrel => exact hrel 0 x v rfl rfl
    · have hx1 : xs.length ≠ 1 := by omega
      have ht : AV.ofResults xs = .tup xs := by
        unfold AV.ofResults
        split
        · simp at hx1
        · rfl
      have hall : ∀ x ∈ xs, x.single = true := by
        unfold okRes at hok
        split at hok
        · simp at hx1
        · simpa using hok
      rw [ht]
      have hsz : ¬ (vs.toArray.size = 1) := by simpa using h1
      rw [dif_neg hsz]
      refine ⟨vs, rfl, hlen, fun j x u hx hu => ?_⟩
      have hr := hrel j x u hx hu
      have hn := hall x (List.mem_of_getElem? hx)
      cases x with
      | one c => exact hr
      | agg cs => exact hr
      | tup ys => simp [AV.single] at hn
  cases e with
  | normal => exact fin hq
  | ret => exact fin hq
  | exit id => exact hq.elim
  | goto l => exact hq.elim
  | panic ch => exact hq.elim
  | outgrown => exact hq.elim
end
end Go.Abs
