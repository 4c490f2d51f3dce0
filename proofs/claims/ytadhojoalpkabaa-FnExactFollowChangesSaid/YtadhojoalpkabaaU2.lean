/-
  Turning an object in a map of objects; what a map's values are in order: the iterator of maps.Values.
-/
import Derived.Test.YtadhojoalpkabaaU1
import Derived.Test.YtadhojoalpkabaaK7
namespace Go.Proofs.Ytadhojoalpkabaa
set_option maxRecDepth 100000
set_option linter.unusedSimpArgs false
set_option linter.unusedVariables false
set_option linter.unnecessarySimpa false
open Go Go.Abs Go.Proofs
theorem update_om {H : AHeap} {j g : Nat} {p : List MapEntry × Nat} {l : List Ob} {K : AHeap → Prop} (o : Ob) (h : ObMap p l) (hm : objAt H j g = some p)
    (hK : K (H.set j (some ⟨g, 0, 0, [.obj (stepM p o).1 (stepM p o).2]⟩))) : mapUpdA Try.prog H 58 (.one (.mp j g)) (kav o.kind o.id) o.av K :=
  update_of mpT58 eqk80 (by decide) (ks := kv2 o.kind o.id) (es := p.1) (c := p.2) (vv := o.val) hm rfl rfl (sk2 _ _) h.is.ok.keys hK
theorem delete_om {H : AHeap} {j g : Nat} {p : List MapEntry × Nat} {l : List Ob} {K : AHeap → Prop} (a b : Int) (h : ObMap p l) (hm : objAt H j g = some p)
    (hK : K (H.set j (some ⟨g, 0, 0, [.obj (delE (kv2 a b) p.1) p.2]⟩))) : mapDelA Try.prog H 58 (.one (.mp j g)) (kav a b) K :=
  ⟨j, g, p.1, p.2, .agg (kv2 a b).toArray, _, rfl, hm, rfl, mapDel_of mpT58 eqk80 (by decide) (sk2 _ _) h.is.ok.keys, hK⟩
set_option maxRecDepth 100000 in
theorem c_turnObject (p : List MapEntry × Nat) (l : List Ob) (h : ObMap p l) (c : Ch) (g : Nat) : RCall Try.prog 25 [.one (.mp 0 g), c.av] ⟨g, 0, 0, [.obj p.1 p.2]⟩ fun r B Hn => r = .tup [] ∧ B = ⟨g, 0, 0, [.obj (turnP c.gone c.ob p).1 (turnP c.gone c.ob p).2]⟩ ∧ Hn = [] := by
  refine rcall_gather [] id fun clk => acall_of_aw Try.func25 rfl ?_
  cases hg : c.gone with
  | true =>
    simp [hg]
    refine acall_val (c_keyOf c.ob) (by simp) (by simp) ?_
    simp
    refine delete_om (p := p) c.ob.kind c.ob.id h (by simp) ?_
    simp [turnP, bodyA, ressA, okRes, AV.ofResults, GPostR, AV.ren, AV.ren1, ABlk.ren, AC.ren]
  | false =>
    simp [hg]
    refine codeOk_freeze 1 ?_
    simp [frzV, frzC, ofJ, snap1, blkAt, AC.dc?]
    refine codeOk_drawA mixed (by kernel_rfl) ?_
    simp
    refine qcall_val (c_keyOf c.ob) (by simp) (by simp) ?_
    simp
    refine update_om (p := p) c.ob h (by simp) ?_
    simp [turnP, bodyA, ressA, okRes, AV.ofResults, GPostR, AV.ren, AV.ren1, ABlk.ren, AC.ren]
def vOb : Value → Ob
  | .agg #[.int _ k, .int _ i, .int _ a, .int _ b, .int _ c, .int _ d, .int _ r] => ⟨k, i, a, b, c, d, r⟩
  | _ => ob0
theorem vOb_val (o : Ob) : vOb o.val = o := rfl
theorem MapIs.obs {es : List MapEntry} {l : List Ob} (h : MapIs es l) : es.map (fun e => vOb e.val) = l := by
  have h1 : es.map (fun e => vOb e.val) = (es.map fun e => (e.key, e.val)).map fun p => vOb p.2 := by rw [List.map_map]; rfl
  rw [h1, h, List.map_map]
  have : ((fun p : Value × Value => vOb p.2) ∘ fun o : Ob => (Value.agg (kv2 o.kind o.id).toArray, o.val)) = id := by funext o; exact vOb_val o
  rw [this, List.map_id]
theorem MapIs.mem {es : List MapEntry} {l : List Ob} (h : MapIs es l) {e : MapEntry} (he : e ∈ es) : ∃ o ∈ l, e.key = .agg (kv2 o.kind o.id).toArray ∧ e.val = o.val := by
  have hm : (e.key, e.val) ∈ es.map (fun e => (e.key, e.val)) := List.mem_map.2 ⟨e, he, rfl⟩
  rw [h] at hm
  obtain ⟨o, hl, ho⟩ := List.mem_map.1 hm
  simp only [Prod.mk.injEq] at ho
  exact ⟨o, hl, ho.1.symm, ho.2.symm⟩
theorem nodup_of_born {es : List MapEntry} (h : (es.map (·.born)).Nodup) : es.Nodup := List.Pairwise.of_map (fun e : MapEntry => e.born) (fun a b hn e => hn (by rw [e])) h
theorem length_sub {es done : List MapEntry} (hn : done.Nodup) (hs : ∀ e ∈ done, e ∈ es) : done.length ≤ es.length := hn.length_le_of_subset hs
set_option maxRecDepth 100000 in
/-- What maps.Values's iterator owes: the objects of the map, in some order. -/
theorem s_values (p : List MapEntry × Nat) (l : List Ob) (h : ObMap p l) : ASeq Try.prog 51 [.rptr [.map p.1 p.2]] (fun o : Ob => [o.val]) (fun xs => xs.Perm l) (fun _ => True) l.length := by
  refine aseq_of Try.func51 rfl rfl fun y J A => ?_
  have hobs := h.is.obs
  have hbn := nodup_of_born h.born.2
  refine yok_seq (yok_region (yl_take 1 ?_))
  simp
  refine yl_range (es := p.1) (c := p.2) A rfl trivial mpT58 (by simp [ASt.eval]) fun r => yl_nil ?_
  simp [ASt.put]
  refine yok_block ?_
  refine yok_loop [true, false, false, false, false, false, true] 0 (fun g s => ∃ (done : List MapEntry) (c : Nat), done.Nodup ∧ (∀ e ∈ done, e ∈ p.1) ∧ g = ⟨false, done.map (fun e => vOb e.val), some ⟨r, p.1, p.2, done⟩⟩ ∧
      s = ⟨[sv (.func (.yield y) #[] #[]), unknown, unknown, unknown, unknown, unknown, sv (.pointer (some ⟨r, 0, none⟩))] ++ List.replicate 8 unknown, [], c⟩)
    (fun g _ => l.length - g.pre.length) ?_ ?_
  · simp [ASt.clean, keepA]
  · rintro g s ⟨done, c, hn, hs, rfl, rfl⟩
    refine yok_seq (yok_region ?_)
    refine yl_next A rfl trivial _ rfl (by simp [ASt.eval]) h.born hs (fun e he => ?_) (fun hall => ?_) (fun e he hne => ?_)
    · obtain ⟨o, _, h1, h2⟩ := h.is.mem he
      rw [h1, h2]; exact ⟨rfl, rfl⟩
    · refine yl_take 1 ?_
      simp [ASt.put]
      refine yl_nil ?_
      simp
      refine yok_seq (yok_cond (b := false) (by simp [ASt.eval]) (fun h => by cases h) (fun _ => yok_exit ?_))
      simp
      rw [← hobs]
      exact ((List.perm_ext_iff_of_nodup hn hbn).2 fun e => ⟨hs e, hall e⟩).map _
    · obtain ⟨o, hol, hk, hv⟩ := h.is.mem he
      have hvo : vOb e.val = o := by rw [hv]; rfl
      have hn' : (done ++ [e]).Nodup := List.nodup_append.2 ⟨hn, by simp, fun a ha b hb => by simp at hb; subst hb; exact fun e => hne (e ▸ ha)⟩
      have hs' : ∀ q ∈ done ++ [e], q ∈ p.1 := fun q hq => (List.mem_append.1 hq).elim (hs q) fun h => by simp at h; subst h; exact he
      have hlt := length_sub hn' hs'
      have hpl := h.is.length
      simp at hlt
      have hc1 : oneCells e.key = true ∧ oneCells e.val = true := by rw [hk, hv]; exact ⟨rfl, rfl⟩
      refine yl_take 1 ?_
      rw [hk, hv, Ob.ofV]
      simp [ASt.put]
      refine yl_nil ?_
      simp
      refine yok_seq (yok_cond (b := true) (by simp [ASt.eval]) (fun _ => yok_skip ?_) (fun h => by cases h))
      simp
      refine yok_block (yok_seq (yok_region ?_))
      refine yl_entry rfl trivial _ rfl (by simp [ASt.eval]) h.born.2 done e rfl he hc1 ?_
      rw [hk, hv, Ob.ofV]
      refine yl_take 3 ?_
      simp [ASt.put]
      refine yl_nil ?_
      simp
      refine yok_seq (yok_region (yl_take 2 ?_))
      simp
      refine yl_yield A rfl trivial (by simp [ASt.eval]) o (by simp [ASt.eval, Ob.val]) rfl (by simp; omega) (fun b => ?_)
      refine yl_take 1 ?_
      simp [ASt.put]
      refine yl_nil ?_
      simp
      refine yok_cond (b := !b) (by simp [ASt.eval]) (fun hb => yok_ret ?_) (fun hb => yok_skip ?_)
      · simp at hb
        simp [hb]
      · simp at hb
        simp [hb, ASt.clean, keepA]
        exact ⟨⟨done ++ [e], hn', hs', by simp [hvo], rfl⟩, by omega⟩
end Go.Proofs.Ytadhojoalpkabaa
