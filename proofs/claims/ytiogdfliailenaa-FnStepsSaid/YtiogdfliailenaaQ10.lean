/-
  Objects by their keys: maps in the program, searches in the model.
-/
import Derived.Test.YtiogdfliailenaaQ9
import Derived.Test.YtiogdfliailenaaK5
namespace Go.Proofs.Ytiogdfliailenaa
set_option maxRecDepth 100000
set_option linter.unusedSimpArgs false
set_option linter.unusedVariables false
set_option linter.unnecessarySimpa false
open Go Go.Abs Go.Proofs
abbrev kav (a b : Int) : AV := .agg [ic a, ic b]
abbrev kv2 (a b : Int) : List Value := [.int .i64 a, .int .i64 b]
abbrev ck2 : List CK := [.int .i64, .int .i64]
def Ob.val (o : Ob) : Value := .agg #[.int .i64 o.kind, .int .i64 o.id, .int .i64 o.a, .int .i64 o.b, .int .i64 o.c, .int .i64 o.d, .int .i64 o.rev]
theorem Ob.one (o : Ob) : oneCells o.val = true := rfl
theorem Ob.ofV (o : Ob) : AV.ofV o.val = o.av := rfl
theorem sk2 (a b : Int) : ScalKs ck2 (kv2 a b) = true := rfl
theorem eqVs_kv (a b c d : Int) : eqVs (kv2 a b) (kv2 c d) = decide (a = c ∧ b = d) := by simp [Bool.decide_and]
def stepM (p : List MapEntry × Nat) (o : Ob) : List MapEntry × Nat := (putR (kv2 o.kind o.id) o.val p.2 p.1, (putE (kv2 o.kind o.id) o.val p.1 p.2).2)
def mapL (l : List Ob) : List MapEntry × Nat := l.foldl stepM ([], 0)
theorem mapL_snoc (l : List Ob) (o : Ob) : mapL (l ++ [o]) = stepM (mapL l) o := by simp [mapL, List.foldl_append]
structure MapOk (es : List MapEntry) : Prop where
  keys : KeysOk ck2 es
  vals : ∀ e ∈ es, oneCells e.val = true
theorem MapOk.put {es : List MapEntry} (h : MapOk es) (a b : Int) (o : Ob) (c : Nat) : MapOk (putR (kv2 a b) o.val c es) :=
  ⟨keysOk_put (sk2 a b) h.keys, mem_put (q := fun v => oneCells v = true) o.one h.vals⟩
theorem mapOk_foldl (l : List Ob) : ∀ (p : List MapEntry × Nat), MapOk p.1 → MapOk (l.foldl stepM p).1 := by
  induction l with
  | nil => intro p h; exact h
  | cons o l ih => intro p h; exact ih _ (h.put o.kind o.id o p.2)
theorem mapOk_mapL (l : List Ob) : MapOk (mapL l).1 := mapOk_foldl l _ ⟨fun e h => by simp at h, fun e h => by simp at h⟩
/-- The last object of a Kind and an Id. -/
def findOb (l : List Ob) (a b : Int) : Option Ob := l.foldl (fun r o => if o.kind = a ∧ o.id = b then some o else r) none
theorem valE_mapL (l : List Ob) (a b : Int) : valE (kv2 a b) (mapL l).1 = (findOb l a b).map Ob.val := by
  have key : ∀ (l : List Ob) (p : List MapEntry × Nat) (r : Option Ob), MapOk p.1 → valE (kv2 a b) p.1 = r.map Ob.val →
      valE (kv2 a b) (l.foldl stepM p).1 = (l.foldl (fun r o => if o.kind = a ∧ o.id = b then some o else r) r).map Ob.val := by
    intro l
    induction l with
    | nil => intro p r _ h; exact h
    | cons o l ih =>
      intro p r hp h
      refine ih _ _ (hp.put o.kind o.id o p.2) ?_
      show valE (kv2 a b) (putR (kv2 o.kind o.id) o.val p.2 p.1) = Option.map Ob.val (if o.kind = a ∧ o.id = b then some o else r)
      rw [valE_put (sk2 o.kind o.id) (sk2 a b) hp.keys, eqVs_kv]
      by_cases h1 : a = o.kind ∧ b = o.id
      · rw [decide_eq_true h1, if_pos rfl, if_pos ⟨h1.1.symm, h1.2.symm⟩]; rfl
      · rw [decide_eq_false h1, if_neg (by simp), if_neg (fun h2 => h1 ⟨h2.1.symm, h2.2.symm⟩)]; exact h
  exact key l ([], 0) none ⟨fun e h => by simp at h, fun e h => by simp at h⟩ rfl
theorem zero_ob (w : World) : (zeroValue 30).run Try.prog w = .ok ob0.val w := by
  obtain ⟨v, hv, he, _⟩ := run_zero (ze30)
  have : v = ob0.val := by
    have h1 : (zeroValue 30).run Try.prog w = .ok v w := hv w
    have h2 : (Try.prog.info? 30).bind (·.zero) = some ob0.val := by kernel_rfl
    simp only [zeroValue, typeInfo] at h1
    cases hi : Try.prog.info? 30 with
    | none => rw [hi] at h2; simp at h2
    | some i => rw [hi] at h2; simp at h2; simp [hi, h2] at h1; exact h1.symm
  rw [hv w, this]
/-- A key asked of a map of objects. -/
theorem lookup_ob {H : AHeap} {m : AV} {l : List Ob} {ok : Bool} {K : AV → Prop} (a b : Int) (hm : mapsA H m = some (mapL l).1)
    (hK : K (if ok then .tup [((findOb l a b).getD ob0).av, bv (findOb l a b).isSome] else ((findOb l a b).getD ob0).av)) : lookupA Try.prog H 97 m (kav a b) ok K := by
  refine lookup_of mpT97 eqk38 (by decide) zero_ob ob0.one (ks := kv2 a b) hm rfl (sk2 a b) (mapOk_mapL l).keys (mapOk_mapL l).vals ?_
  rw [valE_mapL]
  revert hK
  cases findOb l a b <;> exact id
theorem update_ob {H : AHeap} {j g : Nat} {l : List Ob} {K : AHeap → Prop} (o : Ob) (hm : objAt H j g = some (mapL l))
    (hK : K (H.set j (some ⟨g, 0, 0, [.obj (mapL (l ++ [o])).1 (mapL (l ++ [o])).2]⟩))) : mapUpdA Try.prog H 97 (.one (.mp j g)) (kav o.kind o.id) o.av K := by
  refine update_of mpT97 eqk38 (by decide) (ks := kv2 o.kind o.id) (es := (mapL l).1) (c := (mapL l).2) (vv := o.val) hm rfl rfl (sk2 _ _) (mapOk_mapL l).keys ?_
  rw [mapL_snoc] at hK
  exact hK
set_option maxRecDepth 100000 in
theorem c_keyOf (o : Ob) : FCall Try.prog 29 [o.av] fun r H => r = kav o.kind o.id ∧ H = [] := by
  refine fcall_gather [] id fun clk => acall_of_aw Try.func29 rfl ?_
  simp
set_option maxRecDepth 100000 in
theorem c_byKey (l : List Ob) (hl : l.length ≤ 1048576) : FCall Try.prog 71 [rlist l] fun r H => ∃ g, r = .one (.mp 0 g) ∧ H = [some ⟨g, 0, 0, [.obj (mapL l).1 (mapL l).2]⟩] := by
  intro clk
  refine acall_of_aw Try.func71 rfl ?_
  simp
  refine codeOk_loop [false, false, false, true, false, false, false, true, true, true] 1 (fun z => ∃ (i c : Nat), i ≤ l.length ∧ z = ⟨[unknown, unknown, unknown, .one (.mp 0 clk), unknown, unknown, unknown, rlist l, iv .i64 l.length, iv .i64 i] ++ List.replicate 9 unknown, [some ⟨clk, 0, 0, [.obj (mapL (l.take i)).1 (mapL (l.take i)).2]⟩], c⟩)
    (fun z => match z.tmps.getD 9 unknown with | .one (.d (.s (.int _ i))) => l.length - i.toNat | _ => 0) ?_ ?_
  · simp
    exact ⟨0, by omega, rfl, rfl, rfl⟩
  · rintro z ⟨i, c0, hi, rfl⟩
    by_cases hlt : i < l.length
    · have hw := wrap_succ (i := i) (by omega)
      obtain ⟨o, t, hd, ho, _, htk⟩ := drop_at l hlt
      simp [hlt, hd]
      refine codeOk_drawA mixed (by kernel_rfl) ?_
      simp
      refine qcall_val (c_keyOf o) (by simp) (by simp) ?_
      simp
      refine update_ob (l := l.take i) o (by simp) ?_
      rw [← htk]
      simp [hlt, hw]
      exact ⟨⟨i + 1, by omega, by omega, rfl, rfl⟩, by omega⟩
    · have e : i = l.length := by omega
      subst e
      simp
theorem snap_byKey {l : List Ob} : ∀ r Hn, (∃ g, r = .one (.mp 0 g) ∧ Hn = [some ⟨g, 0, 0, [.obj (mapL l).1 (mapL l).2]⟩]) → snapV Hn r = some (.one (.d (.map (mapL l).1 (mapL l).2))) := by
  rintro r Hn ⟨g, rfl, rfl⟩; simp
theorem q_byKey (l : List Ob) (hl : l.length ≤ 1048576) {H : AHeap} {K : AV → Prop} (hK : K (.one (.d (.map (mapL l).1 (mapL l).2)))) : QCall Try.prog 71 [rlist l] H K :=
  qcall _ (c_byKey l hl) (by simp) snap_byKey hK
theorem a_byKey (l : List Ob) (hl : l.length ≤ 1048576) {H : AHeap} {c : Nat} {K : AV → AHeap → Nat → Prop} (hK : K (.one (.d (.map (mapL l).1 (mapL l).2))) H c) : ACall Try.prog 71 [rlist l] H c K :=
  acall_froze (c_byKey l hl) (by simp) (fun r Hn h => ⟨_, snap_byKey r Hn h, hK⟩)
set_option maxRecDepth 100000 in
theorem c_findIn (l : List Ob) (a b : Int) (hl : l.length ≤ 1048576) : FCall Try.prog 48 [rlist l, kav a b] fun r H => r = .agg (ic (if (findOb l a b).isSome then 0 else 4) :: ((findOb l a b).getD ob0).cells) ∧ H = [] := by
  refine fcall_gather [] id fun clk => acall_of_aw Try.func48 rfl ?_
  simp
  refine codeOk_drawS [(.n, 0), (.q, 1), (.n, 2), (.n, 3), (.n, 4), (.n, 5), (.s, 6), (.n, 7), (.n, 8), (.n, 9)] mixed rfl rfl (by kernel_rfl) ?_
  simp
  refine q_byKey l hl ?_
  simp
  refine lookup_ob (l := l) a b (by simp) ?_
  cases hf : findOb l a b with
  | none => simp [ob0]
  | some o => simp
end Go.Proofs.Ytiogdfliailenaa
