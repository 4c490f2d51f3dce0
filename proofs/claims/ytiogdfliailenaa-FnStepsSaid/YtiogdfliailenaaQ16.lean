/-
  The gate: refuseWrite and CheckWrite of the program.
-/
import Derived.Test.YtiogdfliailenaaQ15
namespace Go.Proofs.Ytiogdfliailenaa
set_option maxRecDepth 100000
set_option linter.unusedSimpArgs false
set_option linter.unusedVariables false
set_option linter.unnecessarySimpa false
open Go Go.Abs Go.Proofs
/-- The entries of a map of objects, in the order in which they came. -/
def MapIs (es : List MapEntry) (l : List Ob) : Prop := es.map (fun e => (e.key, e.val)) = l.map fun o => (.agg (kv2 o.kind o.id).toArray, o.val)
theorem MapIs.length {es : List MapEntry} {l : List Ob} (h : MapIs es l) : es.length = l.length := by
  have := congrArg List.length h; simpa using this
theorem keyIs_kv {a b : Int} {e : MapEntry} {o : Ob} (h : e.key = .agg (kv2 o.kind o.id).toArray) : keyIs (kv2 a b) e = isKey a b o := by
  obtain ⟨k, v, c⟩ := e
  simp only at h; subst h
  rw [keyIs_key, eqVs_kv, isKey]
  congr 1
  simp only [eq_iff_iff]
  constructor
  · rintro ⟨rfl, rfl⟩; exact ⟨rfl, rfl⟩
  · rintro ⟨rfl, rfl⟩; exact ⟨rfl, rfl⟩
theorem putR_new {a b : Int} {v : Value} {c : Nat} : ∀ {es : List MapEntry} {l : List Ob}, MapIs es l → (∀ o ∈ l, isKey a b o = false) → putR (kv2 a b) v c es = es ++ [⟨.agg (kv2 a b).toArray, v, c⟩]
  | [], [], _, _ => rfl
  | [], _ :: _, h, _ => by simp [MapIs] at h
  | _ :: _, [], h, _ => by simp [MapIs] at h
  | e :: es, o :: l, h, hn => by
    simp only [MapIs, List.map_cons, List.cons.injEq, Prod.mk.injEq] at h
    have hk := keyIs_kv (a := a) (b := b) h.1.1
    rw [hn o (by simp)] at hk
    rw [putR, hk]
    simp only [Bool.false_eq_true, if_false, List.cons_append]
    rw [putR_new (l := l) h.2 fun q hq => hn q (by simp [hq])]
theorem MapIs.snoc {es : List MapEntry} {l : List Ob} (h : MapIs es l) (o : Ob) (c : Nat) : MapIs (es ++ [⟨.agg (kv2 o.kind o.id).toArray, o.val, c⟩]) (l ++ [o]) := by
  unfold MapIs at h ⊢
  rw [List.map_append, List.map_append, h]; rfl
/-- No two of the same key. -/
def KeysApart (l : List Ob) : Prop := l.Pairwise fun x y => ¬ (x.kind = y.kind ∧ x.id = y.id)
theorem mapIs_foldl : ∀ (l : List Ob) (p : List MapEntry × Nat) (l0 : List Ob), MapIs p.1 l0 → KeysApart (l0 ++ l) → MapIs (l.foldl stepM p).1 (l0 ++ l)
  | [], p, l0, h, _ => by simpa using h
  | o :: l, p, l0, h, hd => by
    have hno : ∀ q ∈ l0, isKey o.kind o.id q = false := fun q hq => by
      have := (List.pairwise_append.1 hd).2.2 q hq o (by simp)
      exact decide_eq_false this
    have h1 : MapIs (stepM p o).1 (l0 ++ [o]) := by
      show MapIs (putR (kv2 o.kind o.id) o.val p.2 p.1) (l0 ++ [o])
      rw [putR_new h hno]; exact h.snoc o p.2
    have := mapIs_foldl l (stepM p o) (l0 ++ [o]) h1 (by simpa using hd)
    simpa using this
theorem rises_apart : ∀ {l : List Ob}, rises l = true → KeysApart l
  | [], _ => List.Pairwise.nil
  | a :: l, h => List.Pairwise.cons (fun q hq => less_irrefl_key (rises_head h q hq)) (rises_apart (rises_tail h))
theorem mapIs_mapL {l : List Ob} (h : rises l = true) : MapIs (mapL l).1 l := by
  have := mapIs_foldl l ([], 0) [] rfl (by simpa using rises_apart h)
  rw [List.nil_append] at this
  exact this
def wasOb (l : List Ob) (w : Wr) : Ob := (findOb l w.ob.kind w.ob.id).getD ob0
def thereOb (l : List Ob) (w : Wr) : Bool := (findOb l w.ob.kind w.ob.id).isSome
def sgOf (s : St) (w : Wr) : Sg := ⟨w, wasOb s.obs w, thereOb s.obs w, ((findOb s.obs 4 0).getD ob0).b⟩
def refuse (s : St) (w : Wr) : Rf :=
  if s.rev = 100000 then .full else if w.expect ≠ (wasOb s.obs w).rev then .taken
  else if (sgOf s w).stepRf ≠ .none then (sgOf s w).stepRf
  else if thereOb s.obs w = false ∧ s.obs.length = 60 then .full else .none
theorem obsBad_mem {rev : Int} : ∀ {l : List Ob}, obsBad rev l = 0 → ∀ o ∈ l, obFault o = 0
  | [], _, o, ho => by simp at ho
  | a :: l, h, o, ho => by
    rw [obsBad] at h
    split at h
    · rename_i h1
      split at h
      · rcases List.mem_cons.1 ho with rfl | ho
        · exact h1
        · exact obsBad_mem h o ho
      · omega
    · rename_i h1; exact absurd h h1
theorem findOb_mem {l : List Ob} {a b : Int} {o : Ob} (h : findOb l a b = some o) : o ∈ l ∧ o.kind = a ∧ o.id = b := by
  have key : ∀ (l : List Ob) (r : Option Ob), l.foldl (fun r o => if o.kind = a ∧ o.id = b then some o else r) r = some o → (r = some o) ∨ (o ∈ l ∧ o.kind = a ∧ o.id = b) := by
    intro l
    induction l with
    | nil => intro r h; exact .inl h
    | cons x l ih =>
      intro r h
      rw [List.foldl_cons] at h
      rcases ih _ h with h1 | ⟨h1, h2⟩
      · split at h1
        · rename_i hx; cases h1; exact .inr ⟨by simp, hx⟩
        · exact .inl h1
      · exact .inr ⟨by simp [h1], h2⟩
  rcases key l none h with h1 | h1
  · cases h1
  · exact h1
theorem stFault_all {s : St} (h : stFault s = 0) : (0 ≤ s.rev ∧ s.rev ≤ 100000) ∧ s.obs.length ≤ 60 ∧ s.hist.length ≤ 12 ∧ obsBad s.rev s.obs = 0 ∧ rises s.obs = true ∧ histOk s.rev s.hist = true := by
  unfold stFault at h
  split at h
  · rename_i h1
    split at h
    · rename_i h2
      split at h
      · rename_i h3
        split at h
        · rename_i h4
          split at h
          · rename_i h5; exact ⟨h1, h2.1, h2.2, h3, h4, h5⟩
          · omega
        · omega
      · rename_i h3; exact absurd h h3
    · omega
  · omega
theorem wasOb_b {s : St} (h : stFault s = 0) (w : Wr) : 0 ≤ (wasOb s.obs w).b ∧ (wasOb s.obs w).b ≤ 65535 := by
  unfold wasOb
  cases hf : findOb s.obs w.ob.kind w.ob.id with
  | none => simp [ob0]
  | some o =>
    have h1 := obFault_in (obsBad_mem (stFault_all h).2.2.2.1 o (findOb_mem hf).1)
    simp only [Option.getD_some]
    omega
/-- What CheckWrite tells. -/
def chkW (s : St) (w : Wr) : Int := if stFault s ≠ 0 then stFault s else if wrFault w ≠ 0 then wrFault w else (refuse s w).code
end Go.Proofs.Ytiogdfliailenaa
