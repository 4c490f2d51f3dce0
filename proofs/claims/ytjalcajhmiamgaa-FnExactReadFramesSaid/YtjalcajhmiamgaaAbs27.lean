/-
  Structs of plain values are the same if all their cells are. No program's text.
-/
import Derived.Test.YtjalcajhmiamgaaAbs25
namespace Go.Abs
set_option linter.unusedSimpArgs false
set_option linter.unusedVariables false
set_option linter.unnecessarySimpa false
open Go

def eqV : Value → Value → Bool
  | .int _ a, .int _ b => decide (a = b)
  | .bool a, .bool b => a == b
  | .string a, .string b => a == b
  | _, _ => false
def eqVs : List Value → List Value → Bool
  | a :: as, b :: bs => eqV a b && eqVs as bs
  | _, _ => true
def ScalK : CK → Value → Bool
  | .int k, .int k' _ => decide (k = k')
  | .bool, .bool _ => true
  | .str, .string _ => true
  | _, _ => false
def ScalKs : List CK → List Value → Bool
  | [], [] => true
  | k :: ks, v :: vs => ScalK k v && ScalKs ks vs
  | _, _ => false
/-- The kinds of a type's cells, where '==' goes by them alone. -/
def eqFields (P : Program) (K : TypeId → Option (Bool × List CK)) : Nat → List Field → Option (List CK)
  | _, [] => some []
  | off, f :: rest => if f.offset = off ∧ f.name ≠ "_" then (K f.type).bind fun q => if szOf P f.type = some q.2.length ∧ aggT P f.type = some q.1 then (eqFields P K (off + q.2.length) rest).map (q.2 ++ ·) else none else none
def eqT (P : Program) : Nat → TypeId → Option (Bool × List CK)
  | 0, _ => none
  | n + 1, t => match P.underlying t with
    | some .bool => some (false, [.bool])
    | some (.int k) => some (false, [.int k])
    | some .string => some (false, [.str])
    | some (.struct fs) => if P.stoodInHeld t then none else (eqFields P (eqT P n) 0 fs.toList).map fun ks => (true, ks)
    | _ => none
def ofCells (agg : Bool) (vs : List Value) : Value := if agg then .agg vs.toArray else vs.headD undef

attribute [simp] eqV eqVs
theorem eqVs_append : ∀ {a b c d : List Value}, a.length = b.length → eqVs (a ++ c) (b ++ d) = (eqVs a b && eqVs c d)
  | [], [], c, d, _ => by simp [eqVs]
  | x :: a, y :: b, c, d, h => by
    simp [eqVs, eqVs_append (a := a) (b := b) (c := c) (d := d) (by simpa using h), Bool.and_assoc]
theorem scalKs_length : ∀ {ks : List CK} {vs : List Value}, ScalKs ks vs = true → ks.length = vs.length
  | [], [], _ => rfl
  | k :: ks, v :: vs, h => by
    simp [ScalKs] at h
    simp [scalKs_length h.2]
theorem scalKs_split : ∀ {ks ls : List CK} {vs : List Value}, ScalKs (ks ++ ls) vs = true → ScalKs ks (vs.take ks.length) = true ∧ ScalKs ls (vs.drop ks.length) = true
  | [], ls, vs, h => by simpa [ScalKs] using h
  | k :: ks, ls, [], h => by simp [ScalKs] at h
  | k :: ks, ls, v :: vs, h => by
    simp [ScalKs] at h ⊢
    have := scalKs_split (ks := ks) h.2
    exact ⟨⟨h.1, this.1⟩, this.2⟩
theorem run_stood {P : Program} {t : TypeId} {w : World} {α : Type} (k : Program → Sem α) : (do let p ← program; k p).run P w = (k P).run P w := rfl

theorem run_part {P : Program} {t : TypeId} {agg : Bool} {n off : Nat} {vs : List Value} (ha : aggT P t = some agg) (hn : szOf P t = some n) (hl : off + n ≤ vs.length) (h1 : agg = false → n = 1) (w : World) :
    (part t vs.toArray off).run P w = .ok (ofCells agg ((vs.drop off).take n)) w := by
  unfold part
  cases agg with
  | true =>
    simp [run_isAgg ha, run_sizeOf hn, ofCells]
  | false =>
    have := h1 rfl
    subst this
    have hlt : off < vs.length := by omega
    simp [run_isAgg ha, ofCells, List.getElem?_eq_getElem hlt]
    have e : (vs.drop off).take 1 = [vs[off]] := by
      rw [List.drop_eq_getElem_cons hlt]; rfl
    rw [e]; simp
theorem scal1_int {k : IntKind} {vs : List Value} (h : ScalKs [.int k] vs = true) : ∃ a, vs = [.int k a] := by
  match vs, h with
  | [v], h =>
    simp [ScalKs] at h
    cases v with
    | int k' a => simp [ScalK] at h; subst h; exact ⟨a, rfl⟩
    | _ => simp [ScalK] at h
  | _ :: _ :: _, h => simp [ScalKs] at h
theorem scal1_bool {vs : List Value} (h : ScalKs [.bool] vs = true) : ∃ a, vs = [.bool a] := by
  match vs, h with
  | [v], h =>
    simp [ScalKs] at h
    cases v with
    | bool a => exact ⟨a, rfl⟩
    | _ => simp [ScalK] at h
  | _ :: _ :: _, h => simp [ScalKs] at h
theorem scal1_str {vs : List Value} (h : ScalKs [.str] vs = true) : ∃ a, vs = [.string a] := by
  match vs, h with
  | [v], h =>
    simp [ScalKs] at h
    cases v with
    | string a => exact ⟨a, rfl⟩
    | _ => simp [ScalK] at h
  | _ :: _ :: _, h => simp [ScalKs] at h
/-- The loop over the fields. -/
def eqBody (d : Nat) (X Y : Array Value) (f : Field) : Sem (ForInStep (Option Bool × Unit)) :=
  if f.name = "_" then pure (ForInStep.yield (none, ()))
  else do
    let a ← part f.type X f.offset
    let b ← part f.type Y f.offset
    let r ← Op.equalIn d f.type a b
    if r = false then pure (ForInStep.done (some false, ())) else pure (ForInStep.yield (none, ()))
theorem eqT_one {P : Program} : ∀ {n : Nat} {t : TypeId} {q : Bool × List CK}, eqT P n t = some q → q.1 = false → q.2.length = 1
  | 0, _, _, h, _ => by simp [eqT] at h
  | n + 1, t, q, h, h1 => by
    unfold eqT at h
    split at h
    · simp at h; subst h; rfl
    · simp at h; subst h; rfl
    · simp at h; subst h; rfl
    · split at h
      · exact absurd h (by simp)
      · rw [Option.map_eq_some_iff] at h
        obtain ⟨ks, _, rfl⟩ := h
        exact absurd h1 (by simp)
    · exact absurd h (by simp)
theorem run_fields {P : Program} {w : World} {K : TypeId → Option (Bool × List CK)} {d : Nat} {X Y : List Value} (hK1 : ∀ t q, K t = some q → q.1 = false → q.2.length = 1)
    (hK : ∀ t q, K t = some q → ∀ (xs ys : List Value), ScalKs q.2 xs = true → ScalKs q.2 ys = true → (Op.equalIn d t (ofCells q.1 xs) (ofCells q.1 ys)).run P w = .ok (eqVs xs ys) w) :
    ∀ (fs : List Field) (off : Nat) (ks : List CK), eqFields P K off fs = some ks → ScalKs ks (X.drop off) = true → ScalKs ks (Y.drop off) = true → off ≤ X.length → off ≤ Y.length →
      (forIn fs (none, ()) fun f (_ : Option Bool × Unit) => eqBody d X.toArray Y.toArray f).run P w = .ok (if eqVs (X.drop off) (Y.drop off) then (none, ()) else (some false, ())) w
  | [], off, ks, h, hx, hy, _, _ => by
    simp [eqFields] at h
    subst h
    have e1 : X.drop off = [] := by cases hX : X.drop off with | nil => rfl | cons a l => rw [hX] at hx; simp [ScalKs] at hx
    simp [e1, eqVs]
  | f :: rest, off, ks, h, hx, hy, ox, oy => by
    unfold eqFields at h
    split at h
    · rename_i ho
      rw [Option.bind_eq_some_iff] at h
      obtain ⟨q, hq, h⟩ := h
      split at h
      · rename_i hs
        rw [Option.map_eq_some_iff] at h
        obtain ⟨k2, hk2, rfl⟩ := h
        have hx' := scalKs_split hx
        have hy' := scalKs_split hy
        have lx := scalKs_length hx
        have ly := scalKs_length hy
        simp at lx ly
        have h1 := hK f.type q hq _ _ hx'.1 hy'.1
        have px := run_part hs.2 hs.1 (vs := X) (off := off) (by omega) (fun e => hK1 _ _ hq e) w
        have py := run_part hs.2 hs.1 (vs := Y) (off := off) (by omega) (fun e => hK1 _ _ hq e) w
        have ih := run_fields (w := w) hK1 hK rest (off + q.2.length) k2 hk2 (by simpa [List.drop_drop] using hx'.2) (by simpa [List.drop_drop] using hy'.2) (by omega) (by omega)
        have hsp : eqVs (X.drop off) (Y.drop off) = (eqVs ((X.drop off).take q.2.length) ((Y.drop off).take q.2.length) && eqVs (X.drop (off + q.2.length)) (Y.drop (off + q.2.length))) := by
          rw [← eqVs_append (by simp; omega), ← List.drop_drop, ← List.drop_drop, List.take_append_drop, List.take_append_drop]
        rw [hsp]
        simp only [List.forIn_cons]
        have hb : (eqBody d X.toArray Y.toArray f).run P w = .ok (if eqVs ((X.drop off).take q.2.length) ((Y.drop off).take q.2.length) = false then ForInStep.done (some false, ()) else ForInStep.yield (none, ())) w := by
          unfold eqBody
          rw [if_neg ho.2, ← ho.1]
          rw [← ho.1] at px py h1
          simp [px, py, h1]
          split <;> simp
        cases he : eqVs ((X.drop off).take q.2.length) ((Y.drop off).take q.2.length) with
        | false => simp [hb, he]
        | true => simp [hb, he, ih]
      · exact absurd h (by simp)
    · exact absurd h (by simp)
theorem eq_run {P : Program} (w : World) : ∀ (n : Nat) (t : TypeId) (q : Bool × List CK), eqT P n t = some q → ∀ (d : Nat), n ≤ d → ∀ (xs ys : List Value), ScalKs q.2 xs = true → ScalKs q.2 ys = true →
    (Op.equalIn d t (ofCells q.1 xs) (ofCells q.1 ys)).run P w = .ok (eqVs xs ys) w
  | 0, _, _, h, _, _, _, _, _, _ => by simp [eqT] at h
  | n + 1, t, q, h, 0, hd, _, _, _, _ => by omega
  | n + 1, t, q, h, d + 1, hd, xs, ys, hx, hy => by
    unfold eqT at h
    split at h
    · rename_i ht
      simp at h; subst h
      obtain ⟨a, rfl⟩ := scal1_bool hx
      obtain ⟨b, rfl⟩ := scal1_bool hy
      simp [Op.equalIn, run_underlying ht, ofCells, eqVs, eqV]
    · rename_i k ht
      simp at h; subst h
      obtain ⟨a, rfl⟩ := scal1_int hx
      obtain ⟨b, rfl⟩ := scal1_int hy
      simp [Op.equalIn, run_underlying ht, ofCells, eqVs, eqV]
      rfl
    · rename_i ht
      simp at h; subst h
      obtain ⟨a, rfl⟩ := scal1_str hx
      obtain ⟨b, rfl⟩ := scal1_str hy
      simp [Op.equalIn, run_underlying ht, ofCells, eqVs, eqV]
    · rename_i fs ht
      split at h
      · exact absurd h (by simp)
      · rename_i hst
        rw [Option.map_eq_some_iff] at h
        obtain ⟨ks, hks, rfl⟩ := h
        rw [Op.equalIn]
        simp only [ofCells, if_true]
        have hF := run_fields (w := w) (d := d) (X := xs) (Y := ys) (fun t q h => eqT_one h) (fun t q h xs ys h1 h2 => eq_run w n t q h d (by omega) xs ys h1 h2) fs.toList 0 ks hks (by simpa using hx) (by simpa using hy) (Nat.zero_le _) (Nat.zero_le _)
        rw [Array.forIn_toList] at hF
        simp only [eqBody] at hF
        simp only [List.drop_zero] at hF
        cases he : eqVs xs ys with
        | false => rw [he] at hF; simp at hF; simp [run_underlying ht, hst, hF]
        | true => rw [he] at hF; simp at hF; simp [run_underlying ht, hst, hF]
    · exact absurd h (by simp)
theorem eqAgg_of {P : Program} {n : Nat} {t : TypeId} {ks : List CK} {xs ys : List Value} (h : eqT P n t = some (true, ks)) (hn : n ≤ 10000) (hg : P.eqGuardType P.depth t = false) (hx : ScalKs ks xs = true) (hy : ScalKs ks ys = true) :
    EqAgg P t xs ys (eqVs xs ys) := by
  intro w
  refine ⟨fun op x y => ?_, ?_⟩
  · cases op <;> simp [eqGuard, hg]
  · exact eq_run w n t (true, ks) h Op.maxDepth hn xs ys hx hy
theorem agg_neq {P : Program} {n : Nat} {t : TypeId} {ks : List CK} {xs ys : List Value} (h : eqT P n t = some (true, ks)) (hn : n ≤ 10000) (hg : P.eqGuardType P.depth t = false) (hx : ScalKs ks xs = true) (hy : ScalKs ks ys = true) (K : Value → Prop) :
    aggBin P .neq t (scells xs) (scells ys) K = K (.bool (!(eqVs xs ys))) := aggBin_neq (eqAgg_of h hn hg hx hy)
theorem agg_eql {P : Program} {n : Nat} {t : TypeId} {ks : List CK} {xs ys : List Value} (h : eqT P n t = some (true, ks)) (hn : n ≤ 10000) (hg : P.eqGuardType P.depth t = false) (hx : ScalKs ks xs = true) (hy : ScalKs ks ys = true) (K : Value → Prop) :
    aggBin P .eql t (scells xs) (scells ys) K = K (.bool (eqVs xs ys)) := aggBin_eql (eqAgg_of h hn hg hx hy)
end Go.Abs
