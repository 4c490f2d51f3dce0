/-
  Arguments of any plain type, read as data: bools, integers, strings, slices, structs and arrays of such. No program's text.
-/
import Derived.Test.YtjalcajhmiamgaaAbs21
import Derived.ChangeArms
import Derived.OpenShut
import Derived.WideShapes
import Derived.DataReads
import Derived.ChangeOld
namespace Go.Abs
set_option linter.unusedSimpArgs false
set_option linter.unusedVariables false
set_option linter.unnecessarySimpa false
open Go Go.RowKit

/-- What a cell can be. -/
inductive CK where
  | bool
  | int (k : IntKind)
  | str
  | slice (ks : List CK)

/-- The cells of a struct's fields, one behind the other. -/
def fieldsK (P : Program) (K : TypeId → Option (List CK)) : Nat → List Field → Option (List CK)
  | _, [] => some []
  | off, f :: rest => if f.offset = off then (K f.type).bind fun ks => if P.cellsOf f.type = ks.length then (fieldsK P K (off + ks.length) rest).map (ks ++ ·) else none else none

def kindT (P : Program) : Nat → TypeId → Option (List CK)
  | 0, _ => none
  | n + 1, t => match P.underlying t with
    | some .bool => some [.bool]
    | some (.int k) => some [.int k]
    | some .string => some [.str]
    | some (.slice e) => (kindT P n e).bind fun ks => if P.cellsOf e = ks.length then some [.slice ks] else none
    | some (.struct fs) => (fieldsK P (kindT P n) 0 fs.toList).bind fun ks => if P.cellsOf t = ks.length then some ks else none
    | some (.array m e) => (kindT P n e).bind fun ks => if P.cellsOf e = ks.length ∧ P.cellsOf t = m * ks.length then some (List.replicate m ks).flatten else none
    | _ => none

inductive OkC : CK → DC → Prop where
  | bool (b : Bool) : OkC .bool (.s (.bool b))
  | int (k : IntKind) (n : Int) (h : (Lit.int k n).wf = true) : OkC (.int k) (.s (.int k n))
  | str (s : ByteArray) (h : s.size ≤ maxLen) : OkC .str (.s (.string s))
  | slice (ks : List CK) (rows : List (List DC)) (hn : rows.length ≤ maxLen) (hl : ∀ r ∈ rows, ks.length = r.length)
      (h : ∀ r ∈ rows, ∀ (j : Nat) (a : CK) (b : DC), ks[j]? = some a → r[j]? = some b → OkC a b) : OkC (.slice ks) (.list rows.length rows.flatten)

def OkCs (ks : List CK) (ds : List DC) : Prop := ks.length = ds.length ∧ ∀ (j : Nat) (a : CK) (b : DC), ks[j]? = some a → ds[j]? = some b → OkC a b

theorem OkCs.nil : OkCs [] [] := ⟨rfl, by simp⟩
theorem OkCs.cons {k : CK} {ks : List CK} {d : DC} {ds : List DC} (h : OkC k d) (t : OkCs ks ds) : OkCs (k :: ks) (d :: ds) := by
  refine ⟨by simp [t.1], fun j a b ha hb => ?_⟩
  cases j with
  | zero => simp at ha hb; subst ha hb; exact h
  | succ j => exact t.2 j a b (by simpa using ha) (by simpa using hb)
theorem okCs_nil {ds : List DC} (h : OkCs [] ds) : ds = [] := by
  have := h.1; simp at this; exact List.eq_nil_of_length_eq_zero this.symm
theorem okCs_cons {k : CK} {ks : List CK} {ds : List DC} (h : OkCs (k :: ks) ds) : ∃ d ds', ds = d :: ds' ∧ OkC k d ∧ OkCs ks ds' := by
  cases ds with
  | nil => have := h.1; simp at this
  | cons d ds' =>
    refine ⟨d, ds', rfl, h.2 0 _ _ rfl rfl, by have := h.1; simp at this; exact this, fun j a b ha hb => h.2 (j + 1) a b (by simpa using ha) (by simpa using hb)⟩
theorem OkCs.append {ks ls : List CK} {ds es : List DC} (h : OkCs ks ds) (g : OkCs ls es) : OkCs (ks ++ ls) (ds ++ es) := by
  refine ⟨by simp [h.1, g.1], fun j a b ha hb => ?_⟩
  by_cases hj : j < ks.length
  · rw [List.getElem?_append_left hj] at ha
    rw [List.getElem?_append_left (by rw [← h.1]; exact hj)] at hb
    exact h.2 j a b ha hb
  · rw [List.getElem?_append_right (by omega)] at ha
    rw [List.getElem?_append_right (by rw [← h.1]; omega), ← h.1] at hb
    exact g.2 _ a b ha hb
theorem okC_bool {d : DC} (h : OkC .bool d) : ∃ b, d = .s (.bool b) := by cases h; exact ⟨_, rfl⟩
theorem okC_int {k : IntKind} {d : DC} (h : OkC (.int k) d) : ∃ n, d = .s (.int k n) ∧ (Lit.int k n).wf = true := by cases h; exact ⟨_, rfl, by assumption⟩
theorem okC_str {d : DC} (h : OkC .str d) : ∃ s, d = .s (.string s) ∧ s.size ≤ maxLen := by cases h; exact ⟨_, rfl, by assumption⟩
theorem okC_slice {ks : List CK} {d : DC} (h : OkC (.slice ks) d) : ∃ rows : List (List DC), d = .list rows.length rows.flatten ∧ rows.length ≤ maxLen ∧ ∀ r ∈ rows, OkCs ks r := by
  cases h with
  | slice _ rows hn hl h => exact ⟨rows, rfl, hn, fun r hr => ⟨hl r hr, h r hr⟩⟩
/-- Rows that can each be written so can be written so together. -/
theorem rows_map {α : Type} {f : α → List DC} : ∀ {rows : List (List DC)}, (∀ r ∈ rows, ∃ x, r = f x) → ∃ xs : List α, rows = xs.map f
  | [], _ => ⟨[], rfl⟩
  | r :: rows, h => by
    obtain ⟨x, hx⟩ := h r (by simp)
    obtain ⟨xs, hxs⟩ := rows_map (rows := rows) fun r hr => h r (by simp [hr])
    exact ⟨x :: xs, by simp [hx, hxs]⟩
theorem rows_mapP {α : Type} {f : α → List DC} {p : α → Prop} : ∀ {rows : List (List DC)}, (∀ r ∈ rows, ∃ x, r = f x ∧ p x) → ∃ xs : List α, rows = xs.map f ∧ ∀ x ∈ xs, p x
  | [], _ => ⟨[], rfl, by simp⟩
  | r :: rows, h => by
    obtain ⟨x, hx, px⟩ := h r (by simp)
    obtain ⟨xs, hxs, pxs⟩ := rows_mapP (rows := rows) fun r hr => h r (by simp [hr])
    exact ⟨x :: xs, by simp [hx, hxs], by simp; exact ⟨px, pxs⟩⟩

def RelDs (w : World) (ds : List DC) (cs : List Value) : Prop := ds.length = cs.length ∧ ∀ (j : Nat) d v, ds[j]? = some d → cs[j]? = some v → RelD w (fun b => b < w.heap.size) d v

section
variable {H : Type} {enc : TypeId × Value → H} {P : Program} {w : World} {spare : Nat → Bool} {held : Bool}

theorem RelDs.append {ds es : List DC} {cs bs : List Value} (h : RelDs w ds cs) (g : RelDs w es bs) : RelDs w (ds ++ es) (cs ++ bs) := by
  refine ⟨by simp [h.1, g.1], fun j d v hd hv => ?_⟩
  by_cases hj : j < ds.length
  · rw [List.getElem?_append_left hj] at hd
    rw [List.getElem?_append_left (by rw [← h.1]; exact hj)] at hv
    exact h.2 j d v hd hv
  · rw [List.getElem?_append_right (by omega)] at hd
    rw [List.getElem?_append_right (by rw [← h.1]; omega), ← h.1] at hv
    exact g.2 _ d v hd hv
theorem relDs_one {d : DC} {v : Value} (h : RelD w (fun b => b < w.heap.size) d v) : RelDs w [d] [v] := by
  refine ⟨rfl, fun j d' v' hd hv => ?_⟩
  cases j with
  | zero => simp at hd hv; subst hd hv; exact h
  | succ j => simp at hd

/-- Choose a row for each number. -/
theorem choose_rows {α : Type} {p : Nat → α → Prop} : ∀ {n : Nat}, (∀ i, i < n → ∃ x, p i x) → ∃ xs : List α, xs.length = n ∧ ∀ i x, xs[i]? = some x → p i x
  | 0, _ => ⟨[], rfl, by simp⟩
  | n + 1, h => by
    obtain ⟨xs, hl, hx⟩ := choose_rows (n := n) fun i hi => h i (by omega)
    obtain ⟨x, px⟩ := h n (by omega)
    refine ⟨xs ++ [x], by simp [hl], fun i y hy => ?_⟩
    by_cases hi : i < xs.length
    · rw [List.getElem?_append_left hi] at hy; exact hx i y hy
    · rw [List.getElem?_append_right (by omega)] at hy
      have e : i - xs.length = 0 := by
        have := (List.getElem?_eq_some_iff.1 hy).1
        simp at this; omega
      rw [e] at hy
      simp at hy
      have : i = n := by omega
      subst this hy; exact px

theorem flatten_at {α : Type} {c : Nat} : ∀ {rows : List (List α)}, (∀ r ∈ rows, r.length = c) → ∀ (j : Nat) (x : α), rows.flatten[j]? = some x → ∃ i k r, j = i * c + k ∧ k < c ∧ rows[i]? = some r ∧ r[k]? = some x
  | [], _, j, x, h => by simp at h
  | r :: rows, hl, j, x, h => by
    have hr := hl r (by simp)
    rw [List.flatten_cons] at h
    by_cases hj : j < r.length
    · rw [List.getElem?_append_left hj] at h
      exact ⟨0, j, r, by omega, by omega, rfl, h⟩
    · rw [List.getElem?_append_right (by omega)] at h
      obtain ⟨i, k, r', e, hk, hi, hx⟩ := flatten_at (rows := rows) (fun r hr => hl r (by simp [hr])) _ _ h
      exact ⟨i + 1, k, r', by rw [Nat.add_mul]; omega, hk, by simpa using hi, hx⟩

theorem cell_lt {a : Addr} {v : Value} (h : w.cell? a = some v) : a.block < w.heap.size := by
  unfold World.cell? at h
  by_cases hb : a.block < w.heap.size
  · exact hb
  · have e : w.heap[a.block]? = none := Array.getElem?_eq_none (by omega)
    simp [e] at h

theorem fields_ok {K : TypeId → Option (List CK)} {cs : List Value} : ∀ (fs : List Field) (off : Nat) (ks : List CK),
    (∀ f ∈ fs, ∀ ks, K f.type = some ks → P.cellsOf f.type = ks.length → ∃ ds, OkCs ks ds ∧ RelDs w ds ((cs.drop f.offset).take (P.cellsOf f.type))) →
    fieldsK P K off fs = some ks → off ≤ cs.length → off + ks.length ≤ cs.length → ∃ ds, OkCs ks ds ∧ RelDs w ds ((cs.drop off).take ks.length)
  | [], off, ks, _, h, _, _ => by
    simp [fieldsK] at h; subst h
    exact ⟨[], OkCs.nil, by simp [RelDs]⟩
  | f :: rest, off, ks, hf, h, ho, hl => by
    unfold fieldsK at h
    split at h
    · rename_i hoff
      rw [Option.bind_eq_some_iff] at h
      obtain ⟨k1, hk1, h⟩ := h
      split at h
      · rename_i hc
        rw [Option.map_eq_some_iff] at h
        obtain ⟨k2, hk2, rfl⟩ := h
        simp at hl
        obtain ⟨d1, o1, r1⟩ := hf f (by simp) k1 hk1 hc
        obtain ⟨d2, o2, r2⟩ := fields_ok rest (off + k1.length) k2 (fun f hf' => hf f (by simp [hf'])) hk2 (by omega) (by omega)
        refine ⟨d1 ++ d2, o1.append o2, ?_⟩
        have e : (cs.drop off).take (k1 ++ k2).length = (cs.drop off).take k1.length ++ (cs.drop (off + k1.length)).take k2.length := by
          rw [List.length_append, List.take_add, List.drop_drop]
        rw [e]
        rw [hoff, hc] at r1
        exact r1.append r2
      · exact absurd h (by simp)
    · exact absurd h (by simp)

theorem array_ok {c : Nat} {ks : List CK} (hc : ks.length = c) {cs : List Value} : ∀ (m off : Nat), (∀ i, i < m → ∃ ds, OkCs ks ds ∧ RelDs w ds ((cs.drop (off + i * c)).take c)) → off + m * c ≤ cs.length →
    ∃ ds, OkCs (List.replicate m ks).flatten ds ∧ RelDs w ds ((cs.drop off).take (m * c))
  | 0, off, _, _ => ⟨[], OkCs.nil, by simp [RelDs]⟩
  | m + 1, off, h, hl => by
    obtain ⟨d1, o1, r1⟩ := h 0 (by omega)
    rw [Nat.add_mul] at hl
    obtain ⟨d2, o2, r2⟩ := array_ok hc (cs := cs) m (off + c) (fun i hi => by
      have := h (i + 1) (by omega)
      rw [Nat.add_mul, Nat.one_mul, show off + (i * c + c) = off + c + i * c by omega] at this
      exact this) (by omega)
    refine ⟨d1 ++ d2, by rw [List.replicate_succ, List.flatten_cons]; exact o1.append o2, ?_⟩
    have e : (cs.drop off).take ((m + 1) * c) = (cs.drop off).take c ++ (cs.drop (off + c)).take (m * c) := by
      rw [Nat.add_mul, Nat.one_mul, Nat.add_comm, List.take_add, List.drop_drop]
    rw [e]
    simp at r1
    exact r1.append r2

/-- What can be read as data reads so. -/
theorem trod_ok : ∀ (m n : Nat) (t : TypeId) (cs : List Value) (x : DataW H × List MemPlace) (ks : List CK),
    DataW.trod enc P w 0 spare held n t cs = some x → kindT P m t = some ks → ∃ ds, OkCs ks ds ∧ RelDs w ds cs
  | 0, _, _, _, _, _, _, hk => by simp [kindT] at hk
  | m + 1, n, t, cs, x, ks, h, hk => by
    unfold kindT at hk
    split at hk
    · rename_i ht
      obtain ⟨b, rfl, _⟩ := DataW.trod_bool ht h
      simp at hk; subst hk
      exact ⟨[.s (.bool b)], OkCs.cons (.bool b) OkCs.nil, relDs_one (.s rfl)⟩
    · rename_i k ht
      obtain ⟨i, rfl, _, hw⟩ := DataW.trod_int ht h
      simp at hk; subst hk
      exact ⟨[.s (.int k i)], OkCs.cons (.int k i hw) OkCs.nil, relDs_one (.s rfl)⟩
    · rename_i ht
      obtain ⟨s, rfl, _, hw⟩ := DataW.trod_string ht h
      simp at hk; subst hk
      exact ⟨[.s (.string s)], OkCs.cons (.str s hw) OkCs.nil, relDs_one (.s rfl)⟩
    · rename_i e ht
      rw [Option.bind_eq_some_iff] at hk
      obtain ⟨ke, hke, hk⟩ := hk
      split at hk
      · rename_i hc
        simp at hk; subst hk
        rcases DataW.trod_slice ht h with ⟨rfl, _⟩ | ⟨a, len, cap, elems, rest, n', rfl, rfl, _, _, hlc, hcm, hel, hat, _, _⟩
        · exact ⟨[.list 0 []], OkCs.cons (.slice ke [] (Nat.zero_le _) (by simp) (by simp)) OkCs.nil, relDs_one (.list (fun _ => undef) (by simp) (by simp) (Nat.le_refl _) (by simp [maxLen]))⟩
        · have each : ∀ i, i < len → ∃ r : List DC, OkCs ke r ∧ ∀ k d, r[k]? = some d → ∃ v, w.cell? (a.add (i * P.cellsOf e + k)) = some v ∧ RelD w (fun b => b < w.heap.size) d v := by
            intro i hi
            have h1 := hat i hi
            rw [List.getElem?_eq_getElem (by omega)] at h1
            rw [Option.bind_eq_some_iff] at h1
            obtain ⟨ci, hci, hti⟩ := h1
            obtain ⟨ds, hok, hrel⟩ := trod_ok m n' e ci _ ke hti hke
            obtain ⟨_, hlen, hcell⟩ := World.cells?_some hci
            refine ⟨ds, hok, fun k d hd => ?_⟩
            have hk : k < ds.length := (List.getElem?_eq_some_iff.1 hd).1
            have hk' : k < ci.length := by rw [← hrel.1]; exact hk
            refine ⟨ci[k], ?_, hrel.2 k d _ hd (List.getElem?_eq_getElem hk')⟩
            have := hcell k (by omega)
            rw [List.getElem?_eq_getElem hk'] at this
            rw [← this, add_add]
          obtain ⟨rows, hrl, hrows⟩ := choose_rows each
          have hlr : ∀ r ∈ rows, r.length = P.cellsOf e := by
            intro r hr
            obtain ⟨i, hi⟩ := List.getElem?_of_mem hr
            rw [hc, (hrows i r hi).1.1]
          have hcellj : ∀ j d, rows.flatten[j]? = some d → ∃ v, w.cell? (a.add j) = some v ∧ RelD w (fun b => b < w.heap.size) d v := by
            intro j d hd
            obtain ⟨i, k, r, e1, _, hi, hx⟩ := flatten_at hlr j d hd
            obtain ⟨v, h1, h2⟩ := (hrows i r hi).2 k d hx
            exact ⟨v, by rw [e1]; exact h1, h2⟩
          refine ⟨[.list rows.length rows.flatten], OkCs.cons (.slice ke rows (by omega) (fun r hr => by rw [hlr r hr, hc]) (fun r hr => by
              obtain ⟨i, hi⟩ := List.getElem?_of_mem hr
              exact (hrows i r hi).1.2)) OkCs.nil, relDs_one ?_⟩
          rw [hrl]
          refine .list (fun j => (w.cell? (a.add j)).getD undef) (fun hne => ⟨a, rfl, ?_, fun j hj => ?_⟩) (fun j hj => ?_) hlc hcm
          · have hp : 0 < rows.flatten.length := List.length_pos_iff.2 hne
            obtain ⟨v, h1, _⟩ := hcellj 0 _ (List.getElem?_eq_getElem hp)
            have := cell_lt h1
            rwa [add_block] at this
          · obtain ⟨v, h1, _⟩ := hcellj j _ (List.getElem?_eq_getElem hj)
            simp [h1]
          · obtain ⟨v, h1, h2⟩ := hcellj j _ (List.getElem?_eq_getElem hj)
            simpa [h1] using h2
      · exact absurd hk (by simp)
    · rename_i fs ht
      rw [Option.bind_eq_some_iff] at hk
      obtain ⟨ks', hk', hk⟩ := hk
      split at hk
      · rename_i hc
        simp at hk; subst hk
        obtain ⟨xs, n', _, _, hl, hxl, hf⟩ := DataW.trod_struct ht h
        obtain ⟨ds, ho, hr⟩ := fields_ok (w := w) (cs := cs) fs.toList 0 ks' (fun f hf' kf hkf hcf => by
          obtain ⟨i, hi⟩ := List.getElem?_of_mem hf'
          have hi' : fs[i]? = some f := by simpa using hi
          have h1 := hf i f hi'
          have hlt : i < xs.length := by
            rw [hxl]
            exact (Array.getElem?_eq_some_iff.1 hi').1
          rw [List.getElem?_eq_getElem hlt] at h1
          exact trod_ok m n' f.type _ _ kf h1 hkf) hk' (by omega) (by omega)
        refine ⟨ds, ho, ?_⟩
        have e : (cs.drop 0).take ks'.length = cs := by rw [← hc, ← hl]; simp
        rwa [e] at hr
      · exact absurd hk (by simp)
    · rename_i q e ht
      rw [Option.bind_eq_some_iff] at hk
      obtain ⟨ke, hke, hk⟩ := hk
      split at hk
      · rename_i hc
        simp at hk; subst hk
        obtain ⟨xs, n', _, _, hl, hxl, hf⟩ := DataW.trod_array ht h
        obtain ⟨ds, ho, hr⟩ := array_ok (w := w) (c := ke.length) rfl (cs := cs) q 0 (fun i hi => by
          have h1 := hf i hi
          rw [List.getElem?_eq_getElem (by omega), hc.1] at h1
          obtain ⟨ds, h2, h3⟩ := trod_ok m n' e _ _ ke h1 hke
          exact ⟨ds, h2, by simpa using h3⟩) (by omega)
        refine ⟨ds, ho, ?_⟩
        have e : (cs.drop 0).take (q * ke.length) = cs := by rw [← hc.2, ← hl]; simp
        rwa [e] at hr
      · exact absurd hk (by simp)
    · exact absurd hk (by simp)

/-- An argument as it is read. -/
def OkAV : Bool → List CK → AV → Prop
  | true, ks, x => ∃ ds, OkCs ks ds ∧ x = .agg (ds.map .d)
  | false, ks, x => ∃ d, OkCs ks [d] ∧ x = .one (.d d)

theorem relDs_cells {ds : List DC} {cs : List Value} (h : RelDs w ds cs) : RelCs w (baseE w) (ds.map .d) cs := by
  refine ⟨by simp [h.1], fun j c v hc hv => ?_⟩
  rw [List.getElem?_map, Option.map_eq_some_iff] at hc
  obtain ⟨d, hd, rfl⟩ := hc
  have := h.2 j d v hd hv
  exact ⟨this.oneCell, this⟩

theorem arg_rel {r : Reach} {b0 m : Nat} {t : TypeId} {v : Value} {d : DataW H} {p : List MemPlace} {ks : List CK} {agg : Bool} (ha : aggT P t = some agg) (hk : kindT P m t = some ks)
    (hv : Value.okWide P w r b0 t v) (hd : DataW.Trod enc P w 0 spare held t v d p) : ∃ x, OkAV agg ks x ∧ RelV w (baseE w) x v := by
  obtain ⟨fuel, hf⟩ := hd
  obtain ⟨ds, ho, hr⟩ := trod_ok m fuel t _ _ ks hf hk
  unfold aggT at ha
  rw [Option.map_eq_some_iff] at ha
  obtain ⟨u, hu, hagg⟩ := ha
  have hv' := hv
  unfold Value.okWide at hv'
  rw [hu] at hv'
  cases agg with
  | true =>
    have : ∃ cs, v = .agg cs := by
      split at hagg
      · obtain ⟨cs, h1, _⟩ := hv'; exact ⟨cs, h1⟩
      · obtain ⟨cs, h1, _⟩ := hv'; exact ⟨cs, h1⟩
      · exact absurd hagg (by simp)
    obtain ⟨cs, rfl⟩ := this
    refine ⟨.agg (ds.map .d), ⟨ds, ho, rfl⟩, cs.toList, by simp, ?_⟩
    simp [Value.cells] at hr
    exact relDs_cells hr
  | false =>
    have hone : ds.length = 1 → ∃ d, ds = [d] := fun h => by
      match ds, h with
      | [d], _ => exact ⟨d, rfl⟩
    have hcell : v.cells = #[v] := by
      cases v with
      | agg cs =>
        exfalso
        cases m with
        | zero => simp [kindT] at hk
        | succ m =>
          unfold kindT at hk
          rw [hu] at hk
          split at hagg
          · exact absurd hagg (by simp)
          · exact absurd hagg (by simp)
          · rename_i h1 h2
            cases u with
            | bool => obtain ⟨b, hb⟩ := Go.WideShapes.okWide_bool hu hv; exact absurd hb (by simp)
            | int k => obtain ⟨b, hb⟩ := Go.WideShapes.okWide_int hu hv; exact absurd hb (by simp)
            | string => obtain ⟨b, hb⟩ := Go.WideShapes.okWide_string hu hv; exact absurd hb (by simp)
            | slice e => obtain ⟨a, l, c, hb⟩ := Go.WideShapes.okWide_slice hu hv; exact absurd hb (by simp)
            | struct fs => exact h1 fs rfl
            | array n e => exact h2 n e rfl
            | _ => simp at hk
      | _ => rfl
    rw [hcell] at hr
    obtain ⟨d, rfl⟩ := hone (by have := hr.1; simpa using this)
    exact ⟨.one (.d d), ⟨d, ho, rfl⟩, hr.2 0 d v rfl rfl⟩
end
end Go.Abs
