/-
  Values as the statements' rows hold them, and readings of answers. No program's text.
-/
import Derived.Test.YtiogdfliailenaaK3
import Derived.Below
import Derived.ChangeArms
import Derived.OpenShut
import Derived.WideShapes
import Derived.DataReads
import Derived.ChangeOld
import Derived.LaidMore
namespace Go.Abs
set_option linter.unusedSimpArgs false
set_option linter.unusedVariables false
set_option linter.unnecessarySimpa false
open Go Go.RowKit

/-- Where a call is looked at from: all that is there may be read, nothing may be written. -/
def baseE (w : World) : Env := ⟨fun b => b < w.heap.size, [], 0⟩
theorem baseSim (w : World) (hg : ∀ (g : Nat) (cs : List DC), globT g = some cs → RelD w (baseE w).I (.rptr cs) (.pointer (some ⟨g, 0, none⟩))) : SimH w (baseE w) [] := ⟨rfl, fun k i h => by simp [baseE] at h, fun _ h => h, fun k B h => by simp at h, fun k k' B B' i i' b h => by simp at h, hg⟩

theorem rel_int (w : World) (E : Env) (k : IntKind) (n : Int) : RelV w E (.one (.d (.s (.int k n)))) (.int k n) := RelD.s rfl
theorem rel_bool (w : World) (E : Env) (b : Bool) : RelV w E (.one (.d (.s (.bool b)))) (.bool b) := RelD.s rfl

theorem relVs_nil (w : World) (E : Env) : RelVs w E [] [] := ⟨rfl, fun j x v h => by simp at h⟩
theorem relVs_cons {w : World} {E : Env} {x : AV} {v : Value} {xs : List AV} {vs : List Value} (h : RelV w E x v) (k : RelVs w E xs vs) : RelVs w E (x :: xs) (v :: vs) :=
  ⟨by simp [k.1], fun j y u hy hu => by
    match j with
    | 0 => simp at hy hu; subst hy; subst hu; exact h
    | j + 1 => exact k.2 j y u (by simpa using hy) (by simpa using hu)⟩

theorem true_of_fcall {P : Program} {f : FuncId} {args : List AV} (h : FCall P f args fun r H => r = .one (.d (.s (.bool true))) ∧ H = []) (w : World)
    (hg : ∀ (g : Nat) (cs : List DC), globT g = some cs → RelD w (baseE w).I (.rptr cs) (.pointer (some ⟨g, 0, none⟩))) (vals : List Value)
    (hr : RelVs w (baseE w) args vals) : Calls P f vals.toArray w fun e w' => e = .returned (.bool true) ∧ Below w.heap.size w w' := by
  refine (h 0 w (baseE w) vals rfl (baseSim w hg) hr).mono fun e w' ⟨v, r, H', E', he, _, _, hrel, hfrm, _, _, _, _, hr', _⟩ => ?_
  subst hr'
  cases hrel with
  | s hs => exact ⟨he, hfrm.os, hfrm.tape, hfrm.output.out, hfrm.size, fun k hk => hfrm.block k hk (fun ⟨k', B, i, hb, _⟩ => by simp at hb)⟩

/-- Bytes that came in. -/
theorem row_bytes {w : World} {a : Option Addr} {len cap : Nat} {zs : List Int}
    (h : (a = none ∧ len = 0 ∧ cap = 0 ∧ zs = []) ∨
      ∃ x, a = some x ∧ len ≤ cap ∧ cap ≤ maxLen ∧ zs.length = cap ∧ (∀ i, i < zs.length → w.cell? (x.add i) = some (.int .u8 (zs.getD i 0))) ∧ ∀ n ∈ zs, (Lit.int .u8 n).wf = true) :
    ∃ bs : List UInt8, bs.length = len ∧ RelV w (baseE w) (blist bs) (.slice a len cap) := by
  rcases h with ⟨rfl, rfl, rfl, rfl⟩ | ⟨x, rfl, hl, hc, hz, hcell, hwf⟩
  · exact ⟨[], rfl, RelD.list (fun _ => .bool true) (fun h => absurd rfl h) (fun j h => by simp at h) (by simp) (by simp)⟩
  · refine ⟨(zs.take len).map fun z => UInt8.ofNat z.toNat, by simp; omega, ?_⟩
    have hlen : ((zs.take len).map fun z => UInt8.ofNat z.toNat).length = len := by simp; omega
    rw [blist, hlen]
    refine RelD.list (fun j => .int .u8 (zs.getD j 0)) (fun hne => ⟨x, rfl, ?_, fun j hj => hcell j ?_⟩) (fun j hj => ?_) hl hc
    · have h0 : 0 < zs.length := by
        rcases Nat.eq_zero_or_pos zs.length with h | h
        · exact absurd (by rw [List.length_eq_zero_iff] at h; subst h; simp) hne
        · exact h
      have := hcell 0 h0
      unfold World.cell? at this
      rw [add_block] at this
      show x.block < w.heap.size
      rcases Nat.lt_or_ge x.block w.heap.size with h | h
      · exact h
      · rw [Array.getElem?_eq_none h] at this; simp at this
    · rw [bds_length, hlen] at hj; omega
    · rw [bds_length, hlen] at hj
      have hjz : j < zs.length := by omega
      have hm := hwf zs[j] (List.getElem_mem hjz)
      have hr : 0 ≤ zs[j] ∧ zs[j] < 256 := by
        have hm' : (decide ((0 : Int) ≤ zs[j]) && decide (zs[j] ≤ 255)) = true := hm
        simp at hm'
        omega
      have e : (bds ((zs.take len).map fun z => UInt8.ofNat z.toNat))[j]'(by rw [bds_length, hlen]; exact hj) = .s (.int .u8 (zs.getD j 0)) := by
        simp [bds, hjz, UInt8.toNat_ofNat']
        omega
      rw [e]
      exact RelD.s rfl
end Go.Abs
namespace Go.Abs
set_option linter.unusedSimpArgs false
set_option linter.unusedVariables false
set_option linter.unnecessarySimpa false
open Go Go.RowKit

/-- What a cell can be. -/
inductive CK where
  | bool
  | int (k : IntKind)
  | str
  | slice (ks : List CK)

/-- The cells of a struct's fields, one behind the other. -/
def fieldsK (P : Program) (K : TypeId → Option (List CK)) : Nat → List Field → Option (List CK)
  | _, [] => some []
  | off, f :: rest => if f.offset = off then (K f.type).bind fun ks => if P.cellsOf f.type = ks.length then (fieldsK P K (off + ks.length) rest).map (ks ++ ·) else none else none

def kindT (P : Program) : Nat → TypeId → Option (List CK)
  | 0, _ => none
  | n + 1, t => match P.underlying t with
    | some .bool => some [.bool]
    | some (.int k) => some [.int k]
    | some .string => some [.str]
    | some (.slice e) => (kindT P n e).bind fun ks => if P.cellsOf e = ks.length then some [.slice ks] else none
    | some (.struct fs) => (fieldsK P (kindT P n) 0 fs.toList).bind fun ks => if P.cellsOf t = ks.length then some ks else none
    | some (.array m e) => (kindT P n e).bind fun ks => if P.cellsOf e = ks.length ∧ P.cellsOf t = m * ks.length then some (List.replicate m ks).flatten else none
    | _ => none

inductive OkC : CK → DC → Prop where
  | bool (b : Bool) : OkC .bool (.s (.bool b))
  | int (k : IntKind) (n : Int) (h : (Lit.int k n).wf = true) : OkC (.int k) (.s (.int k n))
  | str (s : ByteArray) (h : s.size ≤ maxLen) : OkC .str (.s (.string s))
  | slice (ks : List CK) (rows : List (List DC)) (hn : rows.length ≤ maxLen) (hl : ∀ r ∈ rows, ks.length = r.length)
      (h : ∀ r ∈ rows, ∀ (j : Nat) (a : CK) (b : DC), ks[j]? = some a → r[j]? = some b → OkC a b) : OkC (.slice ks) (.list rows.length rows.flatten)

def OkCs (ks : List CK) (ds : List DC) : Prop := ks.length = ds.length ∧ ∀ (j : Nat) (a : CK) (b : DC), ks[j]? = some a → ds[j]? = some b → OkC a b

theorem OkCs.nil : OkCs [] [] := ⟨rfl, by simp⟩
theorem OkCs.cons {k : CK} {ks : List CK} {d : DC} {ds : List DC} (h : OkC k d) (t : OkCs ks ds) : OkCs (k :: ks) (d :: ds) := by
  refine ⟨by simp [t.1], fun j a b ha hb => ?_⟩
  cases j with
  | zero => simp at ha hb; subst ha hb; exact h
  | succ j => exact t.2 j a b (by simpa using ha) (by simpa using hb)
theorem okCs_nil {ds : List DC} (h : OkCs [] ds) : ds = [] := by
  have := h.1; simp at this; exact List.eq_nil_of_length_eq_zero this.symm
theorem okCs_cons {k : CK} {ks : List CK} {ds : List DC} (h : OkCs (k :: ks) ds) : ∃ d ds', ds = d :: ds' ∧ OkC k d ∧ OkCs ks ds' := by
  cases ds with
  | nil => have := h.1; simp at this
  | cons d ds' =>
    refine ⟨d, ds', rfl, h.2 0 _ _ rfl rfl, by have := h.1; simp at this; exact this, fun j a b ha hb => h.2 (j + 1) a b (by simpa using ha) (by simpa using hb)⟩
theorem OkCs.append {ks ls : List CK} {ds es : List DC} (h : OkCs ks ds) (g : OkCs ls es) : OkCs (ks ++ ls) (ds ++ es) := by
  refine ⟨by simp [h.1, g.1], fun j a b ha hb => ?_⟩
  by_cases hj : j < ks.length
  · rw [List.getElem?_append_left hj] at ha
    rw [List.getElem?_append_left (by rw [← h.1]; exact hj)] at hb
    exact h.2 j a b ha hb
  · rw [List.getElem?_append_right (by omega)] at ha
    rw [List.getElem?_append_right (by rw [← h.1]; omega), ← h.1] at hb
    exact g.2 _ a b ha hb
theorem okC_bool {d : DC} (h : OkC .bool d) : ∃ b, d = .s (.bool b) := by cases h; exact ⟨_, rfl⟩
theorem okC_int {k : IntKind} {d : DC} (h : OkC (.int k) d) : ∃ n, d = .s (.int k n) ∧ (Lit.int k n).wf = true := by cases h; exact ⟨_, rfl, by assumption⟩
theorem okC_str {d : DC} (h : OkC .str d) : ∃ s, d = .s (.string s) ∧ s.size ≤ maxLen := by cases h; exact ⟨_, rfl, by assumption⟩
theorem okC_slice {ks : List CK} {d : DC} (h : OkC (.slice ks) d) : ∃ rows : List (List DC), d = .list rows.length rows.flatten ∧ rows.length ≤ maxLen ∧ ∀ r ∈ rows, OkCs ks r := by
  cases h with
  | slice _ rows hn hl h => exact ⟨rows, rfl, hn, fun r hr => ⟨hl r hr, h r hr⟩⟩
/-- Rows that can each be written so can be written so together. -/
theorem rows_map {α : Type} {f : α → List DC} : ∀ {rows : List (List DC)}, (∀ r ∈ rows, ∃ x, r = f x) → ∃ xs : List α, rows = xs.map f
  | [], _ => ⟨[], rfl⟩
  | r :: rows, h => by
    obtain ⟨x, hx⟩ := h r (by simp)
    obtain ⟨xs, hxs⟩ := rows_map (rows := rows) fun r hr => h r (by simp [hr])
    exact ⟨x :: xs, by simp [hx, hxs]⟩
theorem rows_mapP {α : Type} {f : α → List DC} {p : α → Prop} : ∀ {rows : List (List DC)}, (∀ r ∈ rows, ∃ x, r = f x ∧ p x) → ∃ xs : List α, rows = xs.map f ∧ ∀ x ∈ xs, p x
  | [], _ => ⟨[], rfl, by simp⟩
  | r :: rows, h => by
    obtain ⟨x, hx, px⟩ := h r (by simp)
    obtain ⟨xs, hxs, pxs⟩ := rows_mapP (rows := rows) fun r hr => h r (by simp [hr])
    exact ⟨x :: xs, by simp [hx, hxs], by simp; exact ⟨px, pxs⟩⟩

def RelDs (w : World) (ds : List DC) (cs : List Value) : Prop := ds.length = cs.length ∧ ∀ (j : Nat) d v, ds[j]? = some d → cs[j]? = some v → RelD w (fun b => b < w.heap.size) d v

section
variable {H : Type} {enc : TypeId × Value → H} {P : Program} {w : World} {spare : Nat → Bool} {held : Bool}

theorem RelDs.append {ds es : List DC} {cs bs : List Value} (h : RelDs w ds cs) (g : RelDs w es bs) : RelDs w (ds ++ es) (cs ++ bs) := by
  refine ⟨by simp [h.1, g.1], fun j d v hd hv => ?_⟩
  by_cases hj : j < ds.length
  · rw [List.getElem?_append_left hj] at hd
    rw [List.getElem?_append_left (by rw [← h.1]; exact hj)] at hv
    exact h.2 j d v hd hv
  · rw [List.getElem?_append_right (by omega)] at hd
    rw [List.getElem?_append_right (by rw [← h.1]; omega), ← h.1] at hv
    exact g.2 _ d v hd hv
theorem relDs_one {d : DC} {v : Value} (h : RelD w (fun b => b < w.heap.size) d v) : RelDs w [d] [v] := by
  refine ⟨rfl, fun j d' v' hd hv => ?_⟩
  cases j with
  | zero => simp at hd hv; subst hd hv; exact h
  | succ j => simp at hd

/-- Choose a row for each number. -/
theorem choose_rows {α : Type} {p : Nat → α → Prop} : ∀ {n : Nat}, (∀ i, i < n → ∃ x, p i x) → ∃ xs : List α, xs.length = n ∧ ∀ i x, xs[i]? = some x → p i x
  | 0, _ => ⟨[], rfl, by simp⟩
  | n + 1, h => by
    obtain ⟨xs, hl, hx⟩ := choose_rows (n := n) fun i hi => h i (by omega)
    obtain ⟨x, px⟩ := h n (by omega)
    refine ⟨xs ++ [x], by simp [hl], fun i y hy => ?_⟩
    by_cases hi : i < xs.length
    · rw [List.getElem?_append_left hi] at hy; exact hx i y hy
    · rw [List.getElem?_append_right (by omega)] at hy
      have e : i - xs.length = 0 := by
        have := (List.getElem?_eq_some_iff.1 hy).1
        simp at this; omega
      rw [e] at hy
      simp at hy
      have : i = n := by omega
      subst this hy; exact px

theorem flatten_at {α : Type} {c : Nat} : ∀ {rows : List (List α)}, (∀ r ∈ rows, r.length = c) → ∀ (j : Nat) (x : α), rows.flatten[j]? = some x → ∃ i k r, j = i * c + k ∧ k < c ∧ rows[i]? = some r ∧ r[k]? = some x
  | [], _, j, x, h => by simp at h
  | r :: rows, hl, j, x, h => by
    have hr := hl r (by simp)
    rw [List.flatten_cons] at h
    by_cases hj : j < r.length
    · rw [List.getElem?_append_left hj] at h
      exact ⟨0, j, r, by omega, by omega, rfl, h⟩
    · rw [List.getElem?_append_right (by omega)] at h
      obtain ⟨i, k, r', e, hk, hi, hx⟩ := flatten_at (rows := rows) (fun r hr => hl r (by simp [hr])) _ _ h
      exact ⟨i + 1, k, r', by rw [Nat.add_mul]; omega, hk, by simpa using hi, hx⟩

theorem cell_lt {a : Addr} {v : Value} (h : w.cell? a = some v) : a.block < w.heap.size := by
  unfold World.cell? at h
  by_cases hb : a.block < w.heap.size
  · exact hb
  · have e : w.heap[a.block]? = none := Array.getElem?_eq_none (by omega)
    simp [e] at h

theorem fields_ok {K : TypeId → Option (List CK)} {cs : List Value} : ∀ (fs : List Field) (off : Nat) (ks : List CK),
    (∀ f ∈ fs, ∀ ks, K f.type = some ks → P.cellsOf f.type = ks.length → ∃ ds, OkCs ks ds ∧ RelDs w ds ((cs.drop f.offset).take (P.cellsOf f.type))) →
    fieldsK P K off fs = some ks → off ≤ cs.length → off + ks.length ≤ cs.length → ∃ ds, OkCs ks ds ∧ RelDs w ds ((cs.drop off).take ks.length)
  | [], off, ks, _, h, _, _ => by
    simp [fieldsK] at h; subst h
    exact ⟨[], OkCs.nil, by simp [RelDs]⟩
  | f :: rest, off, ks, hf, h, ho, hl => by
    unfold fieldsK at h
    split at h
    · rename_i hoff
      rw [Option.bind_eq_some_iff] at h
      obtain ⟨k1, hk1, h⟩ := h
      split at h
      · rename_i hc
        rw [Option.map_eq_some_iff] at h
        obtain ⟨k2, hk2, rfl⟩ := h
        simp at hl
        obtain ⟨d1, o1, r1⟩ := hf f (by simp) k1 hk1 hc
        obtain ⟨d2, o2, r2⟩ := fields_ok rest (off + k1.length) k2 (fun f hf' => hf f (by simp [hf'])) hk2 (by omega) (by omega)
        refine ⟨d1 ++ d2, o1.append o2, ?_⟩
        have e : (cs.drop off).take (k1 ++ k2).length = (cs.drop off).take k1.length ++ (cs.drop (off + k1.length)).take k2.length := by
          rw [List.length_append, List.take_add, List.drop_drop]
        rw [e]
        rw [hoff, hc] at r1
        exact r1.append r2
      · exact absurd h (by simp)
    · exact absurd h (by simp)

theorem array_ok {c : Nat} {ks : List CK} (hc : ks.length = c) {cs : List Value} : ∀ (m off : Nat), (∀ i, i < m → ∃ ds, OkCs ks ds ∧ RelDs w ds ((cs.drop (off + i * c)).take c)) → off + m * c ≤ cs.length →
    ∃ ds, OkCs (List.replicate m ks).flatten ds ∧ RelDs w ds ((cs.drop off).take (m * c))
  | 0, off, _, _ => ⟨[], OkCs.nil, by simp [RelDs]⟩
  | m + 1, off, h, hl => by
    obtain ⟨d1, o1, r1⟩ := h 0 (by omega)
    rw [Nat.add_mul] at hl
    obtain ⟨d2, o2, r2⟩ := array_ok hc (cs := cs) m (off + c) (fun i hi => by
      have := h (i + 1) (by omega)
      rw [Nat.add_mul, Nat.one_mul, show off + (i * c + c) = off + c + i * c by omega] at this
      exact this) (by omega)
    refine ⟨d1 ++ d2, by rw [List.replicate_succ, List.flatten_cons]; exact o1.append o2, ?_⟩
    have e : (cs.drop off).take ((m + 1) * c) = (cs.drop off).take c ++ (cs.drop (off + c)).take (m * c) := by
      rw [Nat.add_mul, Nat.one_mul, Nat.add_comm, List.take_add, List.drop_drop]
    rw [e]
    simp at r1
    exact r1.append r2

/-- What can be read as data reads so. -/
theorem trod_ok : ∀ (m n : Nat) (t : TypeId) (cs : List Value) (x : DataW H × List MemPlace) (ks : List CK),
    DataW.trod enc P w 0 spare held n t cs = some x → kindT P m t = some ks → ∃ ds, OkCs ks ds ∧ RelDs w ds cs
  | 0, _, _, _, _, _, _, hk => by simp [kindT] at hk
  | m + 1, n, t, cs, x, ks, h, hk => by
    unfold kindT at hk
    split at hk
    · rename_i ht
      obtain ⟨b, rfl, _⟩ := DataW.trod_bool ht h
      simp at hk; subst hk
      exact ⟨[.s (.bool b)], OkCs.cons (.bool b) OkCs.nil, relDs_one (.s rfl)⟩
    · rename_i k ht
      obtain ⟨i, rfl, _, hw⟩ := DataW.trod_int ht h
      simp at hk; subst hk
      exact ⟨[.s (.int k i)], OkCs.cons (.int k i hw) OkCs.nil, relDs_one (.s rfl)⟩
    · rename_i ht
      obtain ⟨s, rfl, _, hw⟩ := DataW.trod_string ht h
      simp at hk; subst hk
      exact ⟨[.s (.string s)], OkCs.cons (.str s hw) OkCs.nil, relDs_one (.s rfl)⟩
    · rename_i e ht
      rw [Option.bind_eq_some_iff] at hk
      obtain ⟨ke, hke, hk⟩ := hk
      split at hk
      · rename_i hc
        simp at hk; subst hk
        rcases DataW.trod_slice ht h with ⟨rfl, _⟩ | ⟨a, len, cap, elems, rest, n', rfl, rfl, _, _, hlc, hcm, hel, hat, _, _⟩
        · exact ⟨[.list 0 []], OkCs.cons (.slice ke [] (Nat.zero_le _) (by simp) (by simp)) OkCs.nil, relDs_one (.list (fun _ => undef) (by simp) (by simp) (Nat.le_refl _) (by simp [maxLen]))⟩
        · have each : ∀ i, i < len → ∃ r : List DC, OkCs ke r ∧ ∀ k d, r[k]? = some d → ∃ v, w.cell? (a.add (i * P.cellsOf e + k)) = some v ∧ RelD w (fun b => b < w.heap.size) d v := by
            intro i hi
            have h1 := hat i hi
            rw [List.getElem?_eq_getElem (by omega)] at h1
            rw [Option.bind_eq_some_iff] at h1
            obtain ⟨ci, hci, hti⟩ := h1
            obtain ⟨ds, hok, hrel⟩ := trod_ok m n' e ci _ ke hti hke
            obtain ⟨_, hlen, hcell⟩ := World.cells?_some hci
            refine ⟨ds, hok, fun k d hd => ?_⟩
            have hk : k < ds.length := (List.getElem?_eq_some_iff.1 hd).1
            have hk' : k < ci.length := by rw [← hrel.1]; exact hk
            refine ⟨ci[k], ?_, hrel.2 k d _ hd (List.getElem?_eq_getElem hk')⟩
            have := hcell k (by omega)
            rw [List.getElem?_eq_getElem hk'] at this
            rw [← this, add_add]
          obtain ⟨rows, hrl, hrows⟩ := choose_rows each
          have hlr : ∀ r ∈ rows, r.length = P.cellsOf e := by
            intro r hr
            obtain ⟨i, hi⟩ := List.getElem?_of_mem hr
            rw [hc, (hrows i r hi).1.1]
          have hcellj : ∀ j d, rows.flatten[j]? = some d → ∃ v, w.cell? (a.add j) = some v ∧ RelD w (fun b => b < w.heap.size) d v := by
            intro j d hd
            obtain ⟨i, k, r, e1, _, hi, hx⟩ := flatten_at hlr j d hd
            obtain ⟨v, h1, h2⟩ := (hrows i r hi).2 k d hx
            exact ⟨v, by rw [e1]; exact h1, h2⟩
          refine ⟨[.list rows.length rows.flatten], OkCs.cons (.slice ke rows (by omega) (fun r hr => by rw [hlr r hr, hc]) (fun r hr => by
              obtain ⟨i, hi⟩ := List.getElem?_of_mem hr
              exact (hrows i r hi).1.2)) OkCs.nil, relDs_one ?_⟩
          rw [hrl]
          refine .list (fun j => (w.cell? (a.add j)).getD undef) (fun hne => ⟨a, rfl, ?_, fun j hj => ?_⟩) (fun j hj => ?_) hlc hcm
          · have hp : 0 < rows.flatten.length := List.length_pos_iff.2 hne
            obtain ⟨v, h1, _⟩ := hcellj 0 _ (List.getElem?_eq_getElem hp)
            have := cell_lt h1
            rwa [add_block] at this
          · obtain ⟨v, h1, _⟩ := hcellj j _ (List.getElem?_eq_getElem hj)
            simp [h1]
          · obtain ⟨v, h1, h2⟩ := hcellj j _ (List.getElem?_eq_getElem hj)
            simpa [h1] using h2
      · exact absurd hk (by simp)
    · rename_i fs ht
      rw [Option.bind_eq_some_iff] at hk
      obtain ⟨ks', hk', hk⟩ := hk
      split at hk
      · rename_i hc
        simp at hk; subst hk
        obtain ⟨xs, n', _, _, hl, hxl, hf⟩ := DataW.trod_struct ht h
        obtain ⟨ds, ho, hr⟩ := fields_ok (w := w) (cs := cs) fs.toList 0 ks' (fun f hf' kf hkf hcf => by
          obtain ⟨i, hi⟩ := List.getElem?_of_mem hf'
          have hi' : fs[i]? = some f := by simpa using hi
          have h1 := hf i f hi'
          have hlt : i < xs.length := by
            rw [hxl]
            exact (Array.getElem?_eq_some_iff.1 hi').1
          rw [List.getElem?_eq_getElem hlt] at h1
          exact trod_ok m n' f.type _ _ kf h1 hkf) hk' (by omega) (by omega)
        refine ⟨ds, ho, ?_⟩
        have e : (cs.drop 0).take ks'.length = cs := by rw [← hc, ← hl]; simp
        rwa [e] at hr
      · exact absurd hk (by simp)
    · rename_i q e ht
      rw [Option.bind_eq_some_iff] at hk
      obtain ⟨ke, hke, hk⟩ := hk
      split at hk
      · rename_i hc
        simp at hk; subst hk
        obtain ⟨xs, n', _, _, hl, hxl, hf⟩ := DataW.trod_array ht h
        obtain ⟨ds, ho, hr⟩ := array_ok (w := w) (c := ke.length) rfl (cs := cs) q 0 (fun i hi => by
          have h1 := hf i hi
          rw [List.getElem?_eq_getElem (by omega), hc.1] at h1
          obtain ⟨ds, h2, h3⟩ := trod_ok m n' e _ _ ke h1 hke
          exact ⟨ds, h2, by simpa using h3⟩) (by omega)
        refine ⟨ds, ho, ?_⟩
        have e : (cs.drop 0).take (q * ke.length) = cs := by rw [← hc.2, ← hl]; simp
        rwa [e] at hr
      · exact absurd hk (by simp)
    · exact absurd hk (by simp)

/-- An argument as it is read. -/
def OkAV : Bool → List CK → AV → Prop
  | true, ks, x => ∃ ds, OkCs ks ds ∧ x = .agg (ds.map .d)
  | false, ks, x => ∃ d, OkCs ks [d] ∧ x = .one (.d d)

theorem relDs_cells {ds : List DC} {cs : List Value} (h : RelDs w ds cs) : RelCs w (baseE w) (ds.map .d) cs := by
  refine ⟨by simp [h.1], fun j c v hc hv => ?_⟩
  rw [List.getElem?_map, Option.map_eq_some_iff] at hc
  obtain ⟨d, hd, rfl⟩ := hc
  have := h.2 j d v hd hv
  exact ⟨this.oneCell, this⟩

theorem arg_rel {r : Reach} {b0 m : Nat} {t : TypeId} {v : Value} {d : DataW H} {p : List MemPlace} {ks : List CK} {agg : Bool} (ha : aggT P t = some agg) (hk : kindT P m t = some ks)
    (hv : Value.okWide P w r b0 t v) (hd : DataW.Trod enc P w 0 spare held t v d p) : ∃ x, OkAV agg ks x ∧ RelV w (baseE w) x v := by
  obtain ⟨fuel, hf⟩ := hd
  obtain ⟨ds, ho, hr⟩ := trod_ok m fuel t _ _ ks hf hk
  unfold aggT at ha
  rw [Option.map_eq_some_iff] at ha
  obtain ⟨u, hu, hagg⟩ := ha
  have hv' := hv
  unfold Value.okWide at hv'
  rw [hu] at hv'
  cases agg with
  | true =>
    have : ∃ cs, v = .agg cs := by
      split at hagg
      · obtain ⟨cs, h1, _⟩ := hv'; exact ⟨cs, h1⟩
      · obtain ⟨cs, h1, _⟩ := hv'; exact ⟨cs, h1⟩
      · exact absurd hagg (by simp)
    obtain ⟨cs, rfl⟩ := this
    refine ⟨.agg (ds.map .d), ⟨ds, ho, rfl⟩, cs.toList, by simp, ?_⟩
    simp [Value.cells] at hr
    exact relDs_cells hr
  | false =>
    have hone : ds.length = 1 → ∃ d, ds = [d] := fun h => by
      match ds, h with
      | [d], _ => exact ⟨d, rfl⟩
    have hcell : v.cells = #[v] := by
      cases v with
      | agg cs =>
        exfalso
        cases m with
        | zero => simp [kindT] at hk
        | succ m =>
          unfold kindT at hk
          rw [hu] at hk
          split at hagg
          · exact absurd hagg (by simp)
          · exact absurd hagg (by simp)
          · rename_i h1 h2
            cases u with
            | bool => obtain ⟨b, hb⟩ := Go.WideShapes.okWide_bool hu hv; exact absurd hb (by simp)
            | int k => obtain ⟨b, hb⟩ := Go.WideShapes.okWide_int hu hv; exact absurd hb (by simp)
            | string => obtain ⟨b, hb⟩ := Go.WideShapes.okWide_string hu hv; exact absurd hb (by simp)
            | slice e => obtain ⟨a, l, c, hb⟩ := Go.WideShapes.okWide_slice hu hv; exact absurd hb (by simp)
            | struct fs => exact h1 fs rfl
            | array n e => exact h2 n e rfl
            | _ => simp at hk
      | _ => rfl
    rw [hcell] at hr
    obtain ⟨d, rfl⟩ := hone (by have := hr.1; simpa using this)
    exact ⟨.one (.d d), ⟨d, ho, rfl⟩, hr.2 0 d v rfl rfl⟩
end
end Go.Abs
namespace Go.Abs
set_option linter.unusedSimpArgs false
set_option linter.unusedVariables false
set_option linter.unnecessarySimpa false
open Go

def eqV : Value → Value → Bool
  | .int _ a, .int _ b => decide (a = b)
  | .bool a, .bool b => a == b
  | .string a, .string b => a == b
  | _, _ => false
def eqVs : List Value → List Value → Bool
  | a :: as, b :: bs => eqV a b && eqVs as bs
  | _, _ => true
def ScalK : CK → Value → Bool
  | .int k, .int k' _ => decide (k = k')
  | .bool, .bool _ => true
  | .str, .string _ => true
  | _, _ => false
def ScalKs : List CK → List Value → Bool
  | [], [] => true
  | k :: ks, v :: vs => ScalK k v && ScalKs ks vs
  | _, _ => false
/-- The kinds of a type's cells, where '==' goes by them alone. -/
def eqFields (P : Program) (K : TypeId → Option (Bool × List CK)) : Nat → List Field → Option (List CK)
  | _, [] => some []
  | off, f :: rest => if f.offset = off ∧ f.name ≠ "_" then (K f.type).bind fun q => if szOf P f.type = some q.2.length ∧ aggT P f.type = some q.1 then (eqFields P K (off + q.2.length) rest).map (q.2 ++ ·) else none else none
def eqT (P : Program) : Nat → TypeId → Option (Bool × List CK)
  | 0, _ => none
  | n + 1, t => match P.underlying t with
    | some .bool => some (false, [.bool])
    | some (.int k) => some (false, [.int k])
    | some .string => some (false, [.str])
    | some (.struct fs) => if P.stoodInHeld t then none else (eqFields P (eqT P n) 0 fs.toList).map fun ks => (true, ks)
    | _ => none
def ofCells (agg : Bool) (vs : List Value) : Value := if agg then .agg vs.toArray else vs.headD undef

attribute [simp] eqV eqVs
theorem eqVs_append : ∀ {a b c d : List Value}, a.length = b.length → eqVs (a ++ c) (b ++ d) = (eqVs a b && eqVs c d)
  | [], [], c, d, _ => by simp [eqVs]
  | x :: a, y :: b, c, d, h => by
    simp [eqVs, eqVs_append (a := a) (b := b) (c := c) (d := d) (by simpa using h), Bool.and_assoc]
theorem scalKs_length : ∀ {ks : List CK} {vs : List Value}, ScalKs ks vs = true → ks.length = vs.length
  | [], [], _ => rfl
  | k :: ks, v :: vs, h => by
    simp [ScalKs] at h
    simp [scalKs_length h.2]
theorem scalKs_split : ∀ {ks ls : List CK} {vs : List Value}, ScalKs (ks ++ ls) vs = true → ScalKs ks (vs.take ks.length) = true ∧ ScalKs ls (vs.drop ks.length) = true
  | [], ls, vs, h => by simpa [ScalKs] using h
  | k :: ks, ls, [], h => by simp [ScalKs] at h
  | k :: ks, ls, v :: vs, h => by
    simp [ScalKs] at h ⊢
    have := scalKs_split (ks := ks) h.2
    exact ⟨⟨h.1, this.1⟩, this.2⟩
theorem run_stood {P : Program} {t : TypeId} {w : World} {α : Type} (k : Program → Sem α) : (do let p ← program; k p).run P w = (k P).run P w := rfl

theorem run_part {P : Program} {t : TypeId} {agg : Bool} {n off : Nat} {vs : List Value} (ha : aggT P t = some agg) (hn : szOf P t = some n) (hl : off + n ≤ vs.length) (h1 : agg = false → n = 1) (w : World) :
    (part t vs.toArray off).run P w = .ok (ofCells agg ((vs.drop off).take n)) w := by
  unfold part
  cases agg with
  | true =>
    simp [run_isAgg ha, run_sizeOf hn, ofCells]
  | false =>
    have := h1 rfl
    subst this
    have hlt : off < vs.length := by omega
    simp [run_isAgg ha, ofCells, List.getElem?_eq_getElem hlt]
    have e : (vs.drop off).take 1 = [vs[off]] := by
      rw [List.drop_eq_getElem_cons hlt]; rfl
    rw [e]; simp
theorem scal1_int {k : IntKind} {vs : List Value} (h : ScalKs [.int k] vs = true) : ∃ a, vs = [.int k a] := by
  match vs, h with
  | [v], h =>
    simp [ScalKs] at h
    cases v with
    | int k' a => simp [ScalK] at h; subst h; exact ⟨a, rfl⟩
    | _ => simp [ScalK] at h
  | _ :: _ :: _, h => simp [ScalKs] at h
theorem scal1_bool {vs : List Value} (h : ScalKs [.bool] vs = true) : ∃ a, vs = [.bool a] := by
  match vs, h with
  | [v], h =>
    simp [ScalKs] at h
    cases v with
    | bool a => exact ⟨a, rfl⟩
    | _ => simp [ScalK] at h
  | _ :: _ :: _, h => simp [ScalKs] at h
theorem scal1_str {vs : List Value} (h : ScalKs [.str] vs = true) : ∃ a, vs = [.string a] := by
  match vs, h with
  | [v], h =>
    simp [ScalKs] at h
    cases v with
    | string a => exact ⟨a, rfl⟩
    | _ => simp [ScalK] at h
  | _ :: _ :: _, h => simp [ScalKs] at h
/-- The loop over the fields. -/
def eqBody (d : Nat) (X Y : Array Value) (f : Field) : Sem (ForInStep (Option Bool × Unit)) :=
  if f.name = "_" then pure (ForInStep.yield (none, ()))
  else do
    let a ← part f.type X f.offset
    let b ← part f.type Y f.offset
    let r ← Op.equalIn d f.type a b
    if r = false then pure (ForInStep.done (some false, ())) else pure (ForInStep.yield (none, ()))
theorem eqT_one {P : Program} : ∀ {n : Nat} {t : TypeId} {q : Bool × List CK}, eqT P n t = some q → q.1 = false → q.2.length = 1
  | 0, _, _, h, _ => by simp [eqT] at h
  | n + 1, t, q, h, h1 => by
    unfold eqT at h
    split at h
    · simp at h; subst h; rfl
    · simp at h; subst h; rfl
    · simp at h; subst h; rfl
    · split at h
      · exact absurd h (by simp)
      · rw [Option.map_eq_some_iff] at h
        obtain ⟨ks, _, rfl⟩ := h
        exact absurd h1 (by simp)
    · exact absurd h (by simp)
theorem run_fields {P : Program} {w : World} {K : TypeId → Option (Bool × List CK)} {d : Nat} {X Y : List Value} (hK1 : ∀ t q, K t = some q → q.1 = false → q.2.length = 1)
    (hK : ∀ t q, K t = some q → ∀ (xs ys : List Value), ScalKs q.2 xs = true → ScalKs q.2 ys = true → (Op.equalIn d t (ofCells q.1 xs) (ofCells q.1 ys)).run P w = .ok (eqVs xs ys) w) :
    ∀ (fs : List Field) (off : Nat) (ks : List CK), eqFields P K off fs = some ks → ScalKs ks (X.drop off) = true → ScalKs ks (Y.drop off) = true → off ≤ X.length → off ≤ Y.length →
      (forIn fs (none, ()) fun f (_ : Option Bool × Unit) => eqBody d X.toArray Y.toArray f).run P w = .ok (if eqVs (X.drop off) (Y.drop off) then (none, ()) else (some false, ())) w
  | [], off, ks, h, hx, hy, _, _ => by
    simp [eqFields] at h
    subst h
    have e1 : X.drop off = [] := by cases hX : X.drop off with | nil => rfl | cons a l => rw [hX] at hx; simp [ScalKs] at hx
    simp [e1, eqVs]
  | f :: rest, off, ks, h, hx, hy, ox, oy => by
    unfold eqFields at h
    split at h
    · rename_i ho
      rw [Option.bind_eq_some_iff] at h
      obtain ⟨q, hq, h⟩ := h
      split at h
      · rename_i hs
        rw [Option.map_eq_some_iff] at h
        obtain ⟨k2, hk2, rfl⟩ := h
        have hx' := scalKs_split hx
        have hy' := scalKs_split hy
        have lx := scalKs_length hx
        have ly := scalKs_length hy
        simp at lx ly
        have h1 := hK f.type q hq _ _ hx'.1 hy'.1
        have px := run_part hs.2 hs.1 (vs := X) (off := off) (by omega) (fun e => hK1 _ _ hq e) w
        have py := run_part hs.2 hs.1 (vs := Y) (off := off) (by omega) (fun e => hK1 _ _ hq e) w
        have ih := run_fields (w := w) hK1 hK rest (off + q.2.length) k2 hk2 (by simpa [List.drop_drop] using hx'.2) (by simpa [List.drop_drop] using hy'.2) (by omega) (by omega)
        have hsp : eqVs (X.drop off) (Y.drop off) = (eqVs ((X.drop off).take q.2.length) ((Y.drop off).take q.2.length) && eqVs (X.drop (off + q.2.length)) (Y.drop (off + q.2.length))) := by
          rw [← eqVs_append (by simp; omega), ← List.drop_drop, ← List.drop_drop, List.take_append_drop, List.take_append_drop]
        rw [hsp]
        simp only [List.forIn_cons]
        have hb : (eqBody d X.toArray Y.toArray f).run P w = .ok (if eqVs ((X.drop off).take q.2.length) ((Y.drop off).take q.2.length) = false then ForInStep.done (some false, ()) else ForInStep.yield (none, ())) w := by
          unfold eqBody
          rw [if_neg ho.2, ← ho.1]
          rw [← ho.1] at px py h1
          simp [px, py, h1]
          split <;> simp
        cases he : eqVs ((X.drop off).take q.2.length) ((Y.drop off).take q.2.length) with
        | false => simp [hb, he]
        | true => simp [hb, he, ih]
      · exact absurd h (by simp)
    · exact absurd h (by simp)
theorem eq_run {P : Program} (w : World) : ∀ (n : Nat) (t : TypeId) (q : Bool × List CK), eqT P n t = some q → ∀ (d : Nat), n ≤ d → ∀ (xs ys : List Value), ScalKs q.2 xs = true → ScalKs q.2 ys = true →
    (Op.equalIn d t (ofCells q.1 xs) (ofCells q.1 ys)).run P w = .ok (eqVs xs ys) w
  | 0, _, _, h, _, _, _, _, _, _ => by simp [eqT] at h
  | n + 1, t, q, h, 0, hd, _, _, _, _ => by omega
  | n + 1, t, q, h, d + 1, hd, xs, ys, hx, hy => by
    unfold eqT at h
    split at h
    · rename_i ht
      simp at h; subst h
      obtain ⟨a, rfl⟩ := scal1_bool hx
      obtain ⟨b, rfl⟩ := scal1_bool hy
      simp [Op.equalIn, run_underlying ht, ofCells, eqVs, eqV]
    · rename_i k ht
      simp at h; subst h
      obtain ⟨a, rfl⟩ := scal1_int hx
      obtain ⟨b, rfl⟩ := scal1_int hy
      simp [Op.equalIn, run_underlying ht, ofCells, eqVs, eqV]
      rfl
    · rename_i ht
      simp at h; subst h
      obtain ⟨a, rfl⟩ := scal1_str hx
      obtain ⟨b, rfl⟩ := scal1_str hy
      simp [Op.equalIn, run_underlying ht, ofCells, eqVs, eqV]
    · rename_i fs ht
      split at h
      · exact absurd h (by simp)
      · rename_i hst
        rw [Option.map_eq_some_iff] at h
        obtain ⟨ks, hks, rfl⟩ := h
        rw [Op.equalIn]
        simp only [ofCells, if_true]
        have hF := run_fields (w := w) (d := d) (X := xs) (Y := ys) (fun t q h => eqT_one h) (fun t q h xs ys h1 h2 => eq_run w n t q h d (by omega) xs ys h1 h2) fs.toList 0 ks hks (by simpa using hx) (by simpa using hy) (Nat.zero_le _) (Nat.zero_le _)
        rw [Array.forIn_toList] at hF
        simp only [eqBody] at hF
        simp only [List.drop_zero] at hF
        cases he : eqVs xs ys with
        | false => rw [he] at hF; simp at hF; simp [run_underlying ht, hst, hF]
        | true => rw [he] at hF; simp at hF; simp [run_underlying ht, hst, hF]
    · exact absurd h (by simp)
theorem eqAgg_of {P : Program} {n : Nat} {t : TypeId} {ks : List CK} {xs ys : List Value} (h : eqT P n t = some (true, ks)) (hn : n ≤ 10000) (hg : P.eqGuardType P.depth t = false) (hx : ScalKs ks xs = true) (hy : ScalKs ks ys = true) :
    EqAgg P t xs ys (eqVs xs ys) := by
  intro w
  refine ⟨fun op x y => ?_, ?_⟩
  · cases op <;> simp [eqGuard, hg]
  · exact eq_run w n t (true, ks) h Op.maxDepth hn xs ys hx hy
theorem agg_neq {P : Program} {n : Nat} {t : TypeId} {ks : List CK} {xs ys : List Value} (h : eqT P n t = some (true, ks)) (hn : n ≤ 10000) (hg : P.eqGuardType P.depth t = false) (hx : ScalKs ks xs = true) (hy : ScalKs ks ys = true) (K : Value → Prop) :
    aggBin P .neq t (scells xs) (scells ys) K = K (.bool (!(eqVs xs ys))) := aggBin_neq (eqAgg_of h hn hg hx hy)
theorem agg_eql {P : Program} {n : Nat} {t : TypeId} {ks : List CK} {xs ys : List Value} (h : eqT P n t = some (true, ks)) (hn : n ≤ 10000) (hg : P.eqGuardType P.depth t = false) (hx : ScalKs ks xs = true) (hy : ScalKs ks ys = true) (K : Value → Prop) :
    aggBin P .eql t (scells xs) (scells ys) K = K (.bool (eqVs xs ys)) := aggBin_eql (eqAgg_of h hn hg hx hy)
end Go.Abs
namespace Go.Abs
set_option linter.unusedSimpArgs false
set_option linter.unusedVariables false
set_option linter.unnecessarySimpa false
open Go Go.RowKit
section
variable {H : Type} {enc : TypeId × Value → H} {P : Program} {w : World} {spare : Nat → Bool} {held : Bool}
theorem trodVars_len : ∀ {ns : List String} {gs : List (DataW H)} {ps : List MemPlace}, DataW.TrodVars enc P w spare ns gs ps → gs.length = ns.length
  | [], [], _, _ => rfl
  | [], _ :: _, _, h => h.elim
  | _ :: _, [], _, h => h.elim
  | _ :: ns, _ :: gs, _, h => by
    obtain ⟨_, _, _, _, _, _, _, _, _, _, h, _⟩ := h
    simp [trodVars_len h]
theorem laid_ints {t e n fuel : Nat} {k : IntKind} {ns : List Int} {cs : List Value} {p : List MemPlace} (ht : P.underlying t = some (.array n e)) (he : P.underlying e = some (.int k)) (hc : P.cellsOf e = 1) (hn : P.cellsOf t = n)
    (h : DataW.trod enc P w 0 spare held fuel t cs = some (.agg (ns.map fun i => .lit (.int k i)), p)) : cs = ns.map (Value.int k) := by
  obtain ⟨xs, m, _, hx, hl, hxl, hat⟩ := DataW.trod_array ht h
  simp only [Prod.mk.injEq, DataW.agg.injEq] at hx
  have hx1 := hx.1
  have hlen : ns.length = n := by
    have := congrArg List.length hx1
    simpa [hxl] using this
  have hcl : cs.length = n := hl.trans hn
  apply List.ext_getElem
  · simp [hcl, hlen]
  · intro i h1 h2
    have hi : i < n := by omega
    have h3 := hat i hi
    rw [hc, Nat.mul_one, List.getElem?_eq_getElem (by omega)] at h3
    obtain ⟨q, hq1, hq2, _⟩ := DataW.trod_int he h3
    have e1 : (cs.drop i).take 1 = [cs[i]] := by rw [List.drop_eq_getElem_cons h1]; rfl
    rw [e1] at hq1
    have e2 : (ns.map fun i => (DataW.lit (.int k i) : DataW H))[i]'(by simp; omega) = (xs.map (·.1))[i]'(by simp; omega) := by
      congr 1
    simp only [List.getElem_map, hq2] at e2
    have e3 : ns[i]'(by omega) = q := by simpa using e2
    simp at hq1
    simp [hq1, e3]
theorem glob_ints {name : String} {g : Nat} {cs : Array Value} {k : IntKind} {ns : List Int} (hg : P.globalNamed name = some g) (hv : w.var? P name = some cs) (hcs : cs.toList = ns.map (Value.int k)) (hne : 0 < ns.length) :
    RelD w (baseE w).I (.rptr (ns.map fun i => .s (.int k i))) (.pointer (some ⟨g, 0, none⟩)) := by
  have hcell : ∀ j, j < ns.length → w.cell? ((⟨g, 0, none⟩ : Addr).add j) = some (.int k (ns.getD j 0)) := fun j hj => by
    have := World.var?_cell hg hv j
    rw [add_lit, Nat.zero_add, this, ← Array.getElem?_toList, hcs, List.getElem?_map]
    simp [List.getD, List.getElem?_eq_getElem hj]
  refine .rptr (fun j => .int k (ns.getD j 0)) (cell_lt (hcell 0 hne)) (fun j hj => hcell j (by simpa using hj)) (fun j hj => ?_)
  simp at hj
  simp [List.getD, List.getElem?_eq_getElem hj]
  exact .s rfl
end
end Go.Abs
