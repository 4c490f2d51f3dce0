/-
  An abstract reading of memory: values as data (immutable lists), arrays of the call's own, and what of them holds in a world. No program's text.
-/
import Derived.WalkKit
import Derived.MapKept
namespace Go.Abs
set_option linter.unusedSimpArgs false
set_option linter.unusedVariables false
set_option linter.unnecessarySimpa false
open Go

/-- A cell as data: a scalar; a slice that nobody writes; the nil slice; a pointer to cells that nobody writes; a map that nobody writes. -/
inductive DC where
  | s (v : Value)
  | list (n : Nat) (cs : List DC)
  | nil
  | rptr (cs : List DC)
  | map (es : List MapEntry) (clk : Nat)
  deriving Inhabited

/-- A cell: data; a slice of an own array (its number, its stamp, the first cell, how many elements); a pointer into one; an own map; what an own map holds (in no cell of a value); unknown. -/
inductive AC where
  | d (c : DC)
  | own (k g off n : Nat)
  | ptr (k g off : Nat)
  | mp (k g : Nat)
  | obj (es : List MapEntry) (clk : Nat)
  | any
  deriving Inhabited

inductive AV where
  | one (c : AC)
  | agg (cs : List AC)
  | tup (vs : List AV)
  deriving Inhabited

def Scalar : Value → Bool
  | .bool _ | .int _ _ | .float _ _ | .complex _ _ _ | .string _ | .nilFunc | .nilIface | .pointer none | .map none | .chan none => true
  | _ => false

theorem Scalar.oneCell {v : Value} (h : Scalar v = true) : v.oneCell' = true := by
  cases v <;> simp_all [Scalar, Value.oneCell']

/-- What is known of an own array: its stamp, its block (none: the nil slice), its elements' type and cells, how many cells there are. -/
structure BI where
  gen : Nat
  blk : Option Nat
  elem : TypeId
  size : Nat
  room : Nat

structure Env where
  I : Nat → Prop
  β : List BI
  clk : Nat

inductive RelD (w : World) (I : Nat → Prop) : DC → Value → Prop where
  | s {v : Value} (h : Scalar v = true) : RelD w I (.s v) v
  | nil : RelD w I .nil (.slice none 0 0)
  | list {n : Nat} {cs : List DC} {a : Option Addr} {cap : Nat} (f : Nat → Value)
      (ha : cs ≠ [] → ∃ ad : Addr, a = some ad ∧ I ad.block ∧ ∀ j, j < cs.length → w.cell? (ad.add j) = some (f j))
      (hr : ∀ (j : Nat) (h : j < cs.length), RelD w I cs[j] (f j)) (hn : n ≤ cap) (hm : cap ≤ maxLen) : RelD w I (.list n cs) (.slice a n cap)
  | rptr {cs : List DC} {ad : Addr} (f : Nat → Value) (hI : I ad.block)
      (hc : ∀ j, j < cs.length → w.cell? (ad.add j) = some (f j))
      (hr : ∀ (j : Nat) (h : j < cs.length), RelD w I cs[j] (f j)) : RelD w I (.rptr cs) (.pointer (some ad))
  | map {es : List MapEntry} {c r : Nat} (hI : I r) (hm : w.heap[r]? = some (.map es.toArray c)) : RelD w I (.map es c) (.map (some r))

theorem add_block (ad : Addr) (j : Nat) : (ad.add j).block = ad.block := by unfold Addr.add; split <;> rfl
theorem add_add (a : Addr) (i j : Nat) : (a.add i).add j = a.add (i + j) := by
  unfold Addr.add
  by_cases hi : i = 0 <;> by_cases hj : j = 0 <;> simp [hi, hj, Nat.add_assoc]
theorem add_lit (b o j : Nat) : (⟨b, o, none⟩ : Addr).add j = ⟨b, o + j, none⟩ := by unfold Addr.add; split <;> simp_all

theorem RelD.mono {w w' : World} {I I' : Nat → Prop} (h : ∀ b, I b → I' b ∧ w'.heap[b]? = w.heap[b]?) {c : DC} {v : Value} (r : RelD w I c v) : RelD w' I' c v := by
  induction r with
  | s h => exact .s h
  | nil => exact .nil
  | list f ha hr hn hm ih =>
    refine .list f (fun hne => ?_) ih hn hm
    obtain ⟨ad, e, hi, hc⟩ := ha hne
    exact ⟨ad, e, (h _ hi).1, fun j hj => by
      rw [World.cell?_of_block (w := w) (by rw [add_block]; exact (h _ hi).2)]; exact hc j hj⟩
  | rptr f hI hc hr ih =>
    refine .rptr f (h _ hI).1 (fun j hj => ?_) ih
    rw [World.cell?_of_block (w := w) (by rw [add_block]; exact (h _ hI).2)]; exact hc j hj
  | map hI hm => exact .map (h _ hI).1 (by rw [(h _ hI).2]; exact hm)

theorem RelD.oneCell {w : World} {I : Nat → Prop} {c : DC} {v : Value} (r : RelD w I c v) : v.oneCell' = true := by
  cases r with
  | s h => exact Scalar.oneCell h
  | nil => rfl
  | list => rfl
  | rptr => rfl
  | map => rfl

def RelC (w : World) (E : Env) : AC → Value → Prop
  | .d c, v => RelD w E.I c v
  | .own k g off n, v => v.oneCell' = true ∧ g < E.clk ∧ ∀ i, E.β[k]? = some i → i.gen = g →
      ∃ a cap, v = .slice a n cap ∧ n ≤ cap ∧ cap ≤ maxLen ∧ off + cap * i.size ≤ i.room ∧
        match i.blk with
        | none => a = none ∧ cap = 0
        | some b => 0 < cap → a = some ⟨b, off, none⟩
  | .ptr k g off, v => v.oneCell' = true ∧ g < E.clk ∧ ∀ i, E.β[k]? = some i → i.gen = g →
      ∃ b, i.blk = some b ∧ v = .pointer (some ⟨b, off, none⟩)
  | .mp k g, v => v.oneCell' = true ∧ g < E.clk ∧ ∀ i, E.β[k]? = some i → i.gen = g → ∃ b, i.blk = some b ∧ v = .map (some b)
  | .obj _ _, _ => False
  | .any, _ => True

/-- One environment behind another: what nobody writes is as it was; an array that has its old stamp is the old one. -/
structure Env.Le (w : World) (E : Env) (w' : World) (E' : Env) : Prop where
  I : ∀ b, E.I b → E'.I b ∧ w'.heap[b]? = w.heap[b]?
  clk : E.clk ≤ E'.clk
  β : ∀ (k : Nat) (i' : BI), E'.β[k]? = some i' → E.β[k]? = some i' ∨ E.clk ≤ i'.gen

theorem Env.Le.refl (w : World) (E : Env) : Env.Le w E w E := ⟨fun _ h => ⟨h, rfl⟩, Nat.le_refl _, fun _ _ h => .inl h⟩
theorem Env.Le.trans {w w' w'' : World} {E E' E'' : Env} (h : Env.Le w E w' E') (k : Env.Le w' E' w'' E'') : Env.Le w E w'' E'' :=
  ⟨fun b hb => ⟨(k.I b (h.I b hb).1).1, (k.I b (h.I b hb).1).2.trans (h.I b hb).2⟩, Nat.le_trans h.clk k.clk, fun j i' hi => by
    rcases k.β j i' hi with h1 | h1
    · exact h.β j i' h1
    · exact .inr (Nat.le_trans h.clk h1)⟩

theorem RelC.mono {w w' : World} {E E' : Env} (h : Env.Le w E w' E') {c : AC} {v : Value} (r : RelC w E c v) : RelC w' E' c v := by
  cases c with
  | d c => exact RelD.mono h.I r
  | own k g off n =>
    obtain ⟨h1, h2, h3⟩ := r
    refine ⟨h1, Nat.lt_of_lt_of_le h2 h.clk, fun i hi hg => ?_⟩
    rcases h.β k i hi with hb | hb
    · exact h3 i hb hg
    · omega
  | ptr k g off =>
    obtain ⟨h1, h2, h3⟩ := r
    refine ⟨h1, Nat.lt_of_lt_of_le h2 h.clk, fun i hi hg => ?_⟩
    rcases h.β k i hi with hb | hb
    · exact h3 i hb hg
    · omega
  | mp k g =>
    obtain ⟨h1, h2, h3⟩ := r
    refine ⟨h1, Nat.lt_of_lt_of_le h2 h.clk, fun i hi hg => ?_⟩
    rcases h.β k i hi with hb | hb
    · exact h3 i hb hg
    · omega
  | obj es c => exact r.elim
  | any => trivial

def RelCs (w : World) (E : Env) (cs : List AC) (vs : List Value) : Prop :=
  cs.length = vs.length ∧ ∀ (j : Nat) c v, cs[j]? = some c → vs[j]? = some v → v.oneCell' = true ∧ RelC w E c v

def RelV1 (w : World) (E : Env) : AV → Value → Prop
  | .one c, v => RelC w E c v
  | .agg cs, v => ∃ l : List Value, v = .agg l.toArray ∧ RelCs w E cs l
  | .tup _, _ => False

def RelV (w : World) (E : Env) : AV → Value → Prop
  | .tup vs, v => ∃ l : List Value, v = .tuple l.toArray ∧ vs.length = l.length ∧ ∀ (j : Nat) x u, vs[j]? = some x → l[j]? = some u → RelV1 w E x u
  | x, v => RelV1 w E x v

theorem RelCs.mono {w w' : World} {E E' : Env} (h : Env.Le w E w' E') {cs : List AC} {vs : List Value} (r : RelCs w E cs vs) : RelCs w' E' cs vs :=
  ⟨r.1, fun j c v hc hv => ⟨(r.2 j c v hc hv).1, RelC.mono h (r.2 j c v hc hv).2⟩⟩
theorem RelV1.mono {w w' : World} {E E' : Env} (h : Env.Le w E w' E') {x : AV} {v : Value} (r : RelV1 w E x v) : RelV1 w' E' x v := by
  cases x with
  | one c => exact RelC.mono (c := c) h r
  | agg cs => obtain ⟨l, e, hr⟩ := r; exact ⟨l, e, hr.mono h⟩
  | tup vs => exact r
theorem RelV.mono {w w' : World} {E E' : Env} (h : Env.Le w E w' E') {x : AV} {v : Value} (r : RelV w E x v) : RelV w' E' x v := by
  cases x with
  | one c => exact RelV1.mono (x := .one c) h r
  | agg cs => exact RelV1.mono (x := .agg cs) h r
  | tup vs => obtain ⟨l, e, hl, hr⟩ := r; exact ⟨l, e, hl, fun j x u hx hu => (hr j x u hx hu).mono h⟩

/-- An own array as it is: its stamp, its elements' type and cells, its cells from the first one on as far as they are known. -/
structure ABlk where
  gen : Nat
  elem : TypeId
  size : Nat
  cells : List AC

abbrev AHeap := List (Option ABlk)

def CellsAt (w : World) (E : Env) (i : BI) (B : ABlk) (b : Nat) : Prop :=
  ∃ C : List Value, w.heap[b]? = some (.cells C.toArray i.elem (0, 0)) ∧ C.length = i.room ∧ B.cells.length ≤ i.room ∧ RelCs w E B.cells (C.take B.cells.length)
def MapAt (w : World) (B : ABlk) (b : Nat) : Prop :=
  B.size = 0 ∧ ∃ es c, B.cells = [.obj es c] ∧ w.heap[b]? = some (.map es.toArray c)
def BlkOk (w : World) (E : Env) (i : BI) (B : ABlk) : Prop :=
  i.gen = B.gen ∧ i.elem = B.elem ∧ i.size = B.size ∧ i.gen < E.clk ∧
  match i.blk with
  | none => B.cells = [] ∧ i.room = 0
  | some b => ¬ E.I b ∧ (CellsAt w E i B b ∨ MapAt w B b)
theorem MapAt.same {w w' : World} {B : ABlk} {b : Nat} (hh : w'.heap[b]? = w.heap[b]?) (h : MapAt w B b) : MapAt w' B b := by
  obtain ⟨h1, es, c, h2, h3⟩ := h
  exact ⟨h1, es, c, h2, by rw [hh]; exact h3⟩
theorem MapAt.not {w : World} {B : ABlk} {b : Nat} (h : MapAt w B b) (hs : B.size ≠ 0) : False := hs h.1

/-- What the package-level variables hold that nobody writes: of a variable's number its cells (none is told where none is laid). -/
def globT : Nat → Option (List DC) := fun g => ([] : List (Nat × List DC)).lookup g

structure SimH (w : World) (E : Env) (H : AHeap) : Prop where
  len : E.β.length = H.length
  gens : ∀ (k : Nat) (i : BI), E.β[k]? = some i → i.gen < E.clk
  I : ∀ b, E.I b → b < w.heap.size
  blk : ∀ (k : Nat) (B : ABlk), H[k]? = some (some B) → ∃ i, E.β[k]? = some i ∧ BlkOk w E i B
  apart : ∀ (k k' : Nat) (B B' : ABlk) (i i' : BI) (b : Nat), H[k]? = some (some B) → H[k']? = some (some B') → E.β[k]? = some i → E.β[k']? = some i' → i.blk = some b → i'.blk = some b → k = k'
  glob : ∀ (g : Nat) (cs : List DC), globT g = some cs → RelD w E.I (.rptr cs) (.pointer (some ⟨g, 0, none⟩))

/-- The blocks that an abstract heap may write. -/
def LiveB (E : Env) (H : AHeap) (b : Nat) : Prop := ∃ (k : Nat) (B : ABlk) (i : BI), H[k]? = some (some B) ∧ E.β[k]? = some i ∧ i.blk = some b

/-- What is not live is as it was. -/
structure Frm (w : World) (L : Nat → Prop) (w' : World) : Prop where
  os : w'.os = w.os
  tape : w'.tape = w.tape
  output : w'.output = w.output
  size : w.heap.size ≤ w'.heap.size
  block : ∀ b, b < w.heap.size → ¬ L b → w'.heap[b]? = w.heap[b]?

theorem Frm.refl (w : World) (L : Nat → Prop) : Frm w L w := ⟨rfl, rfl, rfl, Nat.le_refl _, fun _ _ _ => rfl⟩
theorem Frm.trans {w w' w'' : World} {L L' : Nat → Prop} (h : Frm w L w') (k : Frm w' L' w'') (hL : ∀ b, b < w.heap.size → L' b → L b) : Frm w L w'' :=
  ⟨k.os.trans h.os, k.tape.trans h.tape, k.output.trans h.output, Nat.le_trans h.size k.size, fun b hb hn =>
    (k.block b (Nat.lt_of_lt_of_le hb h.size) (fun hl => hn (hL b hb hl))).trans (h.block b hb hn)⟩
theorem Frm.drew {w w' : World} {L : Nat → Prop} (h : Frm w L w') : Frm w L w'.drew := ⟨h.os, h.tape, h.output, h.size, h.block⟩

end Go.Abs
