/-
  An abstract reading of memory: what it says; its steps are sound, the first half. No program's text.
-/
import Derived.WalkKit
import Derived.OrdersIn
import Derived.TacticsIn
import Derived.RangeFuncNested
import Derived.MapKept
import Derived.WideLaws
namespace Go.Abs
set_option linter.unusedSimpArgs false
set_option linter.unusedVariables false
set_option linter.unnecessarySimpa false
open Go

/-- A cell as data: a scalar; a slice that nobody writes; the nil slice; a pointer to cells that nobody writes; a map that nobody writes; the error that the package-level variable g holds; a function and what it has captured. -/
inductive DC where
  | s (v : Value)
  | list (n : Nat) (cs : List DC)
  | nil
  | rptr (cs : List DC)
  | map (es : List MapEntry) (clk : Nat)
  | err (g : Nat)
  | fn (f : FuncId) (cs : List DC)
  deriving Inhabited

/-- A cell: data; a slice of an own array (its number, its stamp, the first cell, how many elements); a pointer into one; an own map; what an own map holds (in no cell of a value); unknown. -/
inductive AC where
  | d (c : DC)
  | own (k g off n : Nat)
  | ptr (k g off : Nat)
  | mp (k g : Nat)
  | obj (es : List MapEntry) (clk : Nat)
  | any
  deriving Inhabited

inductive AV where
  | one (c : AC)
  | agg (cs : List AC)
  | tup (vs : List AV)
  deriving Inhabited

def Scalar : Value → Bool
  | .bool _ | .int _ _ | .float _ _ | .complex _ _ _ | .string _ | .nilFunc | .nilIface | .pointer _ | .map none | .chan none => true
  | .func (.yield _) _ _ => true
  | _ => false

theorem Scalar.oneCell {v : Value} (h : Scalar v = true) : v.oneCell' = true := by
  cases v <;> simp_all [Scalar, Value.oneCell']

/-- What is known of an own array: its stamp, its block (none: the nil slice), its elements' type and cells, how many cells there are. -/
structure BI where
  gen : Nat
  blk : Option Nat
  elem : TypeId
  size : Nat
  room : Nat

structure Env where
  I : Nat → Prop
  β : List BI
  clk : Nat

/-- What the package-level variables hold that nobody writes: of a variable's number its cells (none is told where none is laid). -/
def globT : Nat → Option (List DC) := fun g => ([] : List (Nat × List DC)).lookup g
/-- Of a variable that holds an error of errors.New's make: its dynamic type, its text. -/
def errT : Nat → Option (TypeId × List UInt8) := fun g => ([] : List (Nat × (TypeId × List UInt8))).lookup g

inductive RelD (w : World) (I : Nat → Prop) : DC → Value → Prop where
  | s {v : Value} (h : Scalar v = true) : RelD w I (.s v) v
  | nil : RelD w I .nil (.slice none 0 0)
  | list {n : Nat} {cs : List DC} {a : Option Addr} {cap : Nat} (f : Nat → Value)
      (ha : cs ≠ [] → ∃ ad : Addr, a = some ad ∧ I ad.block ∧ ∀ j, j < cs.length → w.cell? (ad.add j) = some (f j))
      (hr : ∀ (j : Nat) (h : j < cs.length), RelD w I cs[j] (f j)) (hn : n ≤ cap) (hm : cap ≤ maxLen) : RelD w I (.list n cs) (.slice a n cap)
  | rptr {cs : List DC} {ad : Addr} (f : Nat → Value) (hI : I ad.block)
      (hc : ∀ j, j < cs.length → w.cell? (ad.add j) = some (f j))
      (hr : ∀ (j : Nat) (h : j < cs.length), RelD w I cs[j] (f j)) : RelD w I (.rptr cs) (.pointer (some ad))
  | map {es : List MapEntry} {c r : Nat} (hI : I r) (hm : w.heap[r]? = some (.map es.toArray c)) : RelD w I (.map es c) (.map (some r))
  | err {g : Nat} {tid te : TypeId} {txt : List UInt8} {ad : Addr} {s : ByteArray} {c : Array Value} (ht : errT g = some (tid, txt)) (hg : globT g = some [.err g]) (hI : I g)
      (hc : w.cell? ⟨g, 0, none⟩ = some (.iface tid (.pointer (some ad)))) (hb : I ad.block) (hs : w.cell? ad = some (.string s)) (hx : s.data.toList = txt)
      (hh : w.heap[ad.block]? = some (.cells c te (0, 0))) : RelD w I (.err g) (.iface tid (.pointer (some ad)))
  | fn {g : FuncId} {cs : List DC} (f : Nat → Value) (hr : ∀ (j : Nat) (h : j < cs.length), RelD w I cs[j] (f j)) :
      RelD w I (.fn g cs) (.func (.func g) #[] ((List.range cs.length).map f).toArray)

theorem add_block (ad : Addr) (j : Nat) : (ad.add j).block = ad.block := by unfold Addr.add; split <;> rfl
theorem add_add (a : Addr) (i j : Nat) : (a.add i).add j = a.add (i + j) := by
  unfold Addr.add
  by_cases hi : i = 0 <;> by_cases hj : j = 0 <;> simp [hi, hj, Nat.add_assoc]
theorem add_lit (b o j : Nat) : (⟨b, o, none⟩ : Addr).add j = ⟨b, o + j, none⟩ := by unfold Addr.add; split <;> simp_all

theorem RelD.mono {w w' : World} {I I' : Nat → Prop} (h : ∀ b, I b → I' b ∧ w'.heap[b]? = w.heap[b]?) {c : DC} {v : Value} (r : RelD w I c v) : RelD w' I' c v := by
  induction r with
  | s h => exact .s h
  | nil => exact .nil
  | list f ha hr hn hm ih =>
    refine .list f (fun hne => ?_) ih hn hm
    obtain ⟨ad, e, hi, hc⟩ := ha hne
    exact ⟨ad, e, (h _ hi).1, fun j hj => by
      rw [World.cell?_of_block (w := w) (by rw [add_block]; exact (h _ hi).2)]; exact hc j hj⟩
  | rptr f hI hc hr ih =>
    refine .rptr f (h _ hI).1 (fun j hj => ?_) ih
    rw [World.cell?_of_block (w := w) (by rw [add_block]; exact (h _ hI).2)]; exact hc j hj
  | map hI hm => exact .map (h _ hI).1 (by rw [(h _ hI).2]; exact hm)
  | err ht hg hI hc hb hs hx hh =>
    exact .err ht hg (h _ hI).1 (by rw [World.cell?_of_block (w := w) (h _ hI).2]; exact hc) (h _ hb).1 (by rw [World.cell?_of_block (w := w) (h _ hb).2]; exact hs) hx (by rw [(h _ hb).2]; exact hh)
  | fn f hr ih => exact .fn f ih

theorem RelD.oneCell {w : World} {I : Nat → Prop} {c : DC} {v : Value} (r : RelD w I c v) : v.oneCell' = true := by
  cases r with
  | s h => exact Scalar.oneCell h
  | nil => rfl
  | list => rfl
  | rptr => rfl
  | map => rfl
  | err => rfl
  | fn => rfl

def RelC (w : World) (E : Env) : AC → Value → Prop
  | .d c, v => RelD w E.I c v
  | .own k g off n, v => v.oneCell' = true ∧ g < E.clk ∧ ∀ i, E.β[k]? = some i → i.gen = g →
      ∃ a cap, v = .slice a n cap ∧ n ≤ cap ∧ cap ≤ maxLen ∧ off + cap * i.size ≤ i.room ∧
        match i.blk with
        | none => a = none ∧ cap = 0
        | some b => 0 < cap → a = some ⟨b, off, none⟩
  | .ptr k g off, v => v.oneCell' = true ∧ g < E.clk ∧ ∀ i, E.β[k]? = some i → i.gen = g →
      ∃ b, i.blk = some b ∧ v = .pointer (some ⟨b, off, none⟩)
  | .mp k g, v => v.oneCell' = true ∧ g < E.clk ∧ ∀ i, E.β[k]? = some i → i.gen = g → ∃ b, i.blk = some b ∧ v = .map (some b)
  | .obj _ _, _ => False
  | .any, _ => True

/-- What the package-level variables are told to hold they hold. -/
def GlobOk (w : World) (I : Nat → Prop) : Prop := ∀ (g : Nat) (cs : List DC), globT g = some cs → RelD w I (.rptr cs) (.pointer (some ⟨g, 0, none⟩))
theorem RelD.err_in {w : World} {I I' : Nat → Prop} {g : Nat} {v : Value} (h : RelD w I (.err g) v) (hG : GlobOk w I') : RelD w I' (.err g) v := by
  cases h with
  | err ht hg hI hc hb hs hx hh =>
    have h1 := hG g _ hg
    cases h1 with
    | rptr f hI' hc' hr' =>
      have h2 := hc' 0 (by simp)
      have h3 := hr' 0 (by simp)
      have h4 : w.cell? ⟨g, 0, none⟩ = some (f 0) := h2
      rw [hc] at h4
      have h5 := Option.some.inj h4
      rw [← h5] at h3
      exact h3

/-- One environment behind another: what nobody writes is as it was; an array that has its old stamp is the old one. -/
structure Env.Le (w : World) (E : Env) (w' : World) (E' : Env) : Prop where
  I : ∀ b, E.I b → E'.I b ∧ w'.heap[b]? = w.heap[b]?
  clk : E.clk ≤ E'.clk
  β : ∀ (k : Nat) (i' : BI), E'.β[k]? = some i' → E.β[k]? = some i' ∨ E.clk ≤ i'.gen

theorem Env.Le.refl (w : World) (E : Env) : Env.Le w E w E := ⟨fun _ h => ⟨h, rfl⟩, Nat.le_refl _, fun _ _ h => .inl h⟩
theorem Env.Le.trans {w w' w'' : World} {E E' E'' : Env} (h : Env.Le w E w' E') (k : Env.Le w' E' w'' E'') : Env.Le w E w'' E'' :=
  ⟨fun b hb => ⟨(k.I b (h.I b hb).1).1, (k.I b (h.I b hb).1).2.trans (h.I b hb).2⟩, Nat.le_trans h.clk k.clk, fun j i' hi => by
    rcases k.β j i' hi with h1 | h1
    · exact h.β j i' h1
    · exact .inr (Nat.le_trans h.clk h1)⟩

theorem RelC.mono {w w' : World} {E E' : Env} (h : Env.Le w E w' E') {c : AC} {v : Value} (r : RelC w E c v) : RelC w' E' c v := by
  cases c with
  | d c => exact RelD.mono h.I r
  | own k g off n =>
    obtain ⟨h1, h2, h3⟩ := r
    refine ⟨h1, Nat.lt_of_lt_of_le h2 h.clk, fun i hi hg => ?_⟩
    rcases h.β k i hi with hb | hb
    · exact h3 i hb hg
    · omega
  | ptr k g off =>
    obtain ⟨h1, h2, h3⟩ := r
    refine ⟨h1, Nat.lt_of_lt_of_le h2 h.clk, fun i hi hg => ?_⟩
    rcases h.β k i hi with hb | hb
    · exact h3 i hb hg
    · omega
  | mp k g =>
    obtain ⟨h1, h2, h3⟩ := r
    refine ⟨h1, Nat.lt_of_lt_of_le h2 h.clk, fun i hi hg => ?_⟩
    rcases h.β k i hi with hb | hb
    · exact h3 i hb hg
    · omega
  | obj es c => exact r.elim
  | any => trivial

def RelCs (w : World) (E : Env) (cs : List AC) (vs : List Value) : Prop :=
  cs.length = vs.length ∧ ∀ (j : Nat) c v, cs[j]? = some c → vs[j]? = some v → v.oneCell' = true ∧ RelC w E c v

def RelV1 (w : World) (E : Env) : AV → Value → Prop
  | .one c, v => RelC w E c v
  | .agg cs, v => ∃ l : List Value, v = .agg l.toArray ∧ RelCs w E cs l
  | .tup _, _ => False

def RelV (w : World) (E : Env) : AV → Value → Prop
  | .tup vs, v => ∃ l : List Value, v = .tuple l.toArray ∧ vs.length = l.length ∧ ∀ (j : Nat) x u, vs[j]? = some x → l[j]? = some u → RelV1 w E x u
  | x, v => RelV1 w E x v

theorem RelCs.mono {w w' : World} {E E' : Env} (h : Env.Le w E w' E') {cs : List AC} {vs : List Value} (r : RelCs w E cs vs) : RelCs w' E' cs vs :=
  ⟨r.1, fun j c v hc hv => ⟨(r.2 j c v hc hv).1, RelC.mono h (r.2 j c v hc hv).2⟩⟩
theorem RelV1.mono {w w' : World} {E E' : Env} (h : Env.Le w E w' E') {x : AV} {v : Value} (r : RelV1 w E x v) : RelV1 w' E' x v := by
  cases x with
  | one c => exact RelC.mono (c := c) h r
  | agg cs => obtain ⟨l, e, hr⟩ := r; exact ⟨l, e, hr.mono h⟩
  | tup vs => exact r
theorem RelV.mono {w w' : World} {E E' : Env} (h : Env.Le w E w' E') {x : AV} {v : Value} (r : RelV w E x v) : RelV w' E' x v := by
  cases x with
  | one c => exact RelV1.mono (x := .one c) h r
  | agg cs => exact RelV1.mono (x := .agg cs) h r
  | tup vs => obtain ⟨l, e, hl, hr⟩ := r; exact ⟨l, e, hl, fun j x u hx hu => (hr j x u hx hu).mono h⟩

/-- An own array as it is: its stamp, its elements' type and cells, its cells from the first one on as far as they are known. -/
structure ABlk where
  gen : Nat
  elem : TypeId
  size : Nat
  cells : List AC

abbrev AHeap := List (Option ABlk)

def CellsAt (w : World) (E : Env) (i : BI) (B : ABlk) (b : Nat) : Prop :=
  ∃ C : List Value, w.heap[b]? = some (.cells C.toArray i.elem (0, 0)) ∧ C.length = i.room ∧ B.cells.length ≤ i.room ∧ RelCs w E B.cells (C.take B.cells.length)
def MapAt (w : World) (B : ABlk) (b : Nat) : Prop :=
  B.size = 0 ∧ ∃ es c, B.cells = [.obj es c] ∧ w.heap[b]? = some (.map es.toArray c)
def BlkOk (w : World) (E : Env) (i : BI) (B : ABlk) : Prop :=
  i.gen = B.gen ∧ i.elem = B.elem ∧ i.size = B.size ∧ i.gen < E.clk ∧
  match i.blk with
  | none => B.cells = [] ∧ i.room = 0
  | some b => ¬ E.I b ∧ (CellsAt w E i B b ∨ MapAt w B b)
theorem MapAt.same {w w' : World} {B : ABlk} {b : Nat} (hh : w'.heap[b]? = w.heap[b]?) (h : MapAt w B b) : MapAt w' B b := by
  obtain ⟨h1, es, c, h2, h3⟩ := h
  exact ⟨h1, es, c, h2, by rw [hh]; exact h3⟩
theorem MapAt.not {w : World} {B : ABlk} {b : Nat} (h : MapAt w B b) (hs : B.size ≠ 0) : False := hs h.1


structure SimH (w : World) (E : Env) (H : AHeap) : Prop where
  len : E.β.length = H.length
  gens : ∀ (k : Nat) (i : BI), E.β[k]? = some i → i.gen < E.clk
  I : ∀ b, E.I b → b < w.heap.size
  blk : ∀ (k : Nat) (B : ABlk), H[k]? = some (some B) → ∃ i, E.β[k]? = some i ∧ BlkOk w E i B
  apart : ∀ (k k' : Nat) (B B' : ABlk) (i i' : BI) (b : Nat), H[k]? = some (some B) → H[k']? = some (some B') → E.β[k]? = some i → E.β[k']? = some i' → i.blk = some b → i'.blk = some b → k = k'
  glob : ∀ (g : Nat) (cs : List DC), globT g = some cs → RelD w E.I (.rptr cs) (.pointer (some ⟨g, 0, none⟩))

/-- The blocks that an abstract heap may write. -/
def LiveB (E : Env) (H : AHeap) (b : Nat) : Prop := ∃ (k : Nat) (B : ABlk) (i : BI), H[k]? = some (some B) ∧ E.β[k]? = some i ∧ i.blk = some b

/-- What was printed; how much was drawn. -/
structure Outs (w w' : World) : Prop where
  out : w'.output = w.output
  drawn : w.drawn ≤ w'.drawn
theorem Outs.refl (w : World) : Outs w w := ⟨rfl, Nat.le_refl _⟩
theorem Outs.trans {w w' w'' : World} (h : Outs w w') (k : Outs w' w'') : Outs w w'' := ⟨k.out.trans h.out, Nat.le_trans h.drawn k.drawn⟩
/-- What is not live is as it was. -/
structure Frm (w : World) (L : Nat → Prop) (w' : World) : Prop where
  os : w'.os = w.os
  tape : w'.tape = w.tape
  output : Outs w w'
  size : w.heap.size ≤ w'.heap.size
  block : ∀ b, b < w.heap.size → ¬ L b → w'.heap[b]? = w.heap[b]?

theorem Frm.refl (w : World) (L : Nat → Prop) : Frm w L w := ⟨rfl, rfl, .refl _, Nat.le_refl _, fun _ _ _ => rfl⟩
theorem Frm.trans {w w' w'' : World} {L L' : Nat → Prop} (h : Frm w L w') (k : Frm w' L' w'') (hL : ∀ b, b < w.heap.size → L' b → L b) : Frm w L w'' :=
  ⟨k.os.trans h.os, k.tape.trans h.tape, h.output.trans k.output, Nat.le_trans h.size k.size, fun b hb hn =>
    (k.block b (Nat.lt_of_lt_of_le hb h.size) (fun hl => hn (hL b hb hl))).trans (h.block b hb hn)⟩
theorem Frm.drew {w w' : World} {L : Nat → Prop} (h : Frm w L w') : Frm w L w'.drew := ⟨h.os, h.tape, ⟨h.output.out, Nat.le_succ_of_le h.output.drawn⟩, h.size, h.block⟩

end Go.Abs
namespace Go.Abs
set_option linter.unusedSimpArgs false
set_option linter.unusedVariables false
set_option linter.unnecessarySimpa false
open Go

structure ASt where
  tmps : List AV
  heap : AHeap
  clk : Nat

abbrev unknown : AV := .one .any
abbrev sv (v : Value) : AV := .one (.d (.s v))
abbrev iv (k : IntKind) (n : Int) : AV := .one (.d (.s (.int k n)))
abbrev bv (b : Bool) : AV := .one (.d (.s (.bool b)))

def AC.ofValue : Value → AC
  | .slice none 0 0 => .d .nil
  | .bool b => .d (.s (.bool b))
  | .int k n => .d (.s (.int k n))
  | .string s => .d (.s (.string s))
  | .nilFunc => .d (.s .nilFunc)
  | .nilIface => .d (.s .nilIface)
  | .pointer none => .d (.s (.pointer none))
  | .map none => .d (.s (.map none))
  | .chan none => .d (.s (.chan none))
  | _ => .any

def ASt.eval (st : ASt) : Operand → AV
  | .tmp t => st.tmps.getD t unknown
  | .const v => .one (AC.ofValue v)
  | .global g => match globT g with
    | some cs => .one (.d (.rptr cs))
    | none => unknown
  | .func f => .one (.d (.fn f []))

def ASt.put (st : ASt) : Option Tmp → AV → ASt
  | some d, x => { st with tmps := st.tmps.set d x }
  | none, _ => st

def AC.known : AC → Bool
  | .any => false
  | _ => true

def AV.cells? : AV → Option (List AC)
  | .one c => if c.known then some [c] else none
  | .agg cs => some cs
  | .tup _ => none

/-! Types, asked of the program -/
def szOf (P : Program) (t : TypeId) : Option Nat := (P.info? t).map (·.size)
def aggT (P : Program) (t : TypeId) : Option Bool := (P.underlying t).map fun d => match d with | .struct _ | .array _ _ => true | _ => false
/-- of a slice type: the element's type, its cells, its bytes. -/
def sliceT (P : Program) (t : TypeId) : Option (TypeId × Nat × Nat) :=
  match P.underlying t with
  | some (.slice e) => (P.info? e).map fun i => (e, i.size, i.bytes)
  | _ => none
/-- of a map type: the types of keys and of values. -/
def mapT (P : Program) (t : TypeId) : Option (TypeId × TypeId) :=
  match P.underlying t with
  | some (.map k e) => some (k, e)
  | _ => none
/-- of an array type: how many elements, their type, the cells of one. -/
def arrT (P : Program) (t : TypeId) : Option (Nat × TypeId × Nat) :=
  match P.underlying t with
  | some (.array n e) => (szOf P e).map fun s => (n, e, s)
  | _ => none
/-- the cells of one element of an array, or of the type itself. -/
def unitT (P : Program) (t : TypeId) : Option Nat :=
  match P.underlying t with
  | some (.array _ e) => szOf P e
  | _ => szOf P t
/-- of a struct's field: its offset, its type, its cells, whether it is a struct or an array. -/
def fieldT (P : Program) (t : TypeId) (f : Nat) : Option (Nat × Nat × Bool) :=
  match P.underlying t with
  | some (.struct fs) => match fs[f]? with
    | some fd => match szOf P fd.type, aggT P fd.type with
      | some n, some b => some (fd.offset, n, b)
      | _, _ => none
    | none => none
  | _ => none
/-- Every cell of a value is one cell. -/
def oneCells (v : Value) : Bool := v.cells.toList.all (·.oneCell')
def zeroT (P : Program) (t : TypeId) : Option (List AC) :=
  match P.info? t with
  | some i => match i.zero with
    | some z => if oneCells z then some (z.cells.toList.map AC.ofValue) else none
    | none => none
  | none => none

/-! Memory -/
def splice (cs : List AC) (off : Nat) (xs : List AC) : List AC :=
  match xs with
  | [x] => cs.set off x
  | _ => cs.take off ++ xs ++ cs.drop (off + xs.length)

def blkAt (H : AHeap) (k g : Nat) : Option ABlk :=
  match H[k]? with
  | some (some B) => if B.gen = g ∧ B.size ≠ 0 then some B else none
  | _ => none
/-- What an own map holds. -/
def objAt (H : AHeap) (k g : Nat) : Option (List MapEntry × Nat) :=
  match H[k]? with
  | some (some B) => if B.gen = g ∧ B.size = 0 ∧ B.elem = 0 then (match B.cells with
    | [.obj es c] => some (es, c)
    | _ => none) else none
  | _ => none
/-- What a map holds. -/
def mapsA (H : AHeap) : AV → Option (List MapEntry)
  | .one (.mp k g) => (objAt H k g).map (·.1)
  | .one (.d (.map es _)) => some es
  | .one (.d (.s (.map none))) => some []
  | _ => none
/-- A value that is told whole. -/
def AC.val? : AC → Option Value
  | .d (.s v) => some v
  | _ => none
def AV.val? : AV → Option Value
  | .one c => c.val?
  | .agg cs => (cs.mapM AC.val?).map fun vs => .agg vs.toArray
  | .tup _ => none
def AV.ofV (v : Value) : AV := match v with
  | .agg cs => .agg (cs.toList.map AC.ofValue)
  | v => .one (AC.ofValue v)
/-- What a key gives: a value, and whether there is one. -/
def MapGet (P : Program) (t : TypeId) (kv : Value) (es : List MapEntry) (found : Bool) (x : Value) : Prop :=
  oneCells x = true ∧ ∀ (w : World) (m : Value), (m = .map none ∧ es = [] ∨ ∃ r c, m = .map (some r) ∧ w.heap[r]? = some (.map es.toArray c)) →
    ∀ ok, (Instr.lookup t m kv ok).run P w = .ok (if ok then .tuple #[x, .bool found] else x) w
/-- What a map holds behind a write. -/
def MapUpd (P : Program) (t : TypeId) (kv vv : Value) (es : List MapEntry) (c : Nat) (es' : List MapEntry) (c' : Nat) : Prop :=
  ∀ (w : World) (r : Nat), w.heap[r]? = some (.map es.toArray c) → (Instr.mapUpdate t (.map (some r)) kv vv).run P w = .ok () { w with heap := w.heap.setIfInBounds r (.map es'.toArray c') }
def MapDel (P : Program) (t : TypeId) (kv : Value) (es : List MapEntry) (c : Nat) (es' : List MapEntry) : Prop :=
  ∀ (w : World) (r : Nat) (u ty : TypeId), w.heap[r]? = some (.map es.toArray c) → (Builtin.delete_ #[t, u] ty #[.map (some r), kv]).run P w = .ok (.tuple #[]) { w with heap := w.heap.setIfInBounds r (.map es'.toArray c) }
def lookupA (P : Program) (H : AHeap) (t : TypeId) (m k : AV) (ok : Bool) (K : AV → Prop) : Prop :=
  ∃ kv es found x, k.val? = some kv ∧ mapsA H m = some es ∧ MapGet P t kv es found x ∧ K (if ok then .tup [AV.ofV x, bv found] else AV.ofV x)
def mapUpdA (P : Program) (H : AHeap) (t : TypeId) (m k v : AV) (K : AHeap → Prop) : Prop :=
  ∃ j g es c kv vv es' c', m = .one (.mp j g) ∧ objAt H j g = some (es, c) ∧ k.val? = some kv ∧ v.val? = some vv ∧ MapUpd P t kv vv es c es' c' ∧ K (H.set j (some ⟨g, 0, 0, [.obj es' c']⟩))
def mapDelA (P : Program) (H : AHeap) (t : TypeId) (m k : AV) (K : AHeap → Prop) : Prop :=
  ∃ j g es c kv es', m = .one (.mp j g) ∧ objAt H j g = some (es, c) ∧ k.val? = some kv ∧ MapDel P t kv es c es' ∧ K (H.set j (some ⟨g, 0, 0, [.obj es' c]⟩))

/-- The cells of a variable: one, or n of them. -/
def valueOf (agg : Bool) (n : Nat) (cs : List AC) : Option AV :=
  if agg then (if n ≤ cs.length then some (.agg (cs.take n)) else none) else cs.head?.map .one

def loadA (P : Program) (H : AHeap) (t : TypeId) (a : AV) (K : AV → Prop) : Prop :=
  match aggT P t, szOf P t with
  | some agg, some n =>
    match a with
    | .one (.ptr k g off) => match blkAt H k g with
      | some B => match valueOf agg n (B.cells.drop off) with
        | some x => K x
        | none => False
      | none => False
    | .one (.d (.rptr cs)) => match valueOf agg n (cs.map .d) with
      | some x => K x
      | none => False
    | _ => False
  | _, _ => False

def storeA (P : Program) (H : AHeap) (t : TypeId) (a x : AV) (K : AHeap → Prop) : Prop :=
  match szOf P t, a, x.cells? with
  | some n, .one (.ptr k g off), some cs => match blkAt H k g with
    | some B => (cs.length = n ∧ off + n ≤ B.cells.length) ∧ K (H.set k (some { B with cells := splice B.cells off cs }))
    | none => False
  | _, _, _ => False

def indexA (P : Program) (H : AHeap) (t : TypeId) (x i : AV) (K : AV → Prop) : Prop :=
  match sliceT P t, i with
  | some (_, size, _), .one (.d (.s (.int _ n))) =>
    match x with
    | .one (.own k g off len) => ((blkAt H k g).isSome = true ∧ ((blkAt H k g).map (·.size)) = some size ∧ 0 ≤ n ∧ n < (len : Int)) ∧ K (.one (.ptr k g (off + n.toNat * size)))
    | .one (.d (.list len cs)) => (n.toNat * size < cs.length ∧ 0 ≤ n ∧ n < (len : Int)) ∧ K (.one (.d (.rptr (cs.drop (n.toNat * size)))))
    | _ => False
  | none, .one (.d (.s (.int _ n))) => match arrT P t with
    | some (len, _, size) => match x with
      | .one (.ptr k g off) => ((blkAt H k g).isSome = true ∧ 0 ≤ n ∧ n < (len : Int)) ∧ K (.one (.ptr k g (off + n.toNat * size)))
      | .one (.d (.rptr cs)) => (n.toNat * size < cs.length ∧ 0 ≤ n ∧ n < (len : Int)) ∧ K (.one (.d (.rptr (cs.drop (n.toNat * size)))))
      | _ => False
    | none => False
  | _, _ => False

/-- An element of a string, or of an array that is a value. -/
def indexVA (P : Program) (t : TypeId) (x i : AV) (K : AV → Prop) : Prop :=
  match x, i with
  | .one (.d (.s (.string s))), .one (.d (.s (.int _ n))) => (P.underlying t = some .string ∧ 0 ≤ n ∧ n < (s.size : Int)) ∧ K (.one (.d (.s (.int .u8 ((s.data.toList.getD n.toNat 0).toNat : Int)))))
  | .agg cs, .one (.d (.s (.int _ n))) => match arrT P t with
    | some (len, e, size) => match aggT P e with
      | some agg => (0 ≤ n ∧ n < (len : Int) ∧ (n.toNat + 1) * size ≤ cs.length ∧ (agg = false → size = 1)) ∧ match valueOf agg size (cs.drop (n.toNat * size)) with
        | some y => K y
        | none => False
      | none => False
    | none => False
  | _, _ => False

def fieldAddrA (P : Program) (H : AHeap) (s : TypeId) (x : AV) (f : Nat) (K : AV → Prop) : Prop :=
  match fieldT P s f with
  | some (off, n, _) => n ≠ 0 ∧ match x with
    | .one (.ptr k g o) => (blkAt H k g).isSome = true ∧ K (.one (.ptr k g (o + off)))
    | .one (.d (.rptr cs)) => off < cs.length ∧ K (.one (.d (.rptr (cs.drop off))))
    | _ => False
  | none => False

def nilA (H : AHeap) (x : AV) (K : AV → Prop) : Prop :=
  match x with
  | .one (.ptr k g off) => (blkAt H k g).isSome = true ∧ K (.one (.ptr k g off))
  | .one (.d (.rptr cs)) => K (.one (.d (.rptr cs)))
  | _ => False

def fieldA (P : Program) (s : TypeId) (x : AV) (f : Nat) (K : AV → Prop) : Prop :=
  match fieldT P s f, x with
  | some (off, n, agg), .agg cs => match valueOf agg n (cs.drop off) with
    | some y => K y
    | none => False
  | _, _ => False

/-- A bound of a slice expression: given, or the one that holds without. -/
def boundOf (ev : Operand → AV) (o : Option Operand) (d : Int) : Option Int :=
  match o with
  | none => some d
  | some x => match ev x with
    | .one (.d (.s (.int _ n))) => some n
    | _ => none

def sliceA (P : Program) (H : AHeap) (ev : Operand → AV) (t : TypeId) (x : AV) (lo hi : Option Operand) (K : AV → Prop) : Prop :=
  match x with
  | .one (.d (.s (.string s))) => match boundOf ev lo 0, boundOf ev hi s.size with
    | some l, some h => P.underlying t = some .string ∧ (0 ≤ l ∧ l ≤ h ∧ h ≤ (s.size : Int)) ∧ K (sv (.string (s.extract l.toNat h.toNat)))
    | _, _ => False
  | .one (.d (.list n cs)) => match boundOf ev lo 0, boundOf ev hi n, sliceT P t with
    | some l, some h, some (_, size, _) => (0 ≤ l ∧ l ≤ h ∧ h ≤ (n : Int)) ∧ K (.one (.d (.list (h.toNat - l.toNat) ((cs.drop (l.toNat * size)).take ((h.toNat - l.toNat) * size)))))
    | _, _, _ => False
  | .one (.own k g off n) => match boundOf ev lo 0, boundOf ev hi n, sliceT P t, blkAt H k g with
    | some l, some h, some (_, size, _), some B => (B.size = size ∧ 0 ≤ l ∧ l ≤ h ∧ h ≤ (n : Int)) ∧ K (.one (.own k g (off + l.toNat * size) (h.toNat - l.toNat)))
    | _, _, _, _ => False
  | .one (.d .nil) => match boundOf ev lo 0, boundOf ev hi 0, sliceT P t with
    | some l, some h, some _ => (l = 0 ∧ h = 0) ∧ K (.one (.d .nil))
    | _, _, _ => False
  | .one (.ptr k g off) => match arrT P t, blkAt H k g with
    | some (n, _, size), some B => match boundOf ev lo 0, boundOf ev hi n with
      | some l, some h => (B.size = size ∧ 0 ≤ l ∧ l ≤ h ∧ h ≤ (n : Int) ∧ off + n * size ≤ B.cells.length ∧ n ≤ 1000000) ∧ K (.one (.own k g (off + l.toNat * size) (h.toNat - l.toNat)))
      | _, _ => False
    | _, _ => False
  | _ => False

/-! Arithmetic -/
def intBin (op : BinOp) (k : IntKind) (a b : Int) (K : Value → Prop) : Prop :=
  match op with
  | .add => K (.int k (k.wrap (a + b)))
  | .sub => K (.int k (k.wrap (a - b)))
  | .mul => K (.int k (k.wrap (a * b)))
  | .quo => b ≠ 0 ∧ K (.int k (k.wrap (a.tdiv b)))
  | .rem => b ≠ 0 ∧ K (.int k (a.tmod b))
  | .and => K (.int k (k.wrap (BitVec.ofInt k.bits a &&& BitVec.ofInt k.bits b).toNat))
  | .or => K (.int k (k.wrap (BitVec.ofInt k.bits a ||| BitVec.ofInt k.bits b).toNat))
  | .xor => K (.int k (k.wrap (BitVec.ofInt k.bits a ^^^ BitVec.ofInt k.bits b).toNat))
  | .andNot => K (.int k (k.wrap (BitVec.ofInt k.bits a &&& ~~~ BitVec.ofInt k.bits b).toNat))
  | .eql => K (.bool (a == b))
  | .neq => K (.bool (a != b))
  | .lss => K (.bool (decide (a < b)))
  | .leq => K (.bool (decide (a ≤ b)))
  | .gtr => K (.bool (decide (a > b)))
  | .geq => K (.bool (decide (a ≥ b)))
  | _ => False

def shiftBin (op : BinOp) (k : IntKind) (a b : Int) (K : Value → Prop) : Prop :=
  match op with
  | .shl => 0 ≤ b ∧ K (.int k (k.wrap (a * 2 ^ (min b.toNat k.bits))))
  | .shr => 0 ≤ b ∧ K (.int k (a.fdiv (2 ^ (min b.toNat k.bits))))
  | _ => False

def strBin (op : BinOp) (x y : ByteArray) (K : Value → Prop) : Prop :=
  match op with
  | .add => (x.size + y.size ≤ maxLen) ∧ K (.string (x ++ y))
  | .eql => K (.bool (x.toList == y.toList))
  | .neq => K (.bool (!(x.toList == y.toList)))
  | _ => False

def boolBin (P : Program) (t : TypeId) (op : BinOp) (x y : Bool) (K : Value → Prop) : Prop :=
  match op with
  | .eql => P.underlying t = some .bool ∧ K (.bool (x == y))
  | .neq => P.underlying t = some .bool ∧ K (.bool (!(x == y)))
  | _ => False

def isShift : BinOp → Bool
  | .shl | .shr => true
  | _ => false

/-- Two structs of scalars are asked whether they are the same: what comes is r. -/
def EqAgg (P : Program) (t : TypeId) (a b : List Value) (r : Bool) : Prop :=
  ∀ (w : World), (∀ (op : BinOp) (x y : Operand), (eqGuard op t x y (.agg a.toArray) (.agg b.toArray)).run P w = .ok () w) ∧ (Op.equal t (.agg a.toArray) (.agg b.toArray)).run P w = .ok r w
def scells (a : List Value) : List AC := a.map fun v => .d (.s v)
def aggBin (P : Program) (op : BinOp) (t : TypeId) (xs ys : List AC) (K : Value → Prop) : Prop :=
  ∃ (a b : List Value) (r : Bool), xs = scells a ∧ ys = scells b ∧ EqAgg P t a b r ∧ ((op = .eql ∧ K (.bool r)) ∨ (op = .neq ∧ K (.bool (!r))))

def ifaceT (P : Program) (t : TypeId) : Bool := match P.underlying t with
  | some (.interface _) => true
  | _ => false
def binA (P : Program) (op : BinOp) (t : TypeId) (x y : AV) (K : AV → Prop) : Prop :=
  match x, y with
  | .one (.d (.s (.int k a))), .one (.d (.s (.int k' b))) =>
    if isShift op then shiftBin op k a b (fun v => K (sv v)) else k = k' ∧ intBin op k a b (fun v => K (sv v))
  | .one (.d (.s (.string a))), .one (.d (.s (.string b))) => strBin op a b (fun v => K (sv v))
  | .one (.d (.s (.bool a))), .one (.d (.s (.bool b))) => boolBin P t op a b (fun v => K (sv v))
  | .agg xs, .agg ys => aggBin P op t xs ys (fun v => K (sv v))
  | _, _ => False

/-- The nil slice, written out. -/
def isNilC : Operand → Bool
  | .const (.slice none 0 0) => true
  | _ => false
/-- A slice is asked whether it is nil. Of one that holds nothing that is not known. -/
def nilCmpA (P : Program) (H : AHeap) (op : BinOp) (t : TypeId) (x : AV) (K : AV → Prop) : Prop :=
  (sliceT P t).isSome = true ∧ (op = .eql ∨ op = .neq) ∧ match x with
  | .one (.d .nil) => K (bv (op == .eql))
  | .one (.d (.list _ [])) => ∀ b, K (bv b)
  | .one (.d (.list _ (_ :: _))) => K (bv (op == .neq))
  | .one (.own k g _ n) => (blkAt H k g).isSome = true ∧ (0 < n → K (bv (op == .neq))) ∧ (n = 0 → ∀ b, K (bv b))
  | _ => False

/-- The nil interface value, written out. -/
def isNilI : Operand → Bool
  | .const .nilIface => true
  | _ => false
/-- An error is asked whether it is nil. -/
def ifcA (P : Program) (op : BinOp) (t : TypeId) (x : AV) (K : AV → Prop) : Prop :=
  ifaceT P t = true ∧ (op = .eql ∨ op = .neq) ∧ match x with
  | .one (.d (.s .nilIface)) => K (bv (op == .eql))
  | .one (.d (.err _)) => K (bv (op == .neq))
  | _ => False

def unA (op : UnOp) (x : AV) (K : AV → Prop) : Prop :=
  match op, x with
  | .not, .one (.d (.s (.bool b))) => K (bv (!b))
  | .neg, .one (.d (.s (.int k n))) => K (iv k (k.wrap (0 - n)))
  | _, _ => False

/-- The bytes that cells hold. -/
def DC.byte? : DC → Option UInt8
  | .s (.int .u8 n) => some (UInt8.ofNat n.toNat)
  | _ => none

def AC.dc? : AC → Option DC
  | .d c => some c
  | _ => none

/-- What a slice holds as data. -/
def elems? (H : AHeap) (size : Nat) : AV → Option (Nat × List AC)
  | .one (.d .nil) => some (0, [])
  | .one (.d (.list n cs)) => some (n, (cs.take (n * size)).map .d)
  | .one (.own k g off n) => match blkAt H k g with
    | some B => some (n, (B.cells.drop off).take (n * size))
    | none => none
  | _ => none

def bytesOf? (cs : List AC) : Option (List UInt8) := cs.mapM fun c => (c.dc?).bind DC.byte?

def convA (P : Program) (H : AHeap) (src dst : TypeId) (x : AV) (K : AV → Prop) : Prop :=
  match P.underlying dst, x with
  | some (.int k), .one (.d (.s (.int _ n))) => (P.underlying src).isSome = true ∧ K (iv k (k.wrap n))
  | some .string, .one (.d (.s (.string s))) => P.underlying src = some .string ∧ K (sv (.string s))
  | some .string, x => match P.underlying src with
    | some (.slice e) => P.underlying e = some (.int .u8) ∧ match elems? H 1 x with
      | some (n, cs) => match bytesOf? cs with
        | some bs => cs.length = n ∧ K (sv (.string ⟨bs.toArray⟩))
        | none => False
      | none => False
    | _ => False
  | _, _ => False

def lenA (P : Program) (H : AHeap) (t : TypeId) (x : AV) (K : AV → Prop) : Prop :=
  match x with
  | .one (.d (.s (.string s))) => P.underlying t = some .string ∧ K (iv .i64 s.size)
  | .one (.d .nil) => (sliceT P t).isSome = true ∧ K (iv .i64 0)
  | .one (.d (.list n _)) => (sliceT P t).isSome = true ∧ K (iv .i64 n)
  | .one (.own k g _ n) => ((sliceT P t).isSome = true ∧ (blkAt H k g).isSome = true) ∧ K (iv .i64 n)
  | .one (.d (.map es _)) => (mapT P t).isSome = true ∧ K (iv .i64 es.length)
  | .one (.mp k g) => match objAt H k g with
    | some (es, _) => (mapT P t).isSome = true ∧ K (iv .i64 es.length)
    | none => False
  | _ => False

/-! Places of a literal's parts -/
def fillA (place : Nat → Option (Nat × Nat)) (cells : List AC) : List (Nat × AV) → Option (List AC)
  | [] => some cells
  | (i, x) :: rest => match place i, x.cells? with
    | some (off, size), some cs => if cs.length = size ∧ off + size ≤ cells.length then fillA place (splice cells off cs) rest else none
    | _, _ => none

/-- of a struct: each field's offset and cells. -/
def placesT (P : Program) (t : TypeId) : Option (List (Nat × Nat)) :=
  match P.underlying t with
  | some (.struct fs) => fs.toList.mapM (fun f => (P.info? f.type).map fun i => (f.offset, i.size))
  | some (.array n e) => (szOf P e).map fun s => (List.range n).map fun i => (i * s, s)
  | _ => none

end Go.Abs
namespace Go.Abs
set_option linter.unusedSimpArgs false
set_option linter.unusedVariables false
set_option linter.unnecessarySimpa false
open Go

def RelVs (w : World) (E : Env) (xs : List AV) (vs : List Value) : Prop :=
  xs.length = vs.length ∧ ∀ (j : Nat) x v, xs[j]? = some x → vs[j]? = some v → RelV w E x v

/-- Called with values that read so, in whatever world: it returns what 'post' says of, and nothing that was there and was not its own to write has changed. -/
def ACall (P : Program) (f : FuncId) (args : List AV) (H : AHeap) (clk : Nat) (post : AV → AHeap → Nat → Prop) : Prop :=
  ∀ (w : World) (E : Env) (vals : List Value), E.clk = clk → SimH w E H → RelVs w E args vals →
    Calls P f vals.toArray w fun e w' => ∃ v r H' E', e = .returned v ∧ Env.Le w E w' E' ∧ SimH w' E' H' ∧ RelV w' E' r v ∧
      Frm w (LiveB E H) w' ∧ (∀ b, LiveB E' H' b → LiveB E H b ∨ w.heap.size ≤ b) ∧ (∀ b, b < w.heap.size → E'.I b → E.I b ∨ LiveB E H b) ∧ post r H' E'.clk

/-- What waits for the function's end: marks of loops over functions that are over, no call among them. -/
def Marks (w0 w : World) (E : Env) (ds : List Deferred) : Prop :=
  ∃ Ds : List Nat, ds = Ds.map (fun D => { target := .collected D, args := #[] }) ∧ Ds.Nodup ∧ ∀ D ∈ Ds, w0.heap.size ≤ D ∧ E.I D ∧ w.heap[D]? = some (.deferred (some []))
theorem Marks.nil (w0 w : World) (E : Env) : Marks w0 w E [] := ⟨[], rfl, List.nodup_nil, fun D h => by simp at h⟩
theorem Marks.mono {w0 w w' : World} {E E' : Env} {ds : List Deferred} (h : Marks w0 w E ds) (hle : Env.Le w E w' E') : Marks w0 w' E' ds := by
  obtain ⟨Ds, h1, h2, h3⟩ := h
  exact ⟨Ds, h1, h2, fun D hD => ⟨(h3 D hD).1, (hle.I D (h3 D hD).2.1).1, (hle.I D (h3 D hD).2.1).2.trans (h3 D hD).2.2⟩⟩
/-- An abstract state and what it stands for. -/
structure InvE (w0 : World) (E0 : Env) (H0 : AHeap) (st : ASt) (a : Act) (w : World) (E : Env) : Prop where
  dfr : Marks w0 w E a.defers
  le : Env.Le w0 E0 w E
  clk : E.clk = st.clk
  sim : SimH w E st.heap
  rel : RelVs w E st.tmps a.tmps.toList
  frm : Frm w0 (LiveB E0 H0) w
  live : ∀ b, LiveB E st.heap b → LiveB E0 H0 b ∨ w0.heap.size ≤ b
  I0 : ∀ b, b < w0.heap.size → E.I b → E0.I b ∨ LiveB E0 H0 b

def Inv (w0 : World) (E0 : Env) (H0 : AHeap) (st : ASt) (a : Act) (w : World) : Prop := ∃ E, InvE w0 E0 H0 st a w E

/-- A function that can be called: it has a body. -/
def callable (P : Program) (f : FuncId) : Bool :=
  match P.funcs[f]? with
  | some fn => fn.body.isSome && !(fn.name == "runtime.NumGoroutine")
  | none => false

/-- An operation taken in an abstract state leads to states of which K holds. -/
def OpOk (P : Program) (o : Oper) (st : ASt) (K : ASt → Prop) : Prop :=
  ∀ w0 E0 H0 a w, Inv w0 E0 H0 st a w → ∀ (N : Act → World → Prop) (Q : Exit → Act → World → Prop), (∀ st' a' w', K st' → Inv w0 E0 H0 st' a' w' → a'.defers = a.defers → N a' w') → o.wp P a w N Q

/-- No fence but the round that is under way. -/
abbrev Wd (ro : Option Nat) : Fence := { fn := fun _ => True, depth := none, alive := false, round := ro }
/-- No loop over a function is in it. -/
def noRange : Code → Bool
  | .seq a b | .cond _ a b => noRange a && noRange b
  | .block _ c | .loop c | .scope c => noRange c
  | .rangeFunc .. => false
  | _ => true
/-- Code taken in an abstract state, in a round over a function or in none. -/
def CodeOk (P : Program) (c : Code) (Q : Exit → ASt → Prop) (st : ASt) : Prop :=
  ∀ (ro : Option Nat) (n : Nat), (ro = none ∨ noRange c = true) → ∀ w0 E0 H0 a w, Inv w0 E0 H0 st a w → c.wpIn (Wd ro) n P (fun e a' w' => (noRange c = false ∨ a'.defers = a.defers) ∧ ∃ st', Q e st' ∧ Inv w0 E0 H0 st' a' w') a w
theorem put_defers (a : Act) (d : Option Tmp) (v : Value) : (a.put d v).defers = a.defers := by cases d <;> rfl
theorem defers_trans {p : Prop} {a b c : Act} (h : p ∨ b.defers = a.defers) (k : p ∨ c.defers = b.defers) : p ∨ c.defers = a.defers :=
  h.elim .inl fun h => k.imp (fun k => k) fun k => k.trans h

def ASt.guard (st : ASt) (ops : Array Oper) (j : Nat) : Option (Option Bool) :=
  match (ops[j]?).bind (·.dst) with
  | some d => match st.tmps.getD d unknown with
    | .one (.d (.s (.bool b))) => some (some b)
    | .tup [] => some none
    | _ => none
  | none => none

def makeA (P : Program) (H : AHeap) (clk : Nat) (t : TypeId) (l c : AV) (K : AV → AHeap → Nat → Prop) : Prop :=
  match sliceT P t, l, c with
  | some (e, size, bytes), .one (.d (.s (.int _ n))), .one (.d (.s (.int _ m))) => match zeroT P e with
    | some z => (z.length = size ∧ 0 ≤ n ∧ n ≤ m ∧ (bytes : Int) * m ≤ 281474976710656 ∧ m ≤ 9223372036854775807) ∧
        K (.one (.own H.length clk 0 n.toNat)) (H ++ [some ⟨clk, e, size, (List.replicate m.toNat z).flatten⟩]) (clk + 1)
    | none => False
  | _, _, _ => False

def appendA (P : Program) (H : AHeap) (clk : Nat) (t u : TypeId) (x y : AV) (K : AV → AHeap → Nat → Prop) : Prop :=
  match sliceT P t, elems? H (((sliceT P t).map (·.2.1)).getD 0) y with
  | some (e, size, bytes), some (m, news) => (u = t ∧ 0 < size ∧ news.length = m * size ∧ (zeroT P e).map List.length = some size) ∧
    match x with
    | .one (.d .nil) => (m * bytes ≤ 140737488355328 ∧ m ≤ maxLen) ∧ K (.one (.own H.length (clk + 1) 0 m)) (H ++ [some ⟨clk + 1, e, size, news⟩]) (clk + 2)
    | .one (.own k g off n) => match blkAt H k g with
      | some B => (off = 0 ∧ B.size = size ∧ B.elem = e ∧ n * size ≤ B.cells.length ∧ (n + m) * bytes ≤ 140737488355328 ∧ n + m ≤ maxLen) ∧
          K (.one (.own k clk 0 (n + m))) (H.set k (some ⟨clk, e, size, B.cells.take (n * size) ++ news⟩)) (clk + 1)
      | none => False
    | _ => False
  | _, _ => False

/-- copy: how many elements; the own array behind it. -/
def copyA (P : Program) (H : AHeap) (t : TypeId) (x y : AV) (K : AV → AHeap → Prop) : Prop :=
  match sliceT P t, elems? H (((sliceT P t).map (·.2.1)).getD 0) y with
  | some (_, size, _), some (m, news) => match x with
    | .one (.own k g off n) => match blkAt H k g with
      | some B => (B.size = size ∧ news.length = m * size ∧ off + n * size ≤ B.cells.length) ∧
          K (iv .i64 (min m n : Nat)) (H.set k (some { B with cells := B.cells.take off ++ news.take (min m n * size) ++ B.cells.drop (off + min m n * size) }))
      | none => False
    | _ => False
  | _, _ => False
/-- What a function takes along, where all of it is data. -/
def capsA : List AV → Option (List DC)
  | [] => some []
  | .one (.d c) :: xs => (capsA xs).map (c :: ·)
  | _ => none
/-- The operations that come more rarely. -/
def xcore (P : Program) (op : Op) (ev : Operand → AV) (H : AHeap) (clk : Nat) (K : AV → AHeap → Nat → Prop) : Prop :=
  match op with
  | .makeMap _ none => K (.one (.mp H.length clk)) (H ++ [some ⟨clk, 0, 0, [.obj [] 0]⟩]) (clk + 1)
  | .lookup t m k ok => lookupA P H t (ev m) (ev k) ok fun v => K v H clk
  | .mapUpdate t m k v => mapUpdA P H t (ev m) (ev k) (ev v) fun H' => K unknown H' clk
  | .call { callee := .builtin .delete, args, argTypes } => match args.toList, argTypes.toList with
    | [m, k], [t, _] => mapDelA P H t (ev m) (ev k) fun H' => K unknown H' clk
    | _, _ => False
  | .call { callee := .builtin .copy, args, argTypes } => match args.toList, argTypes.toList with
    | [x, y], [t, _] => copyA P H t (ev x) (ev y) fun v H' => K v H' clk
    | _, _ => False
  | .call { callee := .builtin .max, args, .. } => match args.toList with
    | [x, y] => match ev x, ev y with
      | .one (.d (.s (.int k a))), .one (.d (.s (.int k' b))) => k = k' ∧ K (iv k (max a b)) H clk
      | _, _ => False
    | _ => False
  | .call { callee := .builtin .min, args, .. } => match args.toList with
    | [x, y] => match ev x, ev y with
      | .one (.d (.s (.int k a))), .one (.d (.s (.int k' b))) => k = k' ∧ K (iv k (min a b)) H clk
      | _, _ => False
    | _ => False
  | .makeFunc (.func f) first captured => match first.toList, capsA (captured.toList.map ev) with
    | [], some cs => K (.one (.d (.fn f cs))) H clk
    | _, _ => False
  | .call { callee := .value x, args, .. } => match ev x with
    | .one (.d (.fn f cs)) => callable P f = true ∧ ACall P f (args.toList.map ev ++ cs.map fun c => .one (.d c)) H clk K
    | _ => False
  | _ => False
/-- What an operation yields, its operands told by 'ev'. -/
def acore (P : Program) (op : Op) (ev : Operand → AV) (H : AHeap) (clk : Nat) (K : AV → AHeap → Nat → Prop) : Prop :=
  match op with
  | .move x | .assign x => K (ev x) H clk
  | .pick c x y => match ev c with
    | .one (.d (.s (.bool b))) => K (if b then ev x else ev y) H clk
    | _ => False
  | .alloc e => match zeroT P e, unitT P e with
    | some z, some n => K (.one (.ptr H.length clk 0)) (H ++ [some ⟨clk, e, n, z⟩]) (clk + 1)
    | _, _ => False
  | .box e x => match (ev x).cells?, unitT P e with
    | some cs, some n => K (.one (.ptr H.length clk 0)) (H ++ [some ⟨clk, e, n, cs⟩]) (clk + 1)
    | _, _ => False
  | .build t ps => match zeroT P t, placesT P t with
    | some z, some pl => match fillA (fun i => pl[i]?) z (ps.toList.map fun (i, x) => (i, ev x)) with
      | some cs => K (.agg cs) H clk
      | none => False
    | _, _ => False
  | .buildSlice t len ps => match sliceT P t with
    | some (e, size, _) => match zeroT P e with
      | some z => match fillA (fun i => some (i * size, size)) (List.replicate len z).flatten (ps.toList.map fun (i, x) => (i, ev x)) with
        | some cs => (z.length = size ∧ len * size ≤ 16777216 ∧ 0 < size) ∧ K (.one (.own H.length clk 0 len)) (H ++ [some ⟨clk, e, size, cs⟩]) (clk + 1)
        | none => False
      | none => False
    | none => False
  | .load t x => loadA P H t (ev x) fun v => K v H clk
  | .store t x y => storeA P H t (ev x) (ev y) fun H' => K unknown H' clk
  | .binOp op t x y _ => if isNilC y = true then nilCmpA P H op t (ev x) fun v => K v H clk else if isNilI y = true then ifcA P op t (ev x) fun v => K v H clk else binA P op t (ev x) (ev y) fun v => K v H clk
  | .unOp op _ x => unA op (ev x) fun v => K v H clk
  | .convert s t x => convA P H s t (ev x) fun v => K v H clk
  | .makeSlice t l c => makeA P H clk t (ev l) (ev c) K
  | .slice t x lo hi none => sliceA P H ev t (ev x) lo hi fun v => K v H clk
  | .fieldAddr s x f => fieldAddrA P H s (ev x) f fun v => K v H clk
  | .field s x f => fieldA P s (ev x) f fun v => K v H clk
  | .indexAddr t x i => indexA P H t (ev x) (ev i) fun v => K v H clk
  | .index t x i => indexVA P t (ev x) (ev i) fun v => K v H clk
  | .extract x i => match ev x with
    | .tup vs => match vs[i]? with
      | some (.one c) => K (.one c) H clk
      | some (.agg cs) => K (.agg cs) H clk
      | _ => False
    | _ => False
  | .call { callee := .builtin .len, args, argTypes } => match args.toList, argTypes.toList with
    | [x], [t] => lenA P H t (ev x) fun v => K v H clk
    | _, _ => False
  | .call { callee := .builtin .append, args, argTypes } => match args.toList, argTypes.toList with
    | [x, y], [t, u] => appendA P H clk t u (ev x) (ev y) K
    | _, _ => False
  | .call { callee := .value (.func f), args, .. } => callable P f = true ∧
      ACall P f (args.toList.map ev) H clk K
  | .nilCheck x => nilA H (ev x) fun v => K v H clk
  | op => xcore P op ev H clk K

/-- What an operation does to an abstract state. -/
def aop (P : Program) (o : Oper) (st : ASt) (K : ASt → Prop) : Prop :=
  acore P o.op st.eval st.heap st.clk fun v H c => K (ASt.put ⟨st.tmps, H, c⟩ o.dst v)

def AOps (P : Program) (ops : Array Oper) (Q : Exit → ASt → Prop) : List Oper → ASt → Prop
  | [], st => Q .normal st
  | o :: rest, st => match o.guard with
    | none => aop P o st (AOps P ops Q rest)
    | some (j, want) => match st.guard ops j with
      | some b => if b = some want then aop P o st (AOps P ops Q rest) else AOps P ops Q rest (st.put o.dst (.tup []))
      | none => False

def AExit.then (next : ASt → Prop) (Q : Exit → ASt → Prop) : Exit → ASt → Prop
  | .normal, st => next st
  | e, st => Q e st
def AExit.inBlock (id : Nat) (Q : Exit → ASt → Prop) : Exit → ASt → Prop
  | .exit id', st => if id' = id then Q .normal st else Q (.exit id') st
  | e, st => Q e st

/-- What comes behind a scope through which the run goes without a goto. -/
def AExit.inScope (Q : Exit → ASt → Prop) : Exit → ASt → Prop
  | .goto _, _ => False
  | e, st => Q e st

def AW (P : Program) : Code → (Exit → ASt → Prop) → ASt → Prop
  | .skip, Q, st => Q .normal st
  | .region _ ops false, Q, st => AOps P ops Q ops.toList st
  | .seq a b, Q, st => AW P a (AExit.then (AW P b Q) Q) st
  | .cond c x y, Q, st => match st.eval c with
    | .one (.d (.s (.bool b))) => (b = true → AW P x Q st) ∧ (b = false → AW P y Q st)
    | _ => False
  | .block id c, Q, st => AW P c (AExit.inBlock id Q) st
  | .exit id, Q, st => Q (.exit id) st
  | .ret, Q, st => Q .ret st
  | .scope c, Q, st => AW P c (AExit.inScope Q) st
  | .label _, Q, st => Q .normal st
  | c, Q, st => CodeOk P c Q st

/-- What comes behind the first part of a sequence. -/
def seqK (P : Program) (b : Code) (Q : Exit → ASt → Prop) : Exit → ASt → Prop := AExit.then (AW P b Q) Q

/-- The results of a function, read at its end. -/
def resA (P : Program) (st : ASt) : ResultVar → (AV → Prop) → Prop
  | .tmp t, K => K (st.tmps.getD t unknown)
  | .cell a t, K => loadA P st.heap t (st.tmps.getD a unknown) K

def ressA (P : Program) (st : ASt) : List ResultVar → (List AV → Prop) → Prop
  | [], K => K []
  | r :: rs, K => resA P st r fun x => ressA P st rs fun xs => K (x :: xs)

def AV.ofResults : List AV → AV
  | [x] => x
  | xs => .tup xs

def AV.single : AV → Bool
  | .tup _ => false
  | _ => true
def okRes : List AV → Bool
  | [_] => true
  | xs => xs.all AV.single

def bodyA (P : Program) (rs : List ResultVar) (post : AV → AHeap → Nat → Prop) : Exit → ASt → Prop
  | .normal, st | .ret, st => ressA P st rs fun xs => okRes xs = true ∧ post (AV.ofResults xs) st.heap st.clk
  | _, _ => False

end Go.Abs
namespace Go.Abs
set_option linter.unusedSimpArgs false
set_option linter.unusedVariables false
set_option linter.unnecessarySimpa false
open Go

section
variable {w w' : World} {E E' : Env}

theorem RelCs.take {cs : List AC} {vs : List Value} (h : RelCs w E cs vs) (n : Nat) : RelCs w E (cs.take n) (vs.take n) :=
  ⟨by simp [h.1], fun j c v hc hv => by
    rw [List.getElem?_take] at hc hv
    split at hc
    · rename_i hj; rw [if_pos hj] at hv; exact h.2 j c v hc hv
    · cases hc⟩
theorem RelCs.drop {cs : List AC} {vs : List Value} (h : RelCs w E cs vs) (n : Nat) : RelCs w E (cs.drop n) (vs.drop n) :=
  ⟨by simp [h.1], fun j c v hc hv => by
    rw [List.getElem?_drop] at hc hv; exact h.2 _ c v hc hv⟩
theorem RelCs.append {cs ds : List AC} {vs us : List Value} (h : RelCs w E cs vs) (k : RelCs w E ds us) : RelCs w E (cs ++ ds) (vs ++ us) :=
  ⟨by simp [h.1, k.1], fun j c v hc hv => by
    rw [List.getElem?_append] at hc hv
    by_cases hj : j < cs.length
    · rw [if_pos hj] at hc; rw [if_pos (by rw [← h.1]; exact hj)] at hv; exact h.2 j c v hc hv
    · rw [if_neg hj] at hc; rw [if_neg (by rw [← h.1]; exact hj)] at hv; rw [← h.1] at hv; exact k.2 _ c v hc hv⟩
theorem RelCs.nil : RelCs w E [] [] := ⟨rfl, fun j c v hc _ => by simp at hc⟩
theorem RelCs.one {c : AC} {v : Value} (h1 : v.oneCell' = true) (h : RelC w E c v) : RelCs w E [c] [v] :=
  ⟨rfl, fun j c' v' hc hv => by
    match j with
    | 0 => simp at hc hv; subst hc; subst hv; exact ⟨h1, h⟩
    | j + 1 => simp at hc⟩
theorem RelCs.at_ {cs : List AC} {vs : List Value} (h : RelCs w E cs vs) {j : Nat} {c : AC} (hc : cs[j]? = some c) : ∃ v, vs[j]? = some v ∧ v.oneCell' = true ∧ RelC w E c v := by
  have hj : j < cs.length := (List.getElem?_eq_some_iff.1 hc).1
  have hv : j < vs.length := by rw [← h.1]; exact hj
  exact ⟨vs[j], List.getElem?_eq_getElem hv, h.2 j c _ hc (List.getElem?_eq_getElem hv)⟩

theorem splice_eq (cs : List AC) (off : Nat) (xs : List AC) (h : off + xs.length ≤ cs.length) : splice cs off xs = cs.take off ++ xs ++ cs.drop (off + xs.length) := by
  unfold splice
  split
  · rename_i x
    rw [List.set_eq_take_append_cons_drop, if_pos (by simp at h; omega)]
    simp
  · rfl
theorem length_splice (cs : List AC) (off : Nat) (xs : List AC) (h : off + xs.length ≤ cs.length) : (splice cs off xs).length = cs.length := by
  rw [splice_eq cs off xs h]; simp; omega
theorem RelCs.splice {cs ds : List AC} {vs us : List Value} (h : RelCs w E cs vs) (k : RelCs w E ds us) {off : Nat} (hl : off + ds.length ≤ cs.length) :
    RelCs w E (Abs.splice cs off ds) (vs.take off ++ us ++ vs.drop (off + us.length)) := by
  rw [splice_eq cs off ds hl, ← k.1]
  exact ((h.take off).append k).append (h.drop _)

theorem known_one {c : AC} {v : Value} (hk : c.known = true) (h : RelC w E c v) : v.oneCell' = true := by
  cases c with
  | d c => exact RelD.oneCell (c := c) h
  | own => exact h.1
  | ptr => exact h.1
  | mp => exact h.1
  | obj => exact h.elim
  | any => simp [AC.known] at hk
theorem cells_known {x : AV} {cs : List AC} {v : Value} (hc : x.cells? = some cs) (h : RelV w E x v) : RelCs w E cs v.cells.toList := by
  cases x with
  | one c =>
    simp only [AV.cells?] at hc
    split at hc
    · rename_i hk
      cases hc
      have h1 : v.oneCell' = true := known_one hk h
      have : v.cells.toList = [v] := by cases v <;> simp_all [Value.cells, Value.oneCell']
      rw [this]
      exact RelCs.one h1 h
    · cases hc
  | agg ds =>
    simp only [AV.cells?, Option.some.injEq] at hc
    subst hc
    obtain ⟨l, rfl, hr⟩ := h
    simpa [Value.cells] using hr
  | tup vs => simp [AV.cells?] at hc

theorem ofValue_rel (v : Value) : RelC w E (AC.ofValue v) v := by
  unfold AC.ofValue
  split <;> first | exact RelD.nil | exact RelD.s rfl | trivial

/-- The cells from an address on read so. -/
def Readable (w : World) (E : Env) (ad : Addr) (cs : List AC) : Prop :=
  ∃ vs : List Value, RelCs w E cs vs ∧ ∀ j v, vs[j]? = some v → w.cell? (ad.add j) = some v

theorem Readable.drop {ad : Addr} {cs : List AC} (h : Readable w E ad cs) (n : Nat) : Readable w E (ad.add n) (cs.drop n) := by
  obtain ⟨vs, hr, hc⟩ := h
  exact ⟨vs.drop n, hr.drop n, fun j v hv => by rw [List.getElem?_drop] at hv; rw [add_add]; exact hc _ _ hv⟩
theorem Readable.take {ad : Addr} {cs : List AC} (h : Readable w E ad cs) (n : Nat) : Readable w E ad (cs.take n) := by
  obtain ⟨vs, hr, hc⟩ := h
  exact ⟨vs.take n, hr.take n, fun j v hv => by
    rw [List.getElem?_take] at hv
    split at hv
    · exact hc _ _ hv
    · cases hv⟩

theorem readable_list {cs : List DC} {ad : Addr} (f : Nat → Value) (hc : ∀ j, j < cs.length → w.cell? (ad.add j) = some (f j))
    (hr : ∀ (j : Nat) (h : j < cs.length), RelD w E.I cs[j] (f j)) : Readable w E ad (cs.map .d) := by
  refine ⟨(List.range cs.length).map f, ⟨by simp, fun j c v h1 h2 => ?_⟩, fun j v h2 => ?_⟩
  · rw [List.getElem?_map] at h1 h2
    have hj : j < cs.length := by
      rcases Nat.lt_or_ge j cs.length with h | h
      · exact h
      · rw [List.getElem?_eq_none h] at h1; cases h1
    rw [List.getElem?_eq_getElem hj] at h1
    rw [List.getElem?_range hj] at h2
    simp at h1 h2
    subst h1; subst h2
    exact ⟨(hr j hj).oneCell, hr j hj⟩
  · rw [List.getElem?_map] at h2
    have hj : j < cs.length := by
      rcases Nat.lt_or_ge j cs.length with h | h
      · exact h
      · rw [List.getElem?_eq_none (by simpa using h)] at h2; cases h2
    rw [List.getElem?_range hj] at h2
    simp at h2
    subst h2
    exact hc j hj

theorem BlkOk.cells {i : BI} {B : ABlk} (h : BlkOk w E i B) (hs : B.size ≠ 0) {b : Nat} (hb : i.blk = some b) : ¬ E.I b ∧ CellsAt w E i B b := by
  obtain ⟨_, _, _, _, h5⟩ := h
  rw [hb] at h5
  obtain ⟨h1, h2 | h2⟩ := h5
  · exact ⟨h1, h2⟩
  · exact (h2.not hs).elim
theorem BlkOk.readable {i : BI} {B : ABlk} (h : BlkOk w E i B) (hs : B.size ≠ 0) {b : Nat} (hb : i.blk = some b) (off : Nat) : Readable w E ⟨b, off, none⟩ (B.cells.drop off) := by
  obtain ⟨_, C, hC, hl, hle, hr⟩ := h.cells hs hb
  refine ⟨(C.take B.cells.length).drop off, hr.drop off, fun j v hv => ?_⟩
  rw [List.getElem?_drop, List.getElem?_take] at hv
  split at hv
  · rw [add_lit, World.cell?, hC]; simpa using hv
  · cases hv
end

theorem blkAt_some {H : AHeap} {k g : Nat} {B : ABlk} (h : blkAt H k g = some B) : H[k]? = some (some B) ∧ B.gen = g := by
  unfold blkAt at h
  split at h
  · rename_i B' hB
    split at h
    · rename_i hg; cases h; exact ⟨hB, hg.1⟩
    · cases h
  · cases h
theorem blkAt_size {H : AHeap} {k g : Nat} {B : ABlk} (h : blkAt H k g = some B) : B.size ≠ 0 := by
  unfold blkAt at h
  split at h
  · split at h
    · rename_i hg; cases h; exact hg.2
    · cases h
  · cases h
theorem objAt_some {H : AHeap} {k g : Nat} {es : List MapEntry} {c : Nat} (h : objAt H k g = some (es, c)) : ∃ B, H[k]? = some (some B) ∧ B.gen = g ∧ B.size = 0 ∧ B.elem = 0 ∧ B.cells = [.obj es c] := by
  unfold objAt at h
  split at h
  · rename_i B hB
    split at h
    · rename_i hg
      split at h
      · rename_i es' c' hc; cases h; exact ⟨B, hB, hg.1, hg.2.1, hg.2.2, hc⟩
      · cases h
    · cases h
  · cases h

section
variable {P : Program}

theorem run_isAgg {t : TypeId} {b : Bool} (h : aggT P t = some b) (w : World) : (isAgg t).run P w = .ok b w := by
  unfold aggT at h
  cases hu : P.underlying t with
  | none => simp [hu] at h
  | some d =>
    simp [hu] at h
    simp only [isAgg, Sem.run_bind, run_underlying hu, Result.andThen_ok]
    cases d <;> simp_all
theorem run_sizeOf {t : TypeId} {n : Nat} (h : szOf P t = some n) (w : World) : (sizeOf t).run P w = .ok n w := by
  unfold szOf at h
  cases hi : P.info? t with
  | none => simp [hi] at h
  | some i => simp [hi] at h; subst h; simp [sizeOf, typeInfo, hi]

theorem run_loadVar {w : World} {E : Env} {t : TypeId} {agg : Bool} {n : Nat} {x : AV} {cs : List AC} {ad : Addr} (ha : aggT P t = some agg) (hn : szOf P t = some n)
    (hv : valueOf agg n cs = some x) (hr : Readable w E ad cs) : ∃ v, (loadVar t ad).run P w = .ok v w ∧ RelV w E x v := by
  obtain ⟨vs, hrel, hc⟩ := hr
  unfold valueOf at hv
  simp only [loadVar, Sem.run_bind, run_isAgg ha, Result.andThen_ok]
  cases agg with
  | true =>
    simp only [if_true] at hv ⊢
    split at hv
    · rename_i hle
      cases hv
      have h1 := hrel.take n
      have hl : (vs.take n).length = n := by rw [← h1.1]; simp; omega
      have hld := run_loadCells_list (P := P) w ad (vs.take n) (fun j v hj => by
        rw [List.getElem?_take] at hj
        split at hj
        · exact hc _ _ hj
        · cases hj)
      rw [hl] at hld
      refine ⟨.agg (vs.take n).toArray, ?_, ⟨_, rfl, h1⟩⟩
      simp [run_sizeOf hn, hld]
    · cases hv
  | false =>
    simp only [Bool.false_eq_true, if_false] at hv ⊢
    cases cs with
    | nil => simp at hv
    | cons c cs =>
      simp at hv; subst hv
      obtain ⟨v, hv, _, hrc⟩ := hrel.at_ (j := 0) (c := c) rfl
      have := hc 0 v hv
      have h0 : ad.add 0 = ad := by unfold Addr.add; simp
      rw [h0] at this
      exact ⟨v, by simp [this], hrc⟩
end
end Go.Abs
namespace Go.Abs
set_option linter.unusedSimpArgs false
set_option linter.unusedVariables false
set_option linter.unnecessarySimpa false
open Go

section
variable {P : Program} {w0 w : World} {E0 E : Env} {H0 : AHeap} {st : ASt} {a : Act} {o : Oper} {K : ASt → Prop}

theorem RelVs.set {xs : List AV} {vs : List Value} (h : RelVs w E xs vs) (d : Nat) {x : AV} {v : Value} (r : RelV w E x v) : RelVs w E (xs.set d x) (vs.set d v) :=
  ⟨by simp [h.1], fun j y u hy hu => by
    rw [List.getElem?_set] at hy hu
    by_cases hj : d = j
    · subst hj
      rw [if_pos rfl] at hy hu
      split at hy
      · rename_i hl
        rw [if_pos (by rw [← h.1]; exact hl)] at hu
        cases hy; cases hu; exact r
      · cases hy
    · rw [if_neg hj] at hy hu; exact h.2 j y u hy hu⟩
theorem RelVs.mono {w' : World} {E' : Env} (h : Env.Le w E w' E') {xs : List AV} {vs : List Value} (r : RelVs w E xs vs) : RelVs w' E' xs vs :=
  ⟨r.1, fun j x v hx hv => (r.2 j x v hx hv).mono h⟩

theorem InvE.put (h : InvE w0 E0 H0 st a w E) (dst : Option Tmp) {x : AV} {v : Value} (r : RelV w E x v) : InvE w0 E0 H0 (st.put dst x) (a.put dst v) w E := by
  cases dst with
  | none => exact h
  | some d =>
    exact ⟨(by simpa [Act.put] using h.dfr), h.le, h.clk, h.sim, by simpa [ASt.put, Act.put] using h.rel.set d r, h.frm, h.live, h.I0⟩

theorem rel_unknown (v : Value) : RelV w E unknown v := trivial

theorem InvE.eval (h : InvE w0 E0 H0 st a w E) (x : Operand) : RelV w E (st.eval x) (a.eval x) := by
  cases x with
  | tmp t =>
    simp only [ASt.eval, Act.eval]
    by_cases ht : t < st.tmps.length
    · have ht' : t < a.tmps.size := by have h1 := h.rel.1; rw [Array.length_toList] at h1; exact h1 ▸ ht
      rw [List.getD_eq_getElem?_getD, List.getElem?_eq_getElem ht]
      refine h.rel.2 t _ _ (List.getElem?_eq_getElem ht) ?_
      simp [Array.getD, ht']
    · rw [List.getD_eq_getElem?_getD, List.getElem?_eq_none (Nat.le_of_not_lt ht)]
      exact rel_unknown _
  | const v => exact ofValue_rel v
  | global g =>
    simp only [ASt.eval, Act.eval]
    cases hg : globT g with
    | some cs => exact h.sim.glob g cs hg
    | none => exact rel_unknown _
  | func f => exact RelD.fn (w := w) (I := E.I) (g := f) (cs := []) (fun _ => undef) (fun j h => absurd h (by simp))

theorem le_drew (w : World) (E : Env) : Env.Le w E w.drew E := ⟨fun _ h => ⟨h, rfl⟩, Nat.le_refl _, fun _ _ h => .inl h⟩
theorem BlkOk.mono_same {w' : World} {E' : Env} {i : BI} {B : ABlk} (hle : Env.Le w E w' E') (hI : ∀ b, i.blk = some b → E'.I b → E.I b) (hh : ∀ b, i.blk = some b → w'.heap[b]? = w.heap[b]?) (h : BlkOk w E i B) : BlkOk w' E' i B := by
  obtain ⟨h1, h2, h3, h4, h5⟩ := h
  refine ⟨h1, h2, h3, Nat.lt_of_lt_of_le h4 hle.clk, ?_⟩
  cases hb : i.blk with
  | none => rw [hb] at h5; exact h5
  | some b =>
    rw [hb] at h5
    obtain ⟨hn, ⟨C, hC, hl, hlc, hrel⟩ | hm⟩ := h5
    · exact ⟨fun hi => hn (hI b hb hi), .inl ⟨C, by rw [hh b hb]; exact hC, hl, hlc, hrel.mono hle⟩⟩
    · exact ⟨fun hi => hn (hI b hb hi), .inr (hm.same (hh b hb))⟩
theorem BlkOk.lt {i : BI} {B : ABlk} (h : BlkOk w E i B) {b : Nat} (hb : i.blk = some b) : b < w.heap.size := by
  obtain ⟨_, _, _, _, h5⟩ := h
  rw [hb] at h5
  obtain ⟨_, ⟨C, hC, _⟩ | ⟨_, es, c, _, hm⟩⟩ := h5
  · exact (Array.getElem?_eq_some_iff.1 hC).1
  · exact (Array.getElem?_eq_some_iff.1 hm).1
/-! A block of a loop's deferred calls is shut -/
theorem shut_other (w : World) (D : Nat) (o : Obj) (b : Nat) (hb : b ≠ D) : (w.putObj D o).heap[b]? = w.heap[b]? := World.putObj_heap_other hb
theorem shut_cell {D : Nat} {x : Option (List Deferred)} (hD : w.heap[D]? = some (.deferred x)) (o : Obj) {ad : Addr} {v : Value} (h : w.cell? ad = some v) : (w.putObj D o).cell? ad = some v := by
  have hne : ad.block ≠ D := fun e => by
    subst e
    simp [World.cell?, hD] at h
  rw [World.cell?_of_block (w := w) (shut_other w D o _ hne)]; exact h
theorem RelD.shut {D : Nat} {x : Option (List Deferred)} (hD : w.heap[D]? = some (.deferred x)) (o : Obj) {I : Nat → Prop} {c : DC} {v : Value} (r : RelD w I c v) : RelD (w.putObj D o) I c v := by
  induction r with
  | s h => exact .s h
  | nil => exact .nil
  | list f ha hr hn hm ih =>
    refine .list f (fun hne => ?_) ih hn hm
    obtain ⟨ad, e, hi, hc⟩ := ha hne
    exact ⟨ad, e, hi, fun j hj => shut_cell hD o (hc j hj)⟩
  | rptr f hI hc hr ih => exact .rptr f hI (fun j hj => shut_cell hD o (hc j hj)) ih
  | map hI hm => exact .map hI (by rw [shut_other w D o _ (fun e => by rw [e, hD] at hm; cases hm)]; exact hm)
  | err ht hg hI hc hb hs hx hh =>
    exact .err ht hg hI (shut_cell hD o hc) hb (shut_cell hD o hs) hx (by rw [shut_other w D o _ (fun e => by rw [e, hD] at hh; cases hh)]; exact hh)
  | fn f hr ih => exact .fn f ih
theorem RelC.shut {D : Nat} {x : Option (List Deferred)} (hD : w.heap[D]? = some (.deferred x)) (o : Obj) {c : AC} {v : Value} (r : RelC w E c v) : RelC (w.putObj D o) E c v := by
  cases c with
  | d c => exact RelD.shut hD o r
  | own => exact r
  | ptr => exact r
  | mp => exact r
  | obj => exact r.elim
  | any => trivial
theorem RelCs.shut {D : Nat} {x : Option (List Deferred)} (hD : w.heap[D]? = some (.deferred x)) (o : Obj) {cs : List AC} {vs : List Value} (r : RelCs w E cs vs) : RelCs (w.putObj D o) E cs vs :=
  ⟨r.1, fun j c v hc hv => ⟨(r.2 j c v hc hv).1, (r.2 j c v hc hv).2.shut hD o⟩⟩
theorem RelV1.shut {D : Nat} {x : Option (List Deferred)} (hD : w.heap[D]? = some (.deferred x)) (o : Obj) {y : AV} {v : Value} (r : RelV1 w E y v) : RelV1 (w.putObj D o) E y v := by
  cases y with
  | one c => exact RelC.shut (c := c) hD o r
  | agg cs => obtain ⟨l, e, hr⟩ := r; exact ⟨l, e, hr.shut hD o⟩
  | tup vs => exact r
theorem RelV.shut {D : Nat} {x : Option (List Deferred)} (hD : w.heap[D]? = some (.deferred x)) (o : Obj) {y : AV} {v : Value} (r : RelV w E y v) : RelV (w.putObj D o) E y v := by
  cases y with
  | one c => exact RelV1.shut (y := .one c) hD o r
  | agg cs => exact RelV1.shut (y := .agg cs) hD o r
  | tup vs => obtain ⟨l, e, hl, hr⟩ := r; exact ⟨l, e, hl, fun j y u hx hu => (hr j y u hx hu).shut hD o⟩
theorem SimH.shut {H : AHeap} {D : Nat} {x : Option (List Deferred)} (hD : w.heap[D]? = some (.deferred x)) (o : Obj) (hI : E.I D) (h : SimH w E H) : SimH (w.putObj D o) E H := by
  refine ⟨h.len, h.gens, fun b hb => by simpa using h.I b hb, fun k B hB => ?_, h.apart, fun g cs hg => (h.glob g cs hg).shut hD o⟩
  obtain ⟨i, hi, h1, h2, h3, h4, h5⟩ := h.blk k B hB
  refine ⟨i, hi, h1, h2, h3, h4, ?_⟩
  cases hb : i.blk with
  | none => rw [hb] at h5; exact h5
  | some b =>
    rw [hb] at h5
    obtain ⟨hn, h5⟩ := h5
    have hne : b ≠ D := fun e => hn (e ▸ hI)
    refine ⟨hn, ?_⟩
    rcases h5 with ⟨C, hC, hl, hlc, hrel⟩ | hm
    · exact .inl ⟨C, by rw [shut_other w D o _ hne]; exact hC, hl, hlc, hrel.shut hD o⟩
    · exact .inr (hm.same (shut_other w D o _ hne))
theorem InvE.shut {D : Nat} {Ds : List Nat} (h : InvE w0 E0 H0 st a w E) (hds : a.defers = (D :: Ds).map (fun D => { target := .collected D, args := #[] })) (hnd : (D :: Ds).Nodup)
    (hall : ∀ q ∈ D :: Ds, w0.heap.size ≤ q ∧ E.I q ∧ w.heap[q]? = some (.deferred (some []))) :
    InvE w0 E0 H0 st { a with defers := Ds.map (fun D => { target := .collected D, args := #[] }) } (w.putObj D (.deferred none)) E := by
  obtain ⟨h1, h2, h3⟩ := hall D (by simp)
  obtain ⟨hn1, hn2⟩ := List.nodup_cons.1 hnd
  refine ⟨⟨Ds, rfl, hn2, fun q hq => ?_⟩, ⟨fun b hb => ⟨(h.le.I b hb).1, ?_⟩, h.le.clk, h.le.β⟩, h.clk, h.sim.shut h3 _ h2, ⟨h.rel.1, fun j x v hx hv => (h.rel.2 j x v hx hv).shut h3 _⟩, ?_, h.live, h.I0⟩
  · have hne : q ≠ D := fun e => hn1 (e ▸ hq)
    obtain ⟨g1, g2, g3⟩ := hall q (by simp [hq])
    exact ⟨g1, g2, by rw [shut_other w D _ _ hne]; exact g3⟩
  · have hne : b ≠ D := fun e => by
      subst e
      have := (h.le.I b hb).2
      rw [h3] at this
      have := (Array.getElem?_eq_some_iff.1 this.symm).1
      omega
    rw [shut_other w D _ _ hne]; exact (h.le.I b hb).2
  · refine ⟨h.frm.os, h.frm.tape, ⟨h.frm.output.out, h.frm.output.drawn⟩, by simpa using h.frm.size, fun b hb hn => ?_⟩
    rw [shut_other w D _ _ (by omega)]; exact h.frm.block b hb hn
theorem SimH.drew {H : AHeap} (h : SimH w E H) : SimH w.drew E H :=
  ⟨h.len, h.gens, h.I, fun k B hB => let ⟨i, hi, hok⟩ := h.blk k B hB; ⟨i, hi, hok.mono_same (le_drew w E) (fun _ _ hI => hI) (fun _ _ => rfl)⟩, h.apart, fun g cs hg => (h.glob g cs hg).mono (le_drew w E).I⟩
theorem InvE.drew (h : InvE w0 E0 H0 st a w E) : InvE w0 E0 H0 st a w.drew E :=
  ⟨h.dfr.mono (le_drew w E), h.le.trans (le_drew w E), h.clk, h.sim.drew, h.rel.mono (le_drew w E), h.frm.drew, h.live, h.I0⟩
theorem alloc_old (w : World) (o : Obj) (b : Nat) (hb : b < w.heap.size) : (w.alloc o).heap[b]? = w.heap[b]? := RowKit.Below.heap_alloc w o b hb

/-- The step yields a value and changes nothing. -/
theorem opOk_value (h : ∀ w0 E0 H0 a w E, InvE w0 E0 H0 st a w E → ∃ v w' x st1 E', (execOp a.eval o).run P w = .ok (.value v) w' ∧ InvE w0 E0 H0 st1 a w' E' ∧ RelV w' E' x v ∧ K (st1.put o.dst x)) : OpOk P o st K := by
  intro w0 E0 H0 a w ⟨E, hE⟩ N Q hN
  obtain ⟨v, w', x, st1, E', hrun, hE', hx, hK⟩ := h w0 E0 H0 a w E hE
  unfold Oper.wp
  rw [hrun]
  exact hN _ _ _ hK ⟨E', hE'.put _ hx⟩ (put_defers _ _ _)
theorem opOk_skip (h : ∀ w0 E0 H0 a w E, InvE w0 E0 H0 st a w E → ∃ w' st1 E', (execOp a.eval o).run P w = .ok .skip w' ∧ InvE w0 E0 H0 st1 a w' E' ∧ K (st1.put o.dst unknown)) : OpOk P o st K := by
  intro w0 E0 H0 a w ⟨E, hE⟩ N Q hN
  obtain ⟨w', st1, E', hrun, hE', hK⟩ := h w0 E0 H0 a w E hE
  unfold Oper.wp
  rw [hrun]
  exact hN _ _ _ hK ⟨E', hE'.put _ (rel_unknown _)⟩ (put_defers _ _ _)
/-- A value, in the very same world. -/
theorem opOk_same {x : AV} (h : ∀ w0 E0 H0 a w E, InvE w0 E0 H0 st a w E → ∃ v, (execOp a.eval o).run P w = .ok (.value v) w ∧ RelV w E x v) (hK : K (st.put o.dst x)) : OpOk P o st K :=
  opOk_value fun w0 E0 H0 a w E hE => let ⟨v, h1, h2⟩ := h w0 E0 H0 a w E hE; ⟨v, w, x, st, E, h1, hE, h2, hK⟩

/-! A new block -/
theorem getElem?_snoc {α : Type} {l : List α} {x y : α} {k : Nat} (h : (l ++ [x])[k]? = some y) : l[k]? = some y ∨ (k = l.length ∧ y = x) := by
  rw [List.getElem?_append] at h
  split at h
  · exact .inl h
  · rename_i hk
    match hd : k - l.length with
    | 0 => rw [hd] at h; simp at h; exact .inr ⟨by omega, h.symm⟩
    | j + 1 => rw [hd] at h; simp at h

def Env.snoc (E : Env) (i : BI) : Env := ⟨E.I, E.β ++ [i], E.clk + 1⟩

theorem le_snoc (w : World) (E : Env) (i : BI) (hg : i.gen = E.clk) (o : Obj) (hI : ∀ b, E.I b → b < w.heap.size) : Env.Le w E (w.alloc o) (E.snoc i) :=
  ⟨fun b hb => ⟨hb, alloc_old w o b (hI b hb)⟩, Nat.le_succ _, fun k i' hi => by
    rcases getElem?_snoc hi with h | ⟨_, rfl⟩
    · exact .inl h
    · exact .inr (by omega)⟩

theorem InvE.allocO (h : InvE w0 E0 H0 st a w E) (e : TypeId) (n r : Nat) {cs : List AC} (o : Obj)
    (hat : ∀ E', Env.Le w E (w.alloc o) E' → CellsAt (w.alloc o) E' ⟨E.clk, some w.heap.size, e, n, r⟩ ⟨st.clk, e, n, cs⟩ w.heap.size ∨ MapAt (w.alloc o) ⟨st.clk, e, n, cs⟩ w.heap.size) :
    InvE w0 E0 H0 { st with heap := st.heap ++ [some ⟨st.clk, e, n, cs⟩], clk := st.clk + 1 } a (w.alloc o) (E.snoc ⟨E.clk, some w.heap.size, e, n, r⟩) ∧
    Env.Le w E (w.alloc o) (E.snoc ⟨E.clk, some w.heap.size, e, n, r⟩) := by
  have hle := le_snoc w E ⟨E.clk, some w.heap.size, e, n, r⟩ rfl o h.sim.I
  refine ⟨⟨h.dfr.mono hle, h.le.trans hle, by simp [Env.snoc, h.clk], ⟨?_, ?_, ?_, ?_, ?_, fun g cs hg => (h.sim.glob g cs hg).mono hle.I⟩, h.rel.mono hle, ?_, ?_, h.I0⟩, hle⟩
  · simp [Env.snoc, h.sim.len]
  · intro k i hi
    rcases getElem?_snoc hi with hh | ⟨_, rfl⟩
    · exact Nat.lt_succ_of_lt (h.sim.gens k i hh)
    · exact Nat.lt_succ_self _
  · intro b hb
    have := h.sim.I b hb
    simp; omega
  · intro k B hB
    rcases getElem?_snoc hB with hh | ⟨rfl, heq⟩
    · obtain ⟨i, hi, hok⟩ := h.sim.blk k B hh
      have hk : k < E.β.length := (List.getElem?_eq_some_iff.1 hi).1
      exact ⟨i, by simp only [Env.snoc]; rw [List.getElem?_append_left hk]; exact hi, hok.mono_same hle (fun _ _ hI => hI) (fun b hb => alloc_old w _ b (hok.lt hb))⟩
    · simp only [Option.some.injEq] at heq
      subst heq
      refine ⟨⟨E.clk, some w.heap.size, e, n, r⟩, ?_, h.clk, rfl, rfl, Nat.lt_succ_self _, ?_⟩
      · simp only [Env.snoc]
        rw [List.getElem?_append_right (by rw [h.sim.len]; exact Nat.le_refl _), ← h.sim.len]
        simp
      · exact ⟨fun hI => Nat.lt_irrefl _ (h.sim.I _ hI), hat _ hle⟩
  · intro k k' B B' i i' b hB hB' hi hi' hb hb'
    have old : ∀ (k : Nat) (B : ABlk) (i : BI), st.heap[k]? = some (some B) → E.β[k]? = some i → i.blk = some b → b < w.heap.size := fun k B i hB hi hb => by
      obtain ⟨i2, hi2, hok⟩ := h.sim.blk k B hB
      rw [hi] at hi2; cases hi2
      exact hok.lt hb
    have hlen := h.sim.len
    rcases getElem?_snoc hB with h1 | ⟨e1, _⟩ <;> rcases getElem?_snoc hB' with h2 | ⟨e2, _⟩
    · have k1 : k < E.β.length := by rw [hlen]; exact (List.getElem?_eq_some_iff.1 h1).1
      have k2 : k' < E.β.length := by rw [hlen]; exact (List.getElem?_eq_some_iff.1 h2).1
      simp only [Env.snoc] at hi hi'
      rw [List.getElem?_append_left k1] at hi
      rw [List.getElem?_append_left k2] at hi'
      exact h.sim.apart k k' B B' i i' b h1 h2 hi hi' hb hb'
    · have k1 : k < E.β.length := by rw [hlen]; exact (List.getElem?_eq_some_iff.1 h1).1
      simp only [Env.snoc] at hi hi'
      rw [List.getElem?_append_left k1] at hi
      have hlt := old k B i h1 hi hb
      rw [e2, ← hlen, List.getElem?_append_right (Nat.le_refl _)] at hi'
      simp at hi'; subst hi'; simp at hb'; omega
    · have k2 : k' < E.β.length := by rw [hlen]; exact (List.getElem?_eq_some_iff.1 h2).1
      simp only [Env.snoc] at hi hi'
      rw [List.getElem?_append_left k2] at hi'
      have hlt := old k' B' i' h2 hi' hb'
      rw [e1, ← hlen, List.getElem?_append_right (Nat.le_refl _)] at hi
      simp at hi; subst hi; simp at hb; omega
    · omega
  · refine h.frm.trans (L' := fun _ => False) ⟨rfl, rfl, ⟨rfl, Nat.le_refl _⟩, by simp, fun b hb _ => alloc_old w _ b hb⟩ (fun _ _ hf => hf.elim)
  · rintro b ⟨k, B, i, hB, hi, hb⟩
    rcases getElem?_snoc hB with h1 | ⟨e1, _⟩
    · have k1 : k < E.β.length := by rw [h.sim.len]; exact (List.getElem?_eq_some_iff.1 h1).1
      simp only [Env.snoc] at hi
      rw [List.getElem?_append_left k1] at hi
      exact h.live b ⟨k, B, i, h1, hi, hb⟩
    · simp only [Env.snoc] at hi
      rw [e1, ← h.sim.len, List.getElem?_append_right (Nat.le_refl _)] at hi
      simp at hi; subst hi; simp at hb; subst hb
      exact .inr h.frm.size

theorem InvE.alloc (h : InvE w0 E0 H0 st a w E) (e : TypeId) (n : Nat) {cs : List AC} {vs : List Value} (us : List Value) (hr : RelCs w E cs vs) :
    InvE w0 E0 H0 { st with heap := st.heap ++ [some ⟨st.clk, e, n, cs⟩], clk := st.clk + 1 } a (w.alloc (.cells (vs ++ us).toArray e)) (E.snoc ⟨E.clk, some w.heap.size, e, n, (vs ++ us).length⟩) ∧
    Env.Le w E (w.alloc (.cells (vs ++ us).toArray e)) (E.snoc ⟨E.clk, some w.heap.size, e, n, (vs ++ us).length⟩) := by
  refine h.allocO e n (vs ++ us).length (.cells (vs ++ us).toArray e) fun E' hle => .inl ⟨vs ++ us, heap_alloc_new w _, rfl, by have := hr.1; simp; omega, ?_⟩
  have : (vs ++ us).take cs.length = vs := by rw [hr.1]; simp
  rw [this]
  exact hr.mono hle
theorem InvE.allocMap (h : InvE w0 E0 H0 st a w E) :
    InvE w0 E0 H0 { st with heap := st.heap ++ [some ⟨st.clk, 0, 0, [.obj [] 0]⟩], clk := st.clk + 1 } a (w.alloc (.map #[] 0)) (E.snoc ⟨E.clk, some w.heap.size, 0, 0, 0⟩) ∧
    Env.Le w E (w.alloc (.map #[] 0)) (E.snoc ⟨E.clk, some w.heap.size, 0, 0, 0⟩) :=
  h.allocO 0 0 0 (.map #[] 0) fun E' hle => .inr ⟨rfl, [], 0, rfl, heap_alloc_new w _⟩

/-- The pointer to the new block; the slice over it. -/
theorem rel_new_ptr (h : InvE w0 E0 H0 st a w E) (e : TypeId) (n r : Nat) (o : Obj) : RelV (w.alloc o) (E.snoc ⟨E.clk, some w.heap.size, e, n, r⟩) (.one (.ptr st.heap.length st.clk 0)) (.pointer (some ⟨w.heap.size, 0, none⟩)) := by
  refine ⟨rfl, by simp [Env.snoc, h.clk], fun i hi _ => ?_⟩
  simp only [Env.snoc] at hi
  rw [← h.sim.len, List.getElem?_append_right (Nat.le_refl _)] at hi
  simp at hi; subst hi
  exact ⟨_, rfl, rfl⟩
theorem rel_new_map (h : InvE w0 E0 H0 st a w E) (o : Obj) : RelV (w.alloc o) (E.snoc ⟨E.clk, some w.heap.size, 0, 0, 0⟩) (.one (.mp st.heap.length st.clk)) (.map (some w.heap.size)) := by
  refine ⟨rfl, by simp [Env.snoc, h.clk], fun i hi _ => ?_⟩
  simp only [Env.snoc] at hi
  rw [← h.sim.len, List.getElem?_append_right (Nat.le_refl _)] at hi
  simp at hi; subst hi
  exact ⟨_, rfl, rfl⟩
theorem rel_new_own (h : InvE w0 E0 H0 st a w E) (e : TypeId) (n r len cap : Nat) (o : Obj) (h1 : len ≤ cap) (h2 : cap ≤ maxLen) (h3 : cap * n ≤ r) :
    RelV (w.alloc o) (E.snoc ⟨E.clk, some w.heap.size, e, n, r⟩) (.one (.own st.heap.length st.clk 0 len)) (.slice (some ⟨w.heap.size, 0, none⟩) len cap) := by
  refine ⟨rfl, by simp [Env.snoc, h.clk], fun i hi _ => ?_⟩
  simp only [Env.snoc] at hi
  rw [← h.sim.len, List.getElem?_append_right (Nat.le_refl _)] at hi
  simp at hi; subst hi
  exact ⟨_, _, rfl, h1, h2, by simpa using h3, fun _ => rfl⟩
end
end Go.Abs
namespace Go.Abs
set_option linter.unusedSimpArgs false
set_option linter.unusedVariables false
set_option linter.unnecessarySimpa false
open Go

section
variable {P : Program} {w0 w : World} {E0 E : Env} {H0 : AHeap} {st : ASt} {a : Act} {o : Oper} {K : ASt → Prop}

theorem InvE.write (h : InvE w0 E0 H0 st a w E) {k : Nat} {B B' : ABlk} {i i' : BI} {b : Nat} {clk' : Nat} {C' : List Value}
    (hB : st.heap[k]? = some (some B)) (hi : E.β[k]? = some i) (hb : i.blk = some b) (hb' : i'.blk = some b) (he : i'.elem = i.elem) (hroom : i'.room = i.room)
    (hC' : C'.length = i.room) (hg : i'.gen = B'.gen) (he' : i'.elem = B'.elem) (hs' : i'.size = B'.size) (hl : B'.cells.length ≤ i.room)
    (hr : RelCs w E B'.cells (C'.take B'.cells.length)) (hsz : B.size ≠ 0) (hn : (i' = i ∧ clk' = st.clk) ∨ (i'.gen = st.clk ∧ clk' = st.clk + 1)) :
    InvE w0 E0 H0 { st with heap := st.heap.set k (some B'), clk := clk' } a (w.setRow b C'.toArray) ⟨E.I, E.β.set k i', clk'⟩ ∧
    Env.Le w E (w.setRow b C'.toArray) ⟨E.I, E.β.set k i', clk'⟩ := by
  obtain ⟨i2, hi2, hok⟩ := h.sim.blk k B hB
  rw [hi] at hi2; cases hi2
  have hlt := hok.lt hb
  obtain ⟨hnI, C, hC, hCl, _, _⟩ := hok.cells hsz hb
  obtain ⟨_, _, _, hgl, _⟩ := hok
  have hk : k < E.β.length := (List.getElem?_eq_some_iff.1 hi).1
  have hclk := h.clk
  have hle : Env.Le w E (w.setRow b C'.toArray) ⟨E.I, E.β.set k i', clk'⟩ := by
    refine ⟨fun c hc => ⟨hc, setRow_other w b c _ (fun e => hnI (e ▸ hc))⟩, ?_, fun j j' hj => ?_⟩
    · rcases hn with ⟨_, e⟩ | ⟨_, e⟩ <;> simp [e, hclk]
    · simp only [List.getElem?_set] at hj
      split at hj
      · rename_i hkj
        subst hkj
        cases hj
        rcases hn with ⟨e, _⟩ | ⟨e, _⟩
        · subst e; exact .inl hi
        · exact .inr (by omega)
      · exact .inl hj
  have hstays : ∀ (k' : Nat) (B2 : ABlk) (j : BI) (c : Nat), k' ≠ k → st.heap[k']? = some (some B2) → E.β[k']? = some j → j.blk = some c → c ≠ b := by
    intro k' B2 j c hne h1 h2 h3 e
    subst e
    exact hne (h.sim.apart k' k B2 B j i c h1 hB h2 hi h3 hb)
  refine ⟨⟨h.dfr.mono hle, h.le.trans hle, rfl, ⟨by simp [h.sim.len], ?_, ?_, ?_, ?_, fun g cs hg => (h.sim.glob g cs hg).mono hle.I⟩, h.rel.mono hle, ?_, ?_, h.I0⟩, hle⟩
  · intro j jj hj
    simp only [List.getElem?_set] at hj
    split at hj
    · cases hj
      rcases hn with ⟨e, e2⟩ | ⟨e, e2⟩
      · subst e; simp only [e2]; omega
      · simp only [e2]; omega
    · have := h.sim.gens j jj hj
      rcases hn with ⟨_, e⟩ | ⟨_, e⟩ <;> simp only [e] <;> omega
  · intro c hc
    have := h.sim.I c hc
    simp only [World.setRow, Array.size_modify]; exact this
  · intro j B2 hB2
    simp only [List.getElem?_set] at hB2
    by_cases hkj : k = j
    · subst hkj
      rw [if_pos rfl] at hB2
      split at hB2
      · simp only [Option.some.injEq] at hB2
        subst hB2
        refine ⟨i', by simp [hk], hg, he', hs', ?_, ?_⟩
        · rcases hn with ⟨e, e2⟩ | ⟨e, e2⟩
          · subst e; simp only [e2]; omega
          · simp only [e2]; omega
        · rw [hb']
          exact ⟨hnI, .inl ⟨C', by rw [he]; exact setRow_heap w b _ _ _ _ hC, by rw [hroom]; exact hC', by rw [hroom]; exact hl, hr.mono hle⟩⟩
      · cases hB2
    · rw [if_neg hkj] at hB2
      obtain ⟨j2, hj2, hok2⟩ := h.sim.blk j B2 hB2
      exact ⟨j2, by simp only [List.getElem?_set, if_neg hkj]; exact hj2, hok2.mono_same hle (fun _ _ hI => hI) (fun c hc => setRow_other w b c _ (hstays j B2 j2 c (fun e => hkj e.symm) hB2 hj2 hc))⟩
  · intro j j' B1 B2 i1 i2 c h1 h2 g1 g2 c1 c2
    have back : ∀ (j : Nat) (B1 : ABlk) (i1 : BI), (st.heap.set k (some B'))[j]? = some (some B1) → (E.β.set k i')[j]? = some i1 → i1.blk = some c → ∃ B3 i3, st.heap[j]? = some (some B3) ∧ E.β[j]? = some i3 ∧ i3.blk = some c := by
      intro j B1 i1 h1 g1 c1
      by_cases hkj : k = j
      · subst hkj
        refine ⟨B, i, hB, hi, ?_⟩
        simp [hk] at g1
        subst g1
        rw [← c1, hb, hb']
      · simp only [List.getElem?_set, if_neg hkj] at h1 g1
        exact ⟨B1, i1, h1, g1, c1⟩
    obtain ⟨B3, i3, q1, q2, q3⟩ := back j B1 i1 h1 g1 c1
    obtain ⟨B4, i4, p1, p2, p3⟩ := back j' B2 i2 h2 g2 c2
    exact h.sim.apart j j' B3 B4 i3 i4 c q1 p1 q2 p2 q3 p3
  · refine h.frm.trans (L' := fun c => c = b) ⟨rfl, rfl, ⟨rfl, Nat.le_refl _⟩, by simp [World.setRow], fun c _ hne => setRow_other w b c _ hne⟩ (fun c hc e => ?_)
    subst e
    rcases h.live c ⟨k, B, i, hB, hi, hb⟩ with hL | hL
    · exact hL
    · omega
  · rintro c ⟨j, B2, i2, h1, h2, h3⟩
    by_cases hkj : k = j
    · subst hkj
      simp [hk] at h2
      subst h2
      rw [hb'] at h3
      exact h.live c ⟨k, B, i, hB, hi, hb.trans h3⟩
    · simp only [List.getElem?_set, if_neg hkj] at h1 h2
      exact h.live c ⟨j, B2, i2, h1, h2, h3⟩

/-- Where a pointer into an own array leads. -/
theorem InvE.at_ptr (h : InvE w0 E0 H0 st a w E) {k g off : Nat} {B : ABlk} (hB : blkAt st.heap k g = some B) {v : Value} (r : RelV w E (.one (.ptr k g off)) v) :
    ∃ i b, st.heap[k]? = some (some B) ∧ B.gen = g ∧ E.β[k]? = some i ∧ BlkOk w E i B ∧ i.blk = some b ∧ v = .pointer (some ⟨b, off, none⟩) := by
  obtain ⟨hk, hg⟩ := blkAt_some hB
  obtain ⟨i, hi, hok⟩ := h.sim.blk k B hk
  obtain ⟨b, hb, hv⟩ := r.2.2 i hi (hok.1.trans hg)
  exact ⟨i, b, hk, hg, hi, hok, hb, hv⟩
/-- What a slice of an own array is. -/
theorem InvE.at_own (h : InvE w0 E0 H0 st a w E) {k g off n : Nat} {B : ABlk} (hB : blkAt st.heap k g = some B) {v : Value} (r : RelV w E (.one (.own k g off n)) v) :
    ∃ i ad cap, st.heap[k]? = some (some B) ∧ B.gen = g ∧ E.β[k]? = some i ∧ BlkOk w E i B ∧ v = .slice ad n cap ∧ n ≤ cap ∧ cap ≤ maxLen ∧ off + cap * i.size ≤ i.room ∧
      (match i.blk with
        | none => ad = none ∧ cap = 0
        | some b => 0 < cap → ad = some ⟨b, off, none⟩) := by
  obtain ⟨hk, hg⟩ := blkAt_some hB
  obtain ⟨i, hi, hok⟩ := h.sim.blk k B hk
  obtain ⟨ad, cap, hv, h1, h2, h3, h4⟩ := r.2.2 i hi (hok.1.trans hg)
  exact ⟨i, ad, cap, hk, hg, hi, hok, hv, h1, h2, h3, h4⟩

/-- Which own map a value is. -/
theorem InvE.at_map (h : InvE w0 E0 H0 st a w E) {k g : Nat} {es : List MapEntry} {c : Nat} (hB : objAt st.heap k g = some (es, c)) {v : Value} (r : RelV w E (.one (.mp k g)) v) :
    ∃ B i b, st.heap[k]? = some (some B) ∧ B.gen = g ∧ B.size = 0 ∧ B.cells = [.obj es c] ∧ E.β[k]? = some i ∧ i.blk = some b ∧ i.gen = g ∧ i.elem = 0 ∧ i.size = 0 ∧ ¬ E.I b ∧ v = .map (some b) ∧ w.heap[b]? = some (.map es.toArray c) := by
  obtain ⟨B, hk, hg, hs, hel, hc⟩ := objAt_some hB
  obtain ⟨i, hi, hok⟩ := h.sim.blk k B hk
  obtain ⟨b, hb, hv⟩ := r.2.2 i hi (hok.1.trans hg)
  obtain ⟨e1, e2, e3, e4, h5⟩ := hok
  rw [hb] at h5
  obtain ⟨hn, ⟨C, _, _, hl, hrel⟩ | ⟨_, es', c', hc', hm⟩⟩ := h5
  · have h1 := hrel.1
    rw [hc] at hrel h1
    match hC : C.take [AC.obj es c].length with
    | [] => rw [hC] at h1; simp at h1
    | u :: us =>
      rw [hC] at hrel
      exact (hrel.2 0 (.obj es c) u rfl rfl).2.elim
  · rw [hc] at hc'
    cases hc'
    exact ⟨B, i, b, hk, hg, hs, hc, hi, hb, e1.trans hg, e2.trans hel, e3.trans hs, hn, hv, hm⟩
/-- An own map turned. -/
theorem InvE.writeMap (h : InvE w0 E0 H0 st a w E) {k b : Nat} {B B' : ABlk} {i : BI} {es es' : List MapEntry} {c c' : Nat}
    (hB : st.heap[k]? = some (some B)) (hi : E.β[k]? = some i) (hb : i.blk = some b) (hnI : ¬ E.I b) (hm : w.heap[b]? = some (.map es.toArray c))
    (hg : i.gen = B'.gen) (he : i.elem = B'.elem) (hs : i.size = B'.size) (hz : B'.size = 0) (hc' : B'.cells = [.obj es' c']) :
    InvE w0 E0 H0 { st with heap := st.heap.set k (some B') } a { w with heap := w.heap.setIfInBounds b (.map es'.toArray c') } E ∧
    Env.Le w E { w with heap := w.heap.setIfInBounds b (.map es'.toArray c') } E := by
  have hlt : b < w.heap.size := (Array.getElem?_eq_some_iff.1 hm).1
  have hk : k < st.heap.length := (List.getElem?_eq_some_iff.1 hB).1
  have hother : ∀ c, c ≠ b → ({ w with heap := w.heap.setIfInBounds b (.map es'.toArray c') } : World).heap[c]? = w.heap[c]? := fun c hc => by
    simp [Array.getElem?_setIfInBounds, fun e => hc (Eq.symm e)]
    intro e; exact absurd e.symm hc
  have hle : Env.Le w E { w with heap := w.heap.setIfInBounds b (.map es'.toArray c') } E := ⟨fun c hc => ⟨hc, hother c (fun e => hnI (e ▸ hc))⟩, Nat.le_refl _, fun _ _ hj => .inl hj⟩
  have hset : ∀ (j : Nat) (B1 : ABlk), (st.heap.set k (some B'))[j]? = some (some B1) → (j = k ∧ B1 = B') ∨ (j ≠ k ∧ st.heap[j]? = some (some B1)) := fun j B1 hj => by
    rw [List.getElem?_set] at hj
    split at hj
    · rename_i e; subst e; simp [hk] at hj; exact .inl ⟨rfl, hj.symm⟩
    · rename_i e; exact .inr ⟨fun e' => e e'.symm, hj⟩
  have back : ∀ (j : Nat) (B1 : ABlk), (st.heap.set k (some B'))[j]? = some (some B1) → ∃ B2, st.heap[j]? = some (some B2) := fun j B1 hj => by
    rcases hset j B1 hj with ⟨rfl, _⟩ | ⟨_, h1⟩
    · exact ⟨B, hB⟩
    · exact ⟨B1, h1⟩
  refine ⟨⟨h.dfr.mono hle, h.le.trans hle, h.clk, ⟨by simp [h.sim.len], h.sim.gens, fun c hc => by simpa using h.sim.I c hc, ?_, ?_, fun g cs hg => (h.sim.glob g cs hg).mono hle.I⟩, h.rel.mono hle, ?_, ?_, h.I0⟩, hle⟩
  · intro j B1 hj
    rcases hset j B1 hj with ⟨rfl, rfl⟩ | ⟨hne, h1⟩
    · refine ⟨i, hi, hg, he, hs, h.sim.gens _ _ hi, ?_⟩
      rw [hb]
      exact ⟨hnI, .inr ⟨hz, es', c', hc', by simp [Array.getElem?_setIfInBounds, hlt]⟩⟩
    · obtain ⟨j2, hj2, hok2⟩ := h.sim.blk j B1 h1
      exact ⟨j2, hj2, hok2.mono_same hle (fun _ _ hI => hI) (fun d hd => hother d (fun e => hne (h.sim.apart j k B1 B j2 i d h1 hB hj2 hi hd (e ▸ hb))))⟩
  · intro j j' B1 B2 i1 i2 d h1 h2 g1 g2 c1 c2
    obtain ⟨B3, q1⟩ := back j B1 h1
    obtain ⟨B4, q2⟩ := back j' B2 h2
    exact h.sim.apart j j' B3 B4 i1 i2 d q1 q2 g1 g2 c1 c2
  · refine h.frm.trans (L' := fun c => c = b) ⟨rfl, rfl, ⟨rfl, Nat.le_refl _⟩, by simp, fun c _ hne => hother c hne⟩ (fun c hc e => ?_)
    subst e
    rcases h.live c ⟨k, B, i, hB, hi, hb⟩ with hL | hL
    · exact hL
    · omega
  · rintro d ⟨j, B2, i2, h1, h2, h3⟩
    obtain ⟨B3, q1⟩ := back j B2 h1
    exact h.live d ⟨j, B3, i2, q1, h2, h3⟩

theorem ok_move {x : Operand} (ho : o.op = .move x ∨ o.op = .assign x) (h : K (st.put o.dst (st.eval x))) : OpOk P o st K := by
  refine opOk_same (x := st.eval x) (fun w0 E0 H0 a w E hE => ⟨a.eval x, ?_, hE.eval x⟩) h
  rcases ho with ho | ho <;> simp [execOp, ho]

theorem ok_pick {c x y : Operand} {b : Bool} (ho : o.op = .pick c x y) (hc : st.eval c = .one (.d (.s (.bool b)))) (h : K (st.put o.dst (if b then st.eval x else st.eval y))) : OpOk P o st K := by
  refine opOk_same (x := if b then st.eval x else st.eval y) (fun w0 E0 H0 a w E hE => ?_) h
  have hcb : a.eval c = .bool b := by
    have := hE.eval c
    rw [hc] at this
    generalize a.eval c = q at this
    cases this with
    | s hs => rfl
  refine ⟨if b then a.eval x else a.eval y, by simp [execOp, ho, hcb, asBool], ?_⟩
  cases b
  · simpa using hE.eval y
  · simpa using hE.eval x

theorem run_zero {t : TypeId} {z : List AC} (hz : zeroT P t = some z) : ∃ v : Value, (∀ w, (zeroValue t).run P w = .ok v w) ∧ z = v.cells.toList.map AC.ofValue ∧ oneCells v = true := by
  unfold zeroT at hz
  split at hz
  · rename_i i hi
    split at hz
    · rename_i v hv
      split at hz
      · cases hz
        exact ⟨v, fun w => by simp [zeroValue, typeInfo, hi, hv], rfl, by assumption⟩
      · cases hz
    · cases hz
  · cases hz

theorem rel_zero {v : Value} (h1 : oneCells v = true) : RelCs w E (v.cells.toList.map AC.ofValue) v.cells.toList := by
  refine ⟨by simp, fun j c u hc hu => ?_⟩
  rw [List.getElem?_map, hu] at hc
  simp at hc; subst hc
  simp only [oneCells, List.all_eq_true] at h1
  exact ⟨h1 u (List.mem_of_getElem? hu), ofValue_rel u⟩
end
end Go.Abs
namespace Go.Abs
set_option linter.unusedSimpArgs false
set_option linter.unusedVariables false
set_option linter.unnecessarySimpa false
open Go

section
variable {P : Program} {w0 w : World} {E0 E : Env} {H0 : AHeap} {st : ASt} {a : Act} {o : Oper} {K : ASt → Prop}

theorem ok_alloc {e : TypeId} {z : List AC} {n : Nat} (ho : o.op = .alloc e) (hz : zeroT P e = some z)
    (h : K (ASt.put { st with heap := st.heap ++ [some ⟨st.clk, e, n, z⟩], clk := st.clk + 1 } o.dst (.one (.ptr st.heap.length st.clk 0)))) : OpOk P o st K := by
  obtain ⟨v, hv, rfl, h1⟩ := run_zero hz
  refine opOk_value fun w0 E0 H0 a w E hE => ?_
  obtain ⟨hE', hle⟩ := hE.alloc e n [] (rel_zero (w := w) (E := E) h1)
  refine ⟨_, _, _, _, _, ?_, hE', rel_new_ptr hE e n _ _, h⟩
  simp [execOp, ho, Instr.alloc, hv, newVar, newRow]

theorem ok_box {e : TypeId} {x : Operand} {cs : List AC} {n : Nat} (ho : o.op = .box e x) (hx : (st.eval x).cells? = some cs)
    (h : K (ASt.put { st with heap := st.heap ++ [some ⟨st.clk, e, n, cs⟩], clk := st.clk + 1 } o.dst (.one (.ptr st.heap.length st.clk 0)))) : OpOk P o st K := by
  refine opOk_value fun w0 E0 H0 a w E hE => ?_
  obtain ⟨hE', hle⟩ := hE.alloc e n [] (cells_known hx (hE.eval x))
  refine ⟨_, _, _, _, _, ?_, hE', rel_new_ptr hE e n _ _, h⟩
  simp [execOp, ho, Instr.box, newVar, newRow]

theorem foldl_set (cs : Array Value) (off : Nat) (xs : List Value) : ∀ (j : Nat), off + j + xs.length ≤ cs.size →
    ((xs.zipIdx j).foldl (fun cs (c, j) => cs.setIfInBounds (off + j) c) cs).toList = cs.toList.take (off + j) ++ xs ++ cs.toList.drop (off + j + xs.length) := by
  induction xs generalizing cs with
  | nil => intro j _; simp
  | cons x xs ih =>
    intro j hl
    simp only [List.zipIdx_cons, List.foldl_cons]
    simp only [List.length_cons] at hl
    rw [ih (cs.setIfInBounds (off + j) x) (j + 1) (by simp; omega)]
    have e := list_seg_step cs.toList (off + j) x xs (by simp; omega)
    simpa [Array.toList_setIfInBounds, Nat.add_assoc] using e

theorem fill_rel {pl : Nat → Option (Nat × Nat)} : ∀ {ps : List (Nat × AV)} {qs : List (Nat × Value)} {cs out : List AC} {vs : List Value}, RelCs w E cs vs →
    (ps.map (·.1) = qs.map (·.1) ∧ ∀ (j : Nat) p q, ps[j]? = some p → qs[j]? = some q → RelV w E p.2 q.2) → fillA pl cs ps = some out →
    ∃ us : List Value, Instr.fill pl vs.toArray qs = some us.toArray ∧ RelCs w E out us
  | [], qs, cs, out, vs, hr, hp, hf => by
    simp only [fillA, Option.some.injEq] at hf
    subst hf
    have : qs = [] := by simpa using hp.1.symm
    subst this
    exact ⟨vs, rfl, hr⟩
  | (i, x) :: ps, qs, cs, out, vs, hr, hp, hf => by
    match qs with
    | [] => simp at hp
    | (i', v) :: qs =>
      obtain ⟨h1, h2⟩ := hp
      simp only [List.map_cons, List.cons.injEq] at h1
      obtain ⟨rfl, h1⟩ := h1
      have hx := h2 0 (i, x) (i, v) rfl rfl
      simp only [fillA] at hf
      split at hf
      · rename_i off size xs hpl hxs
        split at hf
        · rename_i hle
          have hk := cells_known hxs hx
          have hl : v.cells.size = size := by rw [← hle.1, hk.1]; simp
          have hcl := hr.1
          obtain ⟨us, hu, hru⟩ := fill_rel (hr.splice hk (off := off) (by omega)) ⟨h1, fun j p q hp hq => h2 (j + 1) p q hp hq⟩ hf
          refine ⟨us, ?_, hru⟩
          simp only [Instr.fill, hpl]
          rw [if_neg (by simp [hl]; omega)]
          rw [← hu]
          congr 1
          apply Array.ext'
          have := foldl_set vs.toArray off v.cells.toList 0 (by simp [hl]; omega)
          rw [← Array.foldl_toList, Array.toList_zipIdx]
          simpa using this
        · cases hf
      · cases hf

theorem parts_rel (hE : InvE w0 E0 H0 st a w E) (ps : List (Nat × Operand)) :
    (ps.map fun (i, x) => (i, st.eval x)).map (·.1) = (ps.map fun (i, x) => (i, a.eval x)).map (·.1) ∧
    ∀ (j : Nat) p q, (ps.map fun (i, x) => (i, st.eval x))[j]? = some p → (ps.map fun (i, x) => (i, a.eval x))[j]? = some q → RelV w E p.2 q.2 := by
  refine ⟨by simp [Function.comp_def], fun j p q hp hq => ?_⟩
  rw [List.getElem?_map] at hp hq
  cases hj : ps[j]? with
  | none => simp [hj] at hp
  | some r => simp [hj] at hp hq; subst hp; subst hq; exact hE.eval _

theorem fillA_mono {p q : Nat → Option (Nat × Nat)} (h : ∀ i x, p i = some x → q i = some x) : ∀ {ps : List (Nat × AV)} {cs out : List AC}, fillA p cs ps = some out → fillA q cs ps = some out
  | [], cs, out, hf => by simpa [fillA] using hf
  | (i, x) :: rest, cs, out, hf => by
    unfold fillA at hf ⊢
    split at hf
    · rename_i off size xs hp hx
      simp only [h i _ hp, hx]
      split at hf
      · rename_i hc
        rw [if_pos hc]
        exact fillA_mono h hf
      · exact absurd hf (by simp)
    · exact absurd hf (by simp)
theorem ok_build {t : TypeId} {ps : Array (Nat × Operand)} {z cs : List AC} {pl : List (Nat × Nat)} (ho : o.op = .build t ps) (hz : zeroT P t = some z) (hpl : placesT P t = some pl)
    (hf : fillA (fun i => pl[i]?) z (ps.toList.map fun (i, x) => (i, st.eval x)) = some cs) (h : K (st.put o.dst (.agg cs))) : OpOk P o st K := by
  obtain ⟨v, hv, rfl, h1⟩ := run_zero hz
  refine opOk_same (x := .agg cs) (fun w0 E0 H0 a w E hE => ?_) h
  unfold placesT at hpl
  split at hpl
  · rename_i fs hu'
    obtain ⟨us, hu, hru⟩ := fill_rel (rel_zero (w := w) (E := E) h1) (parts_rel hE ps.toList) hf
    refine ⟨.agg us.toArray, ?_, ⟨us, rfl, hru⟩⟩
    simp only [Array.toArray_toList] at hu
    simp [execOp, ho, Instr.build, hv, run_underlying hu', Array.mapM_eq_mapM_toList, run_places w _ _ hpl, hu]
  · rename_i n e hu'
    rw [Option.map_eq_some_iff] at hpl
    obtain ⟨s, hs, rfl⟩ := hpl
    have hf' := fillA_mono (q := fun i => some (i * s, s)) (fun i x hx => by
      rw [List.getElem?_map, Option.map_eq_some_iff] at hx
      obtain ⟨j, hj, rfl⟩ := hx
      obtain ⟨h1, h2⟩ := List.getElem?_eq_some_iff.1 hj
      simp at h2; subst h2; rfl) hf
    obtain ⟨us, hu, hru⟩ := fill_rel (rel_zero (w := w) (E := E) h1) (parts_rel hE ps.toList) hf'
    refine ⟨.agg us.toArray, ?_, ⟨us, rfl, hru⟩⟩
    simp only [Array.toArray_toList] at hu
    simp [execOp, ho, Instr.build, hv, run_underlying hu', run_sizeOf hs, hu]
  · cases hpl

theorem ok_load {t : TypeId} {x : Operand} (ho : o.op = .load t x) (h : loadA P st.heap t (st.eval x) fun v => K (st.put o.dst v)) : OpOk P o st K := by
  unfold loadA at h
  split at h
  · rename_i agg n hag hn
    split at h
    · rename_i k g off hx
      split at h
      · rename_i B hB
        split at h
        · rename_i y hy
          refine opOk_same (x := y) (fun w0 E0 H0 a w E hE => ?_) h
          have hr := hE.eval x
          rw [hx] at hr
          obtain ⟨i, b, _, _, _, hok, hb, hv⟩ := hE.at_ptr hB hr
          obtain ⟨v, hrun, hrel⟩ := run_loadVar (P := P) hag hn hy (hok.readable (blkAt_size hB) hb off)
          exact ⟨v, by simp [execOp, ho, hv, Instr.loadAt, Instr.sureAddr, hrun], hrel⟩
        · exact h.elim
      · exact h.elim
    · rename_i cs hx
      split at h
      · rename_i y hy
        refine opOk_same (x := y) (fun w0 E0 H0 a w E hE => ?_) h
        have hr := hE.eval x
        rw [hx] at hr
        generalize hq : a.eval x = q at hr
        cases hr with
        | rptr f hI hc hrr =>
          obtain ⟨v, hrun, hrel⟩ := run_loadVar (P := P) hag hn hy (readable_list (E := E) f hc hrr)
          exact ⟨v, by simp [execOp, ho, hq, Instr.loadAt, Instr.sureAddr, hrun], hrel⟩
      · exact h.elim
    · exact h.elim
  · exact h.elim

theorem ok_store {t : TypeId} {x y : Operand} (ho : o.op = .store t x y) (h : storeA P st.heap t (st.eval x) (st.eval y) fun H => K (ASt.put { st with heap := H } o.dst unknown)) : OpOk P o st K := by
  unfold storeA at h
  split at h
  · rename_i n k g off cs hn hx hy
    split at h
    · rename_i B hB
      obtain ⟨⟨hl, hle⟩, h⟩ := h
      refine opOk_skip fun w0 E0 H0 a w E hE => ?_
      have hr := hE.eval x
      rw [hx] at hr
      obtain ⟨i, b, hk, hg, hi, hok, hb, hv⟩ := hE.at_ptr hB hr
      have hc := cells_known hy (hE.eval y)
      obtain ⟨hnI, C, hC, hCl, hBl, hrel⟩ := hok.cells (blkAt_size hB) hb
      obtain ⟨e1, e2, e3, e4, _⟩ := hok
      have hvl : (a.eval y).cells.toList.length = n := by rw [← hc.1, hl]
      have hst := run_storeCells_at P b off i.elem (a.eval y).cells.toList 0 C.toArray w hC (by simp at hvl ⊢; omega) (fun u hu => by
        obtain ⟨j, hj⟩ := List.mem_iff_getElem?.1 hu
        have hjl : j < cs.length := by rw [hc.1]; exact (List.getElem?_eq_some_iff.1 hj).1
        exact (hc.2 j _ u (List.getElem?_eq_getElem hjl) hj).1)
      have hw := hE.write (B' := { B with cells := splice B.cells off cs }) (i' := i) (b := b) (clk' := st.clk) (C' := C.take off ++ (a.eval y).cells.toList ++ C.drop (off + (a.eval y).cells.toList.length))
        hk hi hb hb rfl rfl (by simp at hvl ⊢; omega) e1 e2 e3 (by simp only; rw [length_splice _ _ _ (by omega)]; exact hBl) (by
          simp only
          rw [length_splice _ _ _ (by omega)]
          have hs := hrel.splice hc (off := off) (by omega)
          have e : (C.take off ++ (a.eval y).cells.toList ++ C.drop (off + (a.eval y).cells.toList.length)).take B.cells.length =
              (C.take B.cells.length).take off ++ (a.eval y).cells.toList ++ (C.take B.cells.length).drop (off + (a.eval y).cells.toList.length) := by
            rw [List.take_take, Nat.min_eq_left (by omega), List.drop_take, List.append_assoc, List.append_assoc, List.take_append, List.take_append]
            have l1 : (C.take off).length = off := by simp; omega
            rw [l1]
            congr 1
            · rw [List.take_of_length_le (by simp; omega)]
            · congr 1
              · rw [List.take_of_length_le (by omega)]
              · congr 1; omega
          rw [e]
          exact hs) (blkAt_size hB) (.inl ⟨rfl, rfl⟩)
      refine ⟨_, _, _, ?_, hw.1, h⟩
      simp only [Nat.add_zero] at hst
      have hvl' : (a.eval y).cells.size = n := by simpa using hvl
      simp [execOp, ho, hv, Instr.storeAt, Instr.sureAddr, storeVar, run_sizeOf hn, hvl', hst]
    · exact h.elim
  · exact h.elim
end
end Go.Abs
namespace Go.Abs
set_option linter.unusedSimpArgs false
set_option linter.unusedVariables false
set_option linter.unnecessarySimpa false
open Go

theorem toList_madeCells (z : Array Value) (len : Nat) : (madeCells z (len * z.size)).toList = (List.replicate len z.toList).flatten := by
  unfold madeCells
  rw [Array.toList_map, Array.toList_range]
  induction len with
  | zero => simp
  | succ len ih =>
    rw [Nat.succ_mul, List.range_add, List.map_append, ih, List.replicate_succ', List.flatten_append]
    congr 1
    simp only [List.map_map, List.flatten_cons, List.flatten_nil, List.append_nil]
    apply List.ext_getElem?
    intro j
    rw [List.getElem?_map]
    by_cases hj : j < z.size
    · rw [List.getElem?_range hj]
      have hm : (len * z.size + j) % z.size = j := by rw [Nat.add_comm, Nat.add_mul_mod_self_right]; exact Nat.mod_eq_of_lt hj
      simp [Function.comp, hm, hj]
    · rw [List.getElem?_eq_none (by simp; omega), List.getElem?_eq_none (by simp; omega)]
      rfl

section
variable {P : Program} {w0 w : World} {E0 E : Env} {H0 : AHeap} {st : ASt} {a : Act} {o : Oper} {K : ASt → Prop}

theorem sliceT_some {t e size bytes : Nat} (h : sliceT P t = some (e, size, bytes)) : P.underlying t = some (.slice e) ∧ ∃ i, P.info? e = some i ∧ i.size = size ∧ i.bytes = bytes := by
  unfold sliceT at h
  split at h
  · rename_i e' hu
    cases hi : P.info? e' with
    | none => simp [hi] at h
    | some i => simp [hi] at h; obtain ⟨rfl, rfl, rfl⟩ := h; exact ⟨hu, i, hi, rfl, rfl⟩
  · cases h

theorem rel_replicate {v : Value} (h1 : oneCells v = true) (len : Nat) : RelCs w E (List.replicate len (v.cells.toList.map AC.ofValue)).flatten (madeCells v.cells (len * v.cells.size)).toList := by
  rw [toList_madeCells]
  induction len with
  | zero => exact RelCs.nil
  | succ n ih =>
    rw [List.replicate_succ, List.replicate_succ, List.flatten_cons, List.flatten_cons]
    exact (rel_zero h1).append ih

theorem ok_make {t : TypeId} {l c : Operand} (ho : o.op = .makeSlice t l c) (h : makeA P st.heap st.clk t (st.eval l) (st.eval c) fun v H c => K (ASt.put ⟨st.tmps, H, c⟩ o.dst v)) : OpOk P o st K := by
  unfold makeA at h
  split at h
  · rename_i e size bytes kl n kc m hT hl hc
    split at h
    · rename_i z hz
      obtain ⟨⟨hzl, h0, hnm, hby, h63⟩, h⟩ := h
      obtain ⟨hu, i, hi, rfl, rfl⟩ := sliceT_some hT
      obtain ⟨v, hv, rfl, h1⟩ := run_zero hz
      refine opOk_value fun w0 E0 H0 a w E hE => ?_
      have el : a.eval l = .int kl n := by
        have := hE.eval l; rw [hl] at this; generalize a.eval l = q at this; cases this with | s _ => rfl
      have ec : a.eval c = .int kc m := by
        have := hE.eval c; rw [hc] at this; generalize a.eval c = q at this; cases this with | s _ => rfl
      have hsz : v.cells.size = i.size := by simpa using hzl
      have hz0 : i.zero = some v := by
        have := hv w
        unfold zeroT at hz
        simp only [hi] at hz
        cases hzz : i.zero with
        | none => simp [hzz] at hz
        | some u => simp [zeroValue, typeInfo, hi, hzz] at this; rw [this]
      have hr := rel_replicate (w := w) (E := E) h1 m.toNat
      obtain ⟨hE', hle⟩ := hE.alloc e i.size [] hr
      rw [List.append_nil, hsz] at hE'
      have hrun := run_make (P := P) w t e i v hu hi hz0 kl kc n m h0 hnm hby h63
      refine ⟨.slice (some ⟨w.heap.size, 0, none⟩) n.toNat m.toNat, _, _, _, _, ?_, hE', ?_, h⟩
      · simp only [execOp, ho, el, ec]
        simp [hrun]
      · refine rel_new_own hE e i.size _ _ _ _ (by omega) (by simp only [maxLen]; omega) ?_
        rw [Array.length_toList, size_madeCells]
        exact Nat.le_refl _
    · exact h.elim
  · exact h.elim

theorem ok_buildSlice {t : TypeId} {len : Nat} {ps : Array (Nat × Operand)} {e size bytes : Nat} {z cs : List AC} (ho : o.op = .buildSlice t len ps) (hT : sliceT P t = some (e, size, bytes))
    (hz : zeroT P e = some z) (hf : fillA (fun i => some (i * size, size)) (List.replicate len z).flatten (ps.toList.map fun (i, x) => (i, st.eval x)) = some cs)
    (hzl : z.length = size) (hlen : len * size ≤ 16777216)
    (h : K (ASt.put { st with heap := st.heap ++ [some ⟨st.clk, e, size, cs⟩], clk := st.clk + 1 } o.dst (.one (.own st.heap.length st.clk 0 len)))) (hpos : 0 < size) : OpOk P o st K := by
  obtain ⟨hu, i, hi, rfl, _⟩ := sliceT_some hT
  obtain ⟨v, hv, rfl, h1⟩ := run_zero hz
  have hsz : v.cells.size = i.size := by simpa using hzl
  refine opOk_value fun w0 E0 H0 a w E hE => ?_
  have hr := rel_replicate (w := w) (E := E) h1 len
  rw [hsz] at hr
  obtain ⟨us, hfu, hru⟩ := fill_rel hr (parts_rel hE ps.toList) hf
  obtain ⟨hE', hle⟩ := hE.alloc e i.size [] hru
  rw [List.append_nil] at hE'
  have hlu : us.length = len * i.size := by
    have : ∀ {ps : List (Nat × AV)} {cs out : List AC}, fillA (fun j => some (j * i.size, i.size)) cs ps = some out → out.length = cs.length := by
      intro ps
      induction ps with
      | nil => intro cs out hf; simp only [fillA, Option.some.injEq] at hf; rw [hf]
      | cons p ps ih =>
        intro cs out hf
        obtain ⟨j, x⟩ := p
        simp only [fillA] at hf
        split at hf
        · rename_i off size xs hp hx
          split at hf
          · rename_i hle; rw [ih hf, length_splice _ _ _ (by omega)]
          · cases hf
        · cases hf
    rw [← hru.1, this hf, hr.1, Array.length_toList, size_madeCells]
  refine ⟨_, _, _, _, _, ?_, hE', rel_new_own hE e i.size _ len len _ (Nat.le_refl _) ?_ ?_, h⟩
  · simp only [Array.toArray_toList] at hfu
    by_cases h0 : len * i.size = 0
    · have hl0 : len = 0 := by
        rcases Nat.mul_eq_zero.1 h0 with h | h <;> omega
      subst hl0
      simp [execOp, ho, Instr.buildSlice, run_underlying hu, sizeOf, typeInfo, hi, newRow, madeCells, Array.range_zero'] at hfu ⊢
      simp [hfu]
    · have hnot : ¬ (2 ^ 24 < len * i.size) := by omega
      simp only [madeCells] at hfu
      simp [execOp, ho, Instr.buildSlice, run_underlying hu, sizeOf, typeInfo, hi, newRow, hv, h0, hnot, hfu]
  · simp only [maxLen]
    have : len ≤ len * i.size := Nat.le_mul_of_pos_right _ hpos
    omega
  · rw [hlu]; exact Nat.le_refl _

theorem scal_int {x : Operand} {k : IntKind} {n : Int} (hE : InvE w0 E0 H0 st a w E) (h : st.eval x = .one (.d (.s (.int k n)))) : a.eval x = .int k n := by
  have := hE.eval x; rw [h] at this; generalize a.eval x = q at this; cases this with | s _ => rfl
theorem scal {x : Operand} {v : Value} (hE : InvE w0 E0 H0 st a w E) (h : st.eval x = .one (.d (.s v))) : a.eval x = v := by
  have := hE.eval x; rw [h] at this; generalize a.eval x = q at this; cases this with | s _ => rfl

theorem fieldT_some {s f off n : Nat} {b : Bool} (h : fieldT P s f = some (off, n, b)) : ∃ fs fd, P.underlying s = some (.struct fs) ∧ fs[f]? = some fd ∧ fd.offset = off ∧ szOf P fd.type = some n ∧ aggT P fd.type = some b := by
  unfold fieldT at h
  split at h
  · rename_i fs hu
    split at h
    · rename_i fd hf
      split at h
      · rename_i n' b' h1 h2
        simp at h
        obtain ⟨rfl, rfl, rfl⟩ := h
        exact ⟨fs, fd, hu, hf, rfl, h1, h2⟩
      · cases h
    · cases h
  · cases h

theorem ok_fieldAddr {s : TypeId} {x : Operand} {f : Nat} (ho : o.op = .fieldAddr s x f) (h : fieldAddrA P st.heap s (st.eval x) f fun v => K (st.put o.dst v)) : OpOk P o st K := by
  unfold fieldAddrA at h
  split at h
  · rename_i off n b hT
    obtain ⟨hn, h⟩ := h
    obtain ⟨fs, fd, hu, hf, rfl, hs, _⟩ := fieldT_some hT
    split at h
    · rename_i k g o' hx
      obtain ⟨hl, h⟩ := h
      obtain ⟨B, hB⟩ := Option.isSome_iff_exists.1 hl
      refine opOk_same (x := .one (.ptr k g (o' + fd.offset))) (fun w0 E0 H0 a w E hE => ?_) h
      have hr := hE.eval x
      rw [hx] at hr
      obtain ⟨i, bb, hk, hg, hi, hok, hb, hv⟩ := hE.at_ptr hB hr
      refine ⟨.pointer (some ⟨bb, o' + fd.offset, none⟩), ?_, rfl, hr.2.1, fun j hj hjg => ?_⟩
      · simp [execOp, ho, Instr.fieldAt, run_underlying hu, hf, hv, Instr.sureAddr, fieldPlace, run_sizeOf hs, hn, add_lit]
      · rw [hi] at hj; cases hj; exact ⟨bb, hb, rfl⟩
    · rename_i cs hx
      obtain ⟨hlt, h⟩ := h
      refine opOk_same (x := .one (.d (.rptr (cs.drop fd.offset)))) (fun w0 E0 H0 a w E hE => ?_) h
      have hr := hE.eval x
      rw [hx] at hr
      generalize hq : a.eval x = q at hr
      cases hr with
      | rptr fv hI hc hrr =>
        rename_i ad
        refine ⟨.pointer (some (ad.add fd.offset)), ?_, ?_⟩
        · simp [execOp, ho, Instr.fieldAt, run_underlying hu, hf, hq, Instr.sureAddr, fieldPlace, run_sizeOf hs, hn]
        · refine RelD.rptr (fun j => fv (fd.offset + j)) (by rw [add_block]; exact hI) (fun j hj => ?_) (fun j hj => ?_)
          · rw [add_add]; exact hc _ (by simp at hj; omega)
          · simp at hj
            rw [List.getElem_drop]; exact hrr (fd.offset + j) (by omega)
    · exact h.elim
  · exact h.elim

theorem ok_field {s : TypeId} {x : Operand} {f : Nat} (ho : o.op = .field s x f) (h : fieldA P s (st.eval x) f fun v => K (st.put o.dst v)) : OpOk P o st K := by
  unfold fieldA at h
  split at h
  · rename_i off n agg cs hT hx
    obtain ⟨fs, fd, hu, hf, rfl, hs, hg⟩ := fieldT_some hT
    split at h
    · rename_i y hy
      refine opOk_same (x := y) (fun w0 E0 H0 a w E hE => ?_) h
      have hr := hE.eval x
      rw [hx] at hr
      obtain ⟨l, hl, hrel⟩ := hr
      unfold valueOf at hy
      cases agg with
      | true =>
        simp only [if_true] at hy
        split at hy
        · rename_i hle
          cases hy
          refine ⟨.agg ((l.drop fd.offset).take n).toArray, ?_, ⟨_, rfl, (hrel.drop _).take _⟩⟩
          simp [execOp, ho, Instr.field, run_underlying hu, hf, hl, asAgg, part, run_isAgg hg, run_sizeOf hs, List.take_drop]
        · cases hy
      | false =>
        simp only [Bool.false_eq_true, if_false] at hy
        cases hd : cs.drop fd.offset with
        | nil => simp [hd] at hy
        | cons c ds =>
          simp [hd] at hy
          subst hy
          have hc : cs[fd.offset]? = some c := by
            have : (cs.drop fd.offset)[0]? = some c := by rw [hd]; rfl
            rw [List.getElem?_drop] at this; simpa using this
          obtain ⟨v, hv, _, hrc⟩ := hrel.at_ hc
          refine ⟨v, ?_, hrc⟩
          simp [execOp, ho, Instr.field, run_underlying hu, hf, hl, asAgg, part, run_isAgg hg, hv]
    · exact h.elim
  · exact h.elim

theorem arrT_some {t n e size : Nat} (h : arrT P t = some (n, e, size)) : P.underlying t = some (.array n e) ∧ szOf P e = some size := by
  unfold arrT at h
  split at h
  · rename_i n' e' hu
    rw [Option.map_eq_some_iff] at h
    obtain ⟨s, hs, h⟩ := h
    simp at h
    obtain ⟨rfl, rfl, rfl⟩ := h
    exact ⟨hu, hs⟩
  · exact absurd h (by simp)
theorem ok_index {t : TypeId} {x ix : Operand} (ho : o.op = .indexAddr t x ix) (h : indexA P st.heap t (st.eval x) (st.eval ix) fun v => K (st.put o.dst v)) : OpOk P o st K := by
  unfold indexA at h
  split at h
  · rename_i e size bytes kk n hT hix
    obtain ⟨hu, i, hi, rfl, _⟩ := sliceT_some hT
    split at h
    · rename_i k g off len hx
      obtain ⟨⟨hl, hsz, h0, hlt⟩, h⟩ := h
      obtain ⟨B, hB⟩ := Option.isSome_iff_exists.1 hl
      refine opOk_same (x := .one (.ptr k g (off + n.toNat * i.size))) (fun w0 E0 H0 a w E hE => ?_) h
      have hr := hE.eval x
      rw [hx] at hr
      obtain ⟨j, ad, cap, hk, hg, hj, hok, hv, h1, h2, h3, h4⟩ := hE.at_own hB hr
      have hjs : j.size = i.size := by rw [hB] at hsz; simp at hsz; rw [hok.2.2.1, hsz]
      cases hb : j.blk with
      | none => rw [hb] at h4; obtain ⟨_, hc⟩ := h4; omega
      | some b =>
        rw [hb] at h4
        have had := h4 (by omega)
        refine ⟨.pointer (some ⟨b, off + n.toNat * i.size, none⟩), ?_, rfl, hr.2.1, fun q hq _ => ?_⟩
        · simp [execOp, ho, Instr.indexAt, scal_int hE hix, asIntOf, run_underlying hu, hv, had, h0, hlt, sizeOf, typeInfo, hi, add_lit]
        · rw [hj] at hq; cases hq; exact ⟨b, hb, rfl⟩
    · rename_i len cs hx
      obtain ⟨⟨hcl, h0, hlt⟩, h⟩ := h
      refine opOk_same (x := .one (.d (.rptr (cs.drop (n.toNat * i.size))))) (fun w0 E0 H0 a w E hE => ?_) h
      have hr := hE.eval x
      rw [hx] at hr
      generalize hq : a.eval x = q at hr
      cases hr with
      | list fv ha hrr hn hm =>
        obtain ⟨ad, rfl, hI, hc⟩ := ha (by intro e; subst e; simp at hcl)
        refine ⟨.pointer (some (ad.add (n.toNat * i.size))), ?_, ?_⟩
        · simp [execOp, ho, Instr.indexAt, scal_int hE hix, asIntOf, run_underlying hu, hq, h0, hlt, sizeOf, typeInfo, hi]
        · refine RelD.rptr (fun j => fv (n.toNat * i.size + j)) (by rw [add_block]; exact hI) (fun j hj => ?_) (fun j hj => ?_)
          · rw [add_add]; exact hc _ (by simp at hj; omega)
          · simp at hj
            rw [List.getElem_drop]; exact hrr (n.toNat * i.size + j) (by omega)
    · exact h.elim
  · rename_i kk n hT hix
    split at h
    · rename_i len e size hA
      obtain ⟨hu, hn⟩ := arrT_some hA
      split at h
      · rename_i k g off hx
        obtain ⟨⟨hl, h0, hlt⟩, h⟩ := h
        obtain ⟨B, hB⟩ := Option.isSome_iff_exists.1 hl
        refine opOk_same (x := .one (.ptr k g (off + n.toNat * size))) (fun w0 E0 H0 a w E hE => ?_) h
        have hr := hE.eval x
        rw [hx] at hr
        obtain ⟨j, b, hk, hg, hj, hok, hb, hv⟩ := hE.at_ptr hB hr
        refine ⟨.pointer (some ⟨b, off + n.toNat * size, none⟩), ?_, rfl, hr.2.1, fun q hq _ => ?_⟩
        · simp [execOp, ho, Instr.indexAt, scal_int hE hix, asIntOf, run_underlying hu, hv, h0, hlt, run_sizeOf hn, add_lit, Instr.sureAddr]
        · rw [hj] at hq; cases hq; exact ⟨b, hb, rfl⟩
      · rename_i cs hx
        obtain ⟨⟨hcl, h0, hlt⟩, h⟩ := h
        refine opOk_same (x := .one (.d (.rptr (cs.drop (n.toNat * size))))) (fun w0 E0 H0 a w E hE => ?_) h
        have hr := hE.eval x
        rw [hx] at hr
        generalize hq : a.eval x = q at hr
        cases hr with
        | rptr fv hI hc hrr =>
          rename_i ad
          refine ⟨.pointer (some (ad.add (n.toNat * size))), ?_, ?_⟩
          · simp [execOp, ho, Instr.indexAt, scal_int hE hix, asIntOf, run_underlying hu, hq, h0, hlt, run_sizeOf hn, Instr.sureAddr]
          · refine RelD.rptr (fun j => fv (n.toNat * size + j)) (by rw [add_block]; exact hI) (fun j hj => ?_) (fun j hj => ?_)
            · rw [add_add]; exact hc _ (by simp at hj; omega)
            · simp at hj
              rw [List.getElem_drop]; exact hrr (n.toNat * size + j) (by omega)
      · exact h.elim
    · exact h.elim
  · exact h.elim

theorem ok_strindex {t : TypeId} {x ix : Operand} {s : ByteArray} {kk : IntKind} {n : Int} (ho : o.op = .index t x ix) (hx : st.eval x = .one (.d (.s (.string s)))) (hix : st.eval ix = .one (.d (.s (.int kk n))))
    (hu : P.underlying t = some .string) (h0 : 0 ≤ n) (hlt : n < (s.size : Int)) (h : K (st.put o.dst (iv .u8 ((s.data.toList.getD n.toNat 0).toNat : Int)))) : OpOk P o st K := by
  refine opOk_same (x := iv .u8 ((s.data.toList.getD n.toNat 0).toNat : Int)) (fun w0 E0 H0 a w E hE => ⟨.int .u8 ((s.data.toList.getD n.toNat 0).toNat : Int), ?_, RelD.s rfl⟩) h
  have hn : n.toNat < s.size := by omega
  have hg : s[n.toNat]? = some (s.data.toList.getD n.toNat 0) := by
    have h1 : s[n.toNat]? = some (s[n.toNat]'hn) := by simp [hn]
    rw [h1]
    have h2 : n.toNat < s.data.toList.length := by simpa using hn
    rw [List.getD_eq_getElem?_getD, List.getElem?_eq_getElem h2]
    simp
    rfl
  simp [execOp, ho, Instr.index, scal_int hE hix, scal hE hx, asIntOf, run_underlying hu, h0, hg]

theorem ok_indexV {t : TypeId} {x ix : Operand} (ho : o.op = .index t x ix) (h : indexVA P t (st.eval x) (st.eval ix) fun v => K (st.put o.dst v)) : OpOk P o st K := by
  unfold indexVA at h
  split at h
  · rename_i s k n hx hix
    obtain ⟨⟨hu, h0, h1⟩, h⟩ := h
    exact ok_strindex ho hx hix hu h0 h1 h
  · rename_i cs k n hx hix
    split at h
    · rename_i len e size hA
      obtain ⟨hu, hn⟩ := arrT_some hA
      split at h
      · rename_i agg ha
        obtain ⟨⟨h0, hlt, hcl, h1⟩, h⟩ := h
        split at h
        · rename_i y hy
          refine opOk_same (x := y) (fun w0 E0 H0 a w E hE => ?_) h
          have hr := hE.eval x
          rw [hx] at hr
          obtain ⟨l, hl, hrl⟩ := hr
          have hll := hrl.1
          have hsz : n.toNat * size + size ≤ l.length := by rw [Nat.add_mul, Nat.one_mul] at hcl; omega
          cases agg with
          | true =>
            have hs2 : size ≤ (cs.drop (n.toNat * size)).length := by simp; omega
            simp [valueOf, hs2] at hy
            have hs3 : size ≤ cs.length - n.toNat * size := by omega
            simp [hs3] at hy
            refine ⟨.agg (l.toArray.extract (n.toNat * size) (n.toNat * size + size)), ?_, ?_⟩
            · simp [execOp, ho, Instr.index, scal_int hE hix, asIntOf, run_underlying hu, hl, h0, hlt, run_sizeOf hn, part, run_isAgg ha]
            · subst hy
              refine ⟨(l.drop (n.toNat * size)).take size, by simp, (hrl.drop _).take _⟩
          | false =>
            have := h1 rfl
            subst this
            simp at hsz
            have hlt2 : n.toNat < cs.length := by omega
            have hlt3 : n.toNat < l.length := by omega
            simp [valueOf] at hy
            obtain ⟨c, hc, rfl⟩ := hy
            refine ⟨l[n.toNat], ?_, ?_⟩
            · simp [execOp, ho, Instr.index, scal_int hE hix, asIntOf, run_underlying hu, hl, h0, hlt, run_sizeOf hn, part, run_isAgg ha, hlt3]
            · exact (hrl.2 n.toNat c _ (by simpa using hc) (List.getElem?_eq_getElem hlt3)).2
        · exact h.elim
      · exact h.elim
    · exact h.elim
  · exact h.elim

theorem ok_nil {x : Operand} (ho : o.op = .nilCheck x) (h : nilA st.heap (st.eval x) fun v => K (st.put o.dst v)) : OpOk P o st K := by
  unfold nilA at h
  split at h
  · rename_i k g off hx
    obtain ⟨hs, h⟩ := h
    refine opOk_same (x := .one (.ptr k g off)) (fun w0 E0 H0 a w E hE => ?_) h
    have hr := hE.eval x
    rw [hx] at hr
    obtain ⟨B, hB⟩ := Option.isSome_iff_exists.1 hs
    obtain ⟨hk, hg⟩ := blkAt_some hB
    obtain ⟨i, hi, hok⟩ := hE.sim.blk k B hk
    obtain ⟨b, hb, hv⟩ := hr.2.2 i hi (hok.1.trans hg)
    exact ⟨a.eval x, by simp [execOp, ho, hv], hr⟩
  · rename_i cs hx
    refine opOk_same (x := .one (.d (.rptr cs))) (fun w0 E0 H0 a w E hE => ?_) h
    have hr := hE.eval x
    rw [hx] at hr
    have hp : ∃ ad, a.eval x = .pointer (some ad) := by
      generalize a.eval x = v at hr
      cases hr with
      | rptr f h1 h2 h3 => exact ⟨_, rfl⟩
    obtain ⟨ad, had⟩ := hp
    exact ⟨a.eval x, by simp [execOp, ho, had], hr⟩
  · exact h.elim

theorem ok_extract {x : Operand} {i : Nat} {vs : List AV} {y : AV} (ho : o.op = .extract x i) (hx : st.eval x = .tup vs) (hy : vs[i]? = some y) (hK : K (st.put o.dst y)) : OpOk P o st K := by
  refine opOk_same (x := y) (fun w0 E0 H0 a w E hE => ?_) hK
  have hr := hE.eval x
  rw [hx] at hr
  obtain ⟨l, hl, hlen, hrel⟩ := hr
  have hi : i < l.length := by rw [← hlen]; exact (List.getElem?_eq_some_iff.1 hy).1
  have h1 := hrel i y _ hy (List.getElem?_eq_getElem hi)
  refine ⟨l[i], by simp [execOp, ho, Instr.extract, hl, hi], ?_⟩
  cases y with
  | one c => exact h1
  | agg cs => exact h1
  | tup vs => exact h1.elim

theorem mapT_some {t k e : TypeId} (h : mapT P t = some (k, e)) : P.underlying t = some (.map k e) := by
  unfold mapT at h
  split at h
  · cases h; assumption
  · cases h
theorem ok_len {x : Operand} {t : TypeId} (ho : o.op = .call { callee := .builtin .len, args := #[x], argTypes := #[t] }) (h : lenA P st.heap t (st.eval x) fun v => K (st.put o.dst v)) : OpOk P o st K := by
  unfold lenA at h
  split at h
  · rename_i s hx
    obtain ⟨hu, h⟩ := h
    refine opOk_same (x := iv .i64 s.size) (fun w0 E0 H0 a w E hE => ⟨.int .i64 s.size, ?_, RelD.s rfl⟩) h
    simp [execOp, ho, resolve, invoke, builtin, Builtin.len_, scal hE hx, run_underlying hu, goInt]
  · rename_i hx
    obtain ⟨hT, h⟩ := h
    obtain ⟨⟨e, size, bytes⟩, hT⟩ := Option.isSome_iff_exists.1 hT
    obtain ⟨hu, _⟩ := sliceT_some hT
    refine opOk_same (x := iv .i64 0) (fun w0 E0 H0 a w E hE => ⟨.int .i64 0, ?_, RelD.s rfl⟩) h
    have hr := hE.eval x
    rw [hx] at hr
    generalize hq : a.eval x = q at hr
    cases hr with
    | nil => simp [execOp, ho, resolve, invoke, builtin, Builtin.len_, hq, run_underlying hu, goInt]
  · rename_i n cs hx
    obtain ⟨hT, h⟩ := h
    obtain ⟨⟨e, size, bytes⟩, hT⟩ := Option.isSome_iff_exists.1 hT
    obtain ⟨hu, _⟩ := sliceT_some hT
    refine opOk_same (x := iv .i64 n) (fun w0 E0 H0 a w E hE => ⟨.int .i64 n, ?_, RelD.s rfl⟩) h
    have hr := hE.eval x
    rw [hx] at hr
    generalize hq : a.eval x = q at hr
    cases hr with
    | list fv ha hrr hn hm => simp [execOp, ho, resolve, invoke, builtin, Builtin.len_, hq, run_underlying hu, goInt]
  · rename_i k g off n hx
    obtain ⟨⟨hT, hl⟩, h⟩ := h
    obtain ⟨⟨e, size, bytes⟩, hT⟩ := Option.isSome_iff_exists.1 hT
    obtain ⟨B, hB⟩ := Option.isSome_iff_exists.1 hl
    obtain ⟨hu, _⟩ := sliceT_some hT
    refine opOk_same (x := iv .i64 n) (fun w0 E0 H0 a w E hE => ⟨.int .i64 n, ?_, RelD.s rfl⟩) h
    have hr := hE.eval x
    rw [hx] at hr
    obtain ⟨j, ad, cap, hk, hg, hj, hok, hv, _⟩ := hE.at_own hB hr
    simp [execOp, ho, resolve, invoke, builtin, Builtin.len_, hv, run_underlying hu, goInt]
  · rename_i es c hx
    obtain ⟨hT, h⟩ := h
    obtain ⟨⟨kt, et⟩, hT⟩ := Option.isSome_iff_exists.1 hT
    refine opOk_same (x := iv .i64 es.length) (fun w0 E0 H0 a w E hE => ⟨.int .i64 es.length, ?_, RelD.s rfl⟩) h
    have hr := hE.eval x
    rw [hx] at hr
    generalize hq : a.eval x = q at hr
    cases hr with
    | map hI hm => simp [execOp, ho, resolve, invoke, builtin, Builtin.len_, hq, run_underlying (mapT_some hT), MapKept.run_getObj_map hm, goInt]
  · rename_i k g hx
    split at h
    · rename_i es c hB
      obtain ⟨hT, h⟩ := h
      obtain ⟨⟨kt, et⟩, hT⟩ := Option.isSome_iff_exists.1 hT
      refine opOk_same (x := iv .i64 es.length) (fun w0 E0 H0 a w E hE => ⟨.int .i64 es.length, ?_, RelD.s rfl⟩) h
      have hr := hE.eval x
      rw [hx] at hr
      obtain ⟨B, i, b, _, _, _, _, _, _, _, _, _, _, hv, hm⟩ := hE.at_map hB hr
      simp [execOp, ho, resolve, invoke, builtin, Builtin.len_, hv, run_underlying (mapT_some hT), MapKept.run_getObj_map hm, goInt]
    · exact h.elim
  · exact h.elim
end
end Go.Abs
namespace Go.Abs
set_option linter.unusedSimpArgs false
set_option linter.unusedVariables false
set_option linter.unnecessarySimpa false
open Go

section
variable {P : Program} {w0 w : World} {E0 E : Env} {H0 : AHeap} {st : ASt} {a : Act} {o : Oper} {K : ASt → Prop}

theorem run_bound {x : Value} {k : IntKind} {i : Int} {y : Nat} {code : BoundsCode} (hx : x = .int k i) (h0 : 0 ≤ i) (h1 : i ≤ (y : Int)) : (Instr.sliceBound x y code).run P w = .ok i.toNat w := by
  subst hx
  simp [Instr.sliceBound, asIntOf, h0, h1]

theorem bound_val {lo : Option Operand} {d l : Int} (hE : InvE w0 E0 H0 st a w E) (h : boundOf st.eval lo d = some l) : (lo.map a.eval = none ∧ l = d) ∨ (∃ k, lo.map a.eval = some (.int k l)) := by
  unfold boundOf at h
  cases lo with
  | none => simp at h; exact .inl ⟨rfl, h.symm⟩
  | some x =>
    simp only at h
    split at h
    · rename_i k n hx
      cases h
      exact .inr ⟨k, by simp [scal_int hE hx]⟩
    · cases h

theorem run_bounds {b : Bool} {lo hi : Option Operand} {l h : Int} {len cap n : Nat} (hE : InvE w0 E0 H0 st a w E) (hl : boundOf st.eval lo 0 = some l) (hh : boundOf st.eval hi n = some h)
    (hn : n = len) (h0 : 0 ≤ l) (h1 : l ≤ h) (h2 : h ≤ (n : Int)) (hc : len ≤ cap) : (Instr.sliceBounds b len cap (lo.map a.eval) (hi.map a.eval) none).run P w = .ok (l.toNat, h.toNat, cap) w := by
  subst hn
  have hH : (match (hi.map a.eval : Option Value) with
      | some v => Instr.sliceBound v cap (if b then .sliceAcap else .sliceAlen)
      | none => pure n).run P w = .ok h.toNat w := by
    rcases bound_val hE hh with ⟨e, rfl⟩ | ⟨k, e⟩ <;> rw [e]
    · simp
    · exact run_bound rfl (by omega) (by omega)
  have hL : (match (lo.map a.eval : Option Value) with
      | some v => Instr.sliceBound v h.toNat .sliceB
      | none => pure 0).run P w = .ok l.toNat w := by
    rcases bound_val hE hl with ⟨e, rfl⟩ | ⟨k, e⟩ <;> rw [e]
    · simp
    · exact run_bound rfl h0 (by omega)
  rcases bound_val hE hh with ⟨e, e2⟩ | ⟨k, e⟩ <;> rcases bound_val hE hl with ⟨e', e2'⟩ | ⟨k', e'⟩ <;> simp only [e, e'] at hH hL ⊢ <;> simp [Instr.sliceBounds] <;>
    first
    | (simp at hH hL; simp [hH, hL]; done)
    | (simp [hH]; first | (simp [hL]; done) | simp_all)
    | simp_all

theorem ok_slice {t : TypeId} {x : Operand} {lo hi : Option Operand} (ho : o.op = .slice t x lo hi none) (h : sliceA P st.heap st.eval t (st.eval x) lo hi fun v => K (st.put o.dst v)) : OpOk P o st K := by
  unfold sliceA at h
  split at h
  · rename_i s hx
    split at h
    · rename_i l hh hl hhh
      obtain ⟨hu, ⟨h0, h1, h2⟩, h⟩ := h
      refine opOk_same (x := sv (.string (s.extract l.toNat hh.toNat))) (fun w0 E0 H0 a w E hE => ⟨_, ?_, RelD.s rfl⟩) h
      have hb := run_bounds (P := P) (b := false) (cap := s.size) hE hl hhh rfl h0 h1 h2 (Nat.le_refl _)
      simp [execOp, ho, Instr.sliceAt, Instr.slice, run_underlying hu, scal hE hx, hb]
    · exact h.elim
  · rename_i n cs hx
    split at h
    · rename_i l hh e size bytes hl hhh hT
      obtain ⟨⟨h0, h1, h2⟩, h⟩ := h
      obtain ⟨hu, i, hi', rfl, _⟩ := sliceT_some hT
      refine opOk_same (x := .one (.d (.list (hh.toNat - l.toNat) ((cs.drop (l.toNat * i.size)).take ((hh.toNat - l.toNat) * i.size))))) (fun w0 E0 H0 a w E hE => ?_) h
      have hr := hE.eval x
      rw [hx] at hr
      generalize hq : a.eval x = q at hr
      cases hr with
      | list fv ha hrr hn hm =>
        rename_i ad cap
        have hb := run_bounds (P := P) (b := true) hE hl hhh rfl h0 h1 h2 hn
        refine ⟨.slice (if cap = l.toNat then ad else ad.map (·.add (l.toNat * i.size))) (hh.toNat - l.toNat) (cap - l.toNat), ?_, ?_⟩
        · simp [execOp, ho, Instr.sliceAt, Instr.slice, run_underlying hu, hq, hb, sizeOf, typeInfo, hi']
        · refine RelD.list (fun j => fv (l.toNat * i.size + j)) (fun hne => ?_) (fun j hj => ?_) (by omega) (by omega)
          · have hcs : cs ≠ [] := by intro e; subst e; simp at hne
            obtain ⟨ad', rfl, hI, hc⟩ := ha hcs
            have hne2 : hh.toNat - l.toNat ≠ 0 := by intro e; rw [e] at hne; simp at hne
            rw [if_neg (by omega)]
            refine ⟨_, rfl, by rw [add_block]; exact hI, fun j hj => ?_⟩
            rw [add_add]
            exact hc _ (by simp at hj; omega)
          · simp at hj
            rw [List.getElem_take, List.getElem_drop]; exact hrr _ (by omega)
    · exact h.elim
  · rename_i k g off n hx
    split at h
    · rename_i l hh e size bytes B hl hhh hT hB
      obtain ⟨⟨hs, h0, h1, h2⟩, h⟩ := h
      obtain ⟨hu, i, hi', rfl, _⟩ := sliceT_some hT
      refine opOk_same (x := .one (.own k g (off + l.toNat * i.size) (hh.toNat - l.toNat))) (fun w0 E0 H0 a w E hE => ?_) h
      have hr := hE.eval x
      rw [hx] at hr
      obtain ⟨j, ad, cap, hk, hg, hj, hok, hv, g1, g2, g3, g4⟩ := hE.at_own hB hr
      have hjs : j.size = i.size := by rw [hok.2.2.1, hs]
      have hb := run_bounds (P := P) (b := true) hE hl hhh rfl h0 h1 h2 g1
      refine ⟨.slice (if cap = l.toNat then ad else ad.map (·.add (l.toNat * i.size))) (hh.toNat - l.toNat) (cap - l.toNat), ?_, rfl, hr.2.1, fun q hq _ => ?_⟩
      · simp [execOp, ho, Instr.sliceAt, Instr.slice, run_underlying hu, hv, hb, sizeOf, typeInfo, hi']
      · rw [hj] at hq; cases hq
        refine ⟨_, _, rfl, by omega, by omega, ?_, ?_⟩
        · rw [hjs]; rw [hjs] at g3
          have : l.toNat * i.size + (cap - l.toNat) * i.size = cap * i.size := by rw [← Nat.add_mul]; congr 1; omega
          omega
        · cases hbk : j.blk with
          | none =>
            rw [hbk] at g4
            obtain ⟨rfl, rfl⟩ := g4
            exact ⟨by split <;> rfl, by omega⟩
          | some b =>
            rw [hbk] at g4
            intro hpos
            rw [g4 (by omega), if_neg (by omega)]
            simp [add_lit]
    · exact h.elim
  · rename_i hx
    split at h
    · rename_i l hh T hl hhh hT
      obtain ⟨⟨rfl, rfl⟩, h⟩ := h
      obtain ⟨e, size, bytes⟩ := T
      obtain ⟨hu, i, hi', rfl, _⟩ := sliceT_some hT
      refine opOk_same (x := .one (.d .nil)) (fun w0 E0 H0 a w E hE => ?_) h
      have hr := hE.eval x
      rw [hx] at hr
      generalize hq : a.eval x = q at hr
      cases hr with
      | nil =>
        have hb := run_bounds (P := P) (b := true) (n := 0) (len := 0) (cap := 0) hE hl hhh rfl (Int.le_refl _) (Int.le_refl _) (by omega) (Nat.le_refl _)
        refine ⟨.slice none 0 0, ?_, RelD.nil⟩
        simp [execOp, ho, Instr.sliceAt, Instr.slice, run_underlying hu, hq, sizeOf, typeInfo, hi'] at hb ⊢
        simp [hb]
    · exact h.elim
  · rename_i k g off hx
    split at h
    · rename_i n e size B hA hB
      obtain ⟨hu, hn⟩ := arrT_some hA
      split at h
      · rename_i l hh hl hhh
        obtain ⟨⟨hs, h0, h1, h2, h5, h6⟩, h⟩ := h
        refine opOk_same (x := .one (.own k g (off + l.toNat * size) (hh.toNat - l.toNat))) (fun w0 E0 H0 a w E hE => ?_) h
        have hr := hE.eval x
        rw [hx] at hr
        obtain ⟨j, b, hk, hg, hj, hok, hb, hv⟩ := hE.at_ptr hB hr
        have hjs : j.size = size := by rw [hok.2.2.1, hs]
        have hbd := run_bounds (P := P) (b := false) (n := n) (len := n) (cap := n) hE hl hhh rfl h0 h1 h2 (Nat.le_refl _)
        have hroom : B.cells.length ≤ j.room := by
          obtain ⟨_, _, _, _, h5, _⟩ := hok.cells (blkAt_size hB) hb
          exact h5
        refine ⟨.slice (some (if n = l.toNat then ⟨b, off, none⟩ else (⟨b, off, none⟩ : Addr).add (l.toNat * size))) (hh.toNat - l.toNat) (n - l.toNat), ?_, rfl, hr.2.1, fun q hq _ => ?_⟩
        · simp [execOp, ho, Instr.sliceAt, run_underlying hu, hv, hbd, run_sizeOf hn, Instr.sureAddr]
        · rw [hj] at hq; cases hq
          refine ⟨_, _, rfl, by omega, by simp [maxLen]; omega, ?_, ?_⟩
          · rw [hjs]
            have : l.toNat * size + (n - l.toNat) * size = n * size := by rw [← Nat.add_mul]; congr 1; omega
            omega
          · rw [hb]
            intro hpos
            rw [if_neg (by omega)]
            simp [add_lit]
      · exact h.elim
    · exact h.elim
  · exact h.elim

theorem run_eqGuard_int (op : BinOp) (t : TypeId) (x y : Operand) (k k' : IntKind) (m n : Int) : (eqGuard op t x y (.int k m) (.int k' n)).run P w = .ok () w := by
  cases op <;> simp [eqGuard]
theorem run_eqGuard_str (op : BinOp) (t : TypeId) (x y : Operand) (m n : ByteArray) : (eqGuard op t x y (.string m) (.string n)).run P w = .ok () w := by
  cases op <;> simp [eqGuard]
theorem run_eqGuard_bool (op : BinOp) (t : TypeId) (x y : Operand) (m n : Bool) : (eqGuard op t x y (.bool m) (.bool n)).run P w = .ok () w := by
  cases op <;> simp [eqGuard]

theorem run_equal_bool {t : TypeId} (hu : P.underlying t = some .bool) (m n : Bool) : (Op.equal t (.bool m) (.bool n)).run P w = .ok (m == n) w := by
  have h : ∀ d, (Op.equalIn (d + 1) t (.bool m) (.bool n)).run P w = .ok (m == n) w := fun d => by simp [Op.equalIn, run_underlying hu]
  exact h 9999
theorem run_eql_bool' {t : TypeId} (hu : P.underlying t = some .bool) (m n : Bool) : (binOp .eql t (.bool m) (.bool n)).run P w = .ok (.bool (m == n)) w := by
  simp only [binOp, Sem.run_bind, run_equal_bool hu, Result.andThen_ok, Sem.run_pure]
theorem run_neq_bool' {t : TypeId} (hu : P.underlying t = some .bool) (m n : Bool) : (binOp .neq t (.bool m) (.bool n)).run P w = .ok (.bool (!(m == n))) w := by
  simp only [binOp, Sem.run_bind, run_equal_bool hu, Result.andThen_ok, Sem.run_pure]

theorem opOk_sv {v : Value} (hK : K (st.put o.dst (sv v))) (hs : Scalar v = true) (h : ∀ w0 E0 H0 a w E, InvE w0 E0 H0 st a w E → (execOp a.eval o).run P w = .ok (.value v) w) : OpOk P o st K :=
  opOk_same (x := sv v) (fun w0 E0 H0 a w E hE => ⟨v, h w0 E0 H0 a w E hE, RelD.s hs⟩) hK

theorem agg_eval {x : Operand} {a' : List Value} (hE : InvE w0 E0 H0 st a w E) (h : st.eval x = .agg (scells a')) : a.eval x = .agg a'.toArray := by
  have hr := hE.eval x
  rw [h] at hr
  obtain ⟨l, hl, hlen, hrel⟩ := hr
  rw [hl]
  have : l = a' := by
    apply List.ext_getElem
    · simpa [scells] using hlen.symm
    · intro j h1 h2
      obtain ⟨_, g⟩ := hrel j (.d (.s a'[j])) l[j] (by simp [scells, h2]) (by simp [h1])
      have key : ∀ x y, RelD w E.I (.s x) y → y = x := fun x y g => by cases g with | s hs => rfl
      exact key _ _ g
  rw [this]

theorem ok_bin {op : BinOp} {t ty : TypeId} {x y : Operand} (ho : o.op = .binOp op t x y ty) (h : binA P op t (st.eval x) (st.eval y) fun v => K (st.put o.dst v)) : OpOk P o st K := by
  unfold binA at h
  split at h
  · rename_i k m k' n hx hy
    split at h
    · rename_i hs
      cases op <;> simp [isShift] at hs <;> simp only [shiftBin] at h <;> obtain ⟨h0, h⟩ := h <;>
        refine opOk_sv h rfl (fun w0 E0 H0 a w E hE => ?_) <;>
        simp [execOp, ho, scal_int hE hx, scal_int hE hy, run_eqGuard_int, binOp, Op.shift, Int.not_lt.2 h0]
    · rename_i hs
      obtain ⟨rfl, h⟩ := h
      cases op <;> simp [isShift] at hs <;> simp only [intBin] at h <;>
        first
        | exact h.elim
        | (obtain ⟨h0, h⟩ := h
           refine opOk_sv h rfl (fun w0 E0 H0 a w E hE => ?_)
           simp [execOp, ho, scal_int hE hx, scal_int hE hy, run_eqGuard_int, binOp, Op.intDiv, h0]
           done)
        | (refine opOk_sv h rfl (fun w0 E0 H0 a w E hE => ?_)
           simp [execOp, ho, scal_int hE hx, scal_int hE hy, run_eqGuard_int, binOp, Op.intArith, Op.intBits, Op.intCmp]
           done)
  · rename_i m n hx hy
    cases op <;> simp only [strBin] at h <;>
      first
      | exact h.elim
      | (obtain ⟨h0, h⟩ := h
         refine opOk_sv h rfl (fun w0 E0 H0 a w E hE => ?_)
         have h1 : ¬ (9223372036854775807 < ((m.size : Int) + (n.size : Int))) := by simp only [maxLen] at h0; omega
         simp [execOp, ho, scal hE hx, scal hE hy, run_eqGuard_str, binOp, Op.stringOp, IntKind.max, h1, IntKind.bits, IntKind.signed]
         done)
      | (refine opOk_sv h rfl (fun w0 E0 H0 a w E hE => ?_)
         simp [execOp, ho, scal hE hx, scal hE hy, run_eqGuard_str, binOp, Op.stringOp]
         done)
  · rename_i m n hx hy
    unfold boolBin at h
    split at h
    · obtain ⟨hu, h⟩ := h
      refine opOk_sv h rfl (fun w0 E0 H0 a w E hE => ?_)
      simp only [execOp, ho, scal hE hx, scal hE hy, Sem.run_bind, run_eqGuard_bool, Result.andThen_ok, run_eql_bool' hu, Sem.run_pure]
    · obtain ⟨hu, h⟩ := h
      refine opOk_sv h rfl (fun w0 E0 H0 a w E hE => ?_)
      simp only [execOp, ho, scal hE hx, scal hE hy, Sem.run_bind, run_eqGuard_bool, Result.andThen_ok, run_neq_bool' hu, Sem.run_pure]
    · exact h.elim
  · rename_i xs ys hx hy
    obtain ⟨p, q, r, rfl, rfl, heq, h | h⟩ := h
    · obtain ⟨rfl, h⟩ := h
      refine opOk_sv h rfl (fun w0 E0 H0 a w E hE => ?_)
      obtain ⟨h1, h2⟩ := heq w
      simp [execOp, ho, agg_eval hE hx, agg_eval hE hy, h1, binOp, h2]
    · obtain ⟨rfl, h⟩ := h
      refine opOk_sv h rfl (fun w0 E0 H0 a w E hE => ?_)
      obtain ⟨h1, h2⟩ := heq w
      simp [execOp, ho, agg_eval hE hx, agg_eval hE hy, h1, binOp, h2]
  · exact h.elim

theorem isNilI_some {y : Operand} (h : isNilI y = true) : y = .const .nilIface := by
  unfold isNilI at h
  split at h
  · rfl
  · exact absurd h (by simp)
theorem ok_ifc {op : BinOp} {t ty : TypeId} {x y : Operand} (ho : o.op = .binOp op t x y ty) (hy : isNilI y = true) (h : ifcA P op t (st.eval x) fun v => K (st.put o.dst v)) : OpOk P o st K := by
  obtain rfl := isNilI_some hy
  obtain ⟨hT, hop, h⟩ := h
  have hm : P.underlying t = some (.interface (P.methodsAt t)) := by
    unfold ifaceT at hT
    split at hT
    · rename_i ms hu; simp [Program.methodsAt, hu]
    · cases hT
  split at h
  · rename_i hx
    refine opOk_sv (v := .bool (op == .eql)) h rfl fun w0 E0 H0 a w E hE => ?_
    have hxv := scal hE hx
    have hyv : a.eval (.const .nilIface) = .nilIface := rfl
    rcases hop with rfl | rfl
    · simp [execOp, ho, hxv, hyv, eqGuard, binOp, run_equal_nil_nil w t hm]
    · simp [execOp, ho, hxv, hyv, eqGuard, binOp, run_equal_nil_nil w t hm]
  · rename_i g hx
    refine opOk_sv (v := .bool (op == .neq)) h rfl fun w0 E0 H0 a w E hE => ?_
    have hyv : a.eval (.const .nilIface) = .nilIface := rfl
    have hr := hE.eval x
    rw [hx] at hr
    generalize hq : a.eval x = q at hr
    cases hr with
    | err _ _ _ _ _ _ _ _ =>
      rcases hop with rfl | rfl
      · simp [execOp, ho, hq, hyv, eqGuard, binOp, run_equal_held_nil w t _ _ hm]
      · simp [execOp, ho, hq, hyv, eqGuard, binOp, run_equal_held_nil w t _ _ hm]
  · exact h.elim

theorem isNilC_some {y : Operand} (h : isNilC y = true) : y = .const (.slice none 0 0) := by
  unfold isNilC at h
  split at h
  · rfl
  · exact absurd h (by simp)
theorem ok_nilCmp {op : BinOp} {t ty : TypeId} {x y : Operand} (ho : o.op = .binOp op t x y ty) (hy : isNilC y = true) (h : nilCmpA P st.heap op t (st.eval x) fun v => K (st.put o.dst v)) : OpOk P o st K := by
  obtain rfl := isNilC_some hy
  obtain ⟨hT, hop, h⟩ := h
  obtain ⟨⟨e, size, bytes⟩, hT⟩ := Option.isSome_iff_exists.1 hT
  obtain ⟨hu, _⟩ := sliceT_some hT
  -- what Go tells of a slice
  have run : ∀ (a : Act) (w : World) (A : Option Addr) (n c : Nat) (hx : a.eval x = .slice A n c), (execOp a.eval o).run P w = .ok (.value (.bool (if op = .eql then A.isNone else !A.isNone))) w := by
    intro a w A n c hx
    have hyv : a.eval (.const (.slice none 0 0)) = .slice none 0 0 := rfl
    have he : (Op.equal t (.slice A n c) (.slice none 0 0)).run P w = .ok A.isNone w := by
      unfold Op.equal Op.maxDepth
      rw [show (10000 : Nat) = 9999 + 1 from rfl, Op.equalIn]
      cases A <;> simp [run_underlying hu]
    rcases hop with rfl | rfl
    · simp [execOp, ho, hx, hyv, eqGuard, binOp, he]
    · simp [execOp, ho, hx, hyv, eqGuard, binOp, he]
  have known : ∀ (b : Bool), K (st.put o.dst (bv b)) → (∀ w0 E0 H0 a w E, InvE w0 E0 H0 st a w E → ∃ A n c, a.eval x = .slice A n c ∧ (if op = .eql then A.isNone else !A.isNone) = b) → OpOk P o st K := fun b hK hv =>
    opOk_sv (v := .bool b) hK rfl fun w0 E0 H0 a w E hE => by
      obtain ⟨A, n, c, hx, hb⟩ := hv w0 E0 H0 a w E hE
      rw [run a w A n c hx, hb]
  have open_ : (∀ b, K (st.put o.dst (bv b))) → (∀ w0 E0 H0 a w E, InvE w0 E0 H0 st a w E → ∃ A n c, a.eval x = .slice A n c) → OpOk P o st K := fun hK hv =>
    opOk_value fun w0 E0 H0 a w E hE => by
      obtain ⟨A, n, c, hx⟩ := hv w0 E0 H0 a w E hE
      exact ⟨_, w, bv (if op = .eql then A.isNone else !A.isNone), st, E, run a w A n c hx, hE, RelD.s rfl, hK _⟩
  split at h
  · rename_i hx
    refine known _ h fun w0 E0 H0 a w E hE => ?_
    have hr := hE.eval x
    rw [hx] at hr
    generalize hq : a.eval x = q at hr
    cases hr with
    | nil => exact ⟨none, 0, 0, rfl, by rcases hop with rfl | rfl <;> rfl⟩
  · rename_i n hx
    refine open_ h fun w0 E0 H0 a w E hE => ?_
    have hr := hE.eval x
    rw [hx] at hr
    generalize hq : a.eval x = q at hr
    cases hr with
    | list f ha hrr hn hm => exact ⟨_, _, _, rfl⟩
  · rename_i n c cs hx
    refine known _ h fun w0 E0 H0 a w E hE => ?_
    have hr := hE.eval x
    rw [hx] at hr
    generalize hq : a.eval x = q at hr
    cases hr with
    | list f ha hrr hn hm =>
      obtain ⟨ad, rfl, _⟩ := ha (by simp)
      exact ⟨_, _, _, rfl, by rcases hop with rfl | rfl <;> rfl⟩
  · rename_i k g off n hx
    obtain ⟨hs, h1, h2⟩ := h
    obtain ⟨B, hB⟩ := Option.isSome_iff_exists.1 hs
    rcases Nat.eq_zero_or_pos n with h0 | h0
    · refine open_ (h2 h0) fun w0 E0 H0 a w E hE => ?_
      have hr := hE.eval x
      rw [hx] at hr
      obtain ⟨j, ad, cap, _, _, _, _, hv, _⟩ := hE.at_own hB hr
      exact ⟨_, _, _, hv⟩
    · refine known _ (h1 h0) fun w0 E0 H0 a w E hE => ?_
      have hr := hE.eval x
      rw [hx] at hr
      obtain ⟨j, ad, cap, _, _, _, _, hv, g1, g2, g3, g4⟩ := hE.at_own hB hr
      refine ⟨_, _, _, hv, ?_⟩
      cases hb : j.blk with
      | none => rw [hb] at g4; omega
      | some b =>
        rw [hb] at g4
        rw [g4 (by omega)]
        rcases hop with rfl | rfl <;> rfl
  · exact h.elim

theorem ok_un {op : UnOp} {t : TypeId} {x : Operand} (ho : o.op = .unOp op t x) (h : unA op (st.eval x) fun v => K (st.put o.dst v)) : OpOk P o st K := by
  unfold unA at h
  split at h
  · rename_i b hx
    refine opOk_sv h rfl (fun w0 E0 H0 a w E hE => ?_)
    simp [execOp, ho, scal hE hx, Op.unary]
  · rename_i k n hx
    refine opOk_sv h rfl (fun w0 E0 H0 a w E hE => ?_)
    simp [execOp, ho, scal_int hE hx, Op.unary, Op.intArith]
  · exact h.elim
end
end Go.Abs
