/-
  What an abstract call says of a call; the abstract weakest precondition of code. No program's text.
-/
import Derived.Test.YtjalcajhmiamgaaAbs2
namespace Go.Abs
set_option linter.unusedSimpArgs false
set_option linter.unusedVariables false
set_option linter.unnecessarySimpa false
open Go

def RelVs (w : World) (E : Env) (xs : List AV) (vs : List Value) : Prop :=
  xs.length = vs.length ∧ ∀ (j : Nat) x v, xs[j]? = some x → vs[j]? = some v → RelV w E x v

/-- Called with values that read so, in whatever world: it returns what 'post' says of, and nothing that was there and was not its own to write has changed. -/
def ACall (P : Program) (f : FuncId) (args : List AV) (H : AHeap) (clk : Nat) (post : AV → AHeap → Nat → Prop) : Prop :=
  ∀ (w : World) (E : Env) (vals : List Value), E.clk = clk → SimH w E H → RelVs w E args vals →
    Calls P f vals.toArray w fun e w' => ∃ v r H' E', e = .returned v ∧ Env.Le w E w' E' ∧ SimH w' E' H' ∧ RelV w' E' r v ∧
      Frm w (LiveB E H) w' ∧ (∀ b, LiveB E' H' b → LiveB E H b ∨ w.heap.size ≤ b) ∧ (∀ b, b < w.heap.size → E'.I b → E.I b ∨ LiveB E H b) ∧ post r H' E'.clk

/-- An abstract state and what it stands for. -/
structure InvE (w0 : World) (E0 : Env) (H0 : AHeap) (st : ASt) (a : Act) (w : World) (E : Env) : Prop where
  dfr : a.defers = []
  le : Env.Le w0 E0 w E
  clk : E.clk = st.clk
  sim : SimH w E st.heap
  rel : RelVs w E st.tmps a.tmps.toList
  frm : Frm w0 (LiveB E0 H0) w
  live : ∀ b, LiveB E st.heap b → LiveB E0 H0 b ∨ w0.heap.size ≤ b
  I0 : ∀ b, b < w0.heap.size → E.I b → E0.I b ∨ LiveB E0 H0 b

def Inv (w0 : World) (E0 : Env) (H0 : AHeap) (st : ASt) (a : Act) (w : World) : Prop := ∃ E, InvE w0 E0 H0 st a w E

/-- A function that can be called: it has a body. -/
def callable (P : Program) (f : FuncId) : Bool :=
  match P.funcs[f]? with
  | some fn => fn.body.isSome && !(fn.name == "runtime.NumGoroutine")
  | none => false

/-- An operation taken in an abstract state leads to states of which K holds. -/
def OpOk (P : Program) (o : Oper) (st : ASt) (K : ASt → Prop) : Prop :=
  ∀ w0 E0 H0 a w, Inv w0 E0 H0 st a w → ∀ (N : Act → World → Prop) (Q : Exit → Act → World → Prop), (∀ st' a' w', K st' → Inv w0 E0 H0 st' a' w' → N a' w') → o.wp P a w N Q

/-- Code taken in an abstract state. -/
def CodeOk (P : Program) (c : Code) (Q : Exit → ASt → Prop) (st : ASt) : Prop :=
  ∀ w0 E0 H0 a w, Inv w0 E0 H0 st a w → c.wp P (fun e a' w' => ∃ st', Q e st' ∧ Inv w0 E0 H0 st' a' w') a w

def ASt.guard (st : ASt) (ops : Array Oper) (j : Nat) : Option (Option Bool) :=
  match (ops[j]?).bind (·.dst) with
  | some d => match st.tmps.getD d unknown with
    | .one (.d (.s (.bool b))) => some (some b)
    | .tup [] => some none
    | _ => none
  | none => none

def makeA (P : Program) (H : AHeap) (clk : Nat) (t : TypeId) (l c : AV) (K : AV → AHeap → Nat → Prop) : Prop :=
  match sliceT P t, l, c with
  | some (e, size, bytes), .one (.d (.s (.int _ n))), .one (.d (.s (.int _ m))) => match zeroT P e with
    | some z => (z.length = size ∧ 0 ≤ n ∧ n ≤ m ∧ (bytes : Int) * m ≤ 281474976710656 ∧ m ≤ 9223372036854775807) ∧
        K (.one (.own H.length clk 0 n.toNat)) (H ++ [some ⟨clk, e, size, (List.replicate m.toNat z).flatten⟩]) (clk + 1)
    | none => False
  | _, _, _ => False

def appendA (P : Program) (H : AHeap) (clk : Nat) (t u : TypeId) (x y : AV) (K : AV → AHeap → Nat → Prop) : Prop :=
  match sliceT P t, elems? H (((sliceT P t).map (·.2.1)).getD 0) y with
  | some (e, size, bytes), some (m, news) => (u = t ∧ 0 < size ∧ news.length = m * size ∧ (zeroT P e).map List.length = some size) ∧
    match x with
    | .one (.d .nil) => (m * bytes ≤ 140737488355328 ∧ m ≤ maxLen) ∧ K (.one (.own H.length (clk + 1) 0 m)) (H ++ [some ⟨clk + 1, e, size, news⟩]) (clk + 2)
    | .one (.own k g off n) => match blkAt H k g with
      | some B => (off = 0 ∧ B.size = size ∧ B.elem = e ∧ n * size ≤ B.cells.length ∧ (n + m) * bytes ≤ 140737488355328 ∧ n + m ≤ maxLen) ∧
          K (.one (.own k clk 0 (n + m))) (H.set k (some ⟨clk, e, size, B.cells.take (n * size) ++ news⟩)) (clk + 1)
      | none => False
    | _ => False
  | _, _ => False

/-- copy: how many elements; the own array behind it. -/
def copyA (P : Program) (H : AHeap) (t : TypeId) (x y : AV) (K : AV → AHeap → Prop) : Prop :=
  match sliceT P t, elems? H (((sliceT P t).map (·.2.1)).getD 0) y with
  | some (_, size, _), some (m, news) => match x with
    | .one (.own k g off n) => match blkAt H k g with
      | some B => (B.size = size ∧ news.length = m * size ∧ off + n * size ≤ B.cells.length) ∧
          K (iv .i64 (min m n : Nat)) (H.set k (some { B with cells := B.cells.take off ++ news.take (min m n * size) ++ B.cells.drop (off + min m n * size) }))
      | none => False
    | _ => False
  | _, _ => False
/-- The operations that come more rarely. -/
def xcore (P : Program) (op : Op) (ev : Operand → AV) (H : AHeap) (clk : Nat) (K : AV → AHeap → Nat → Prop) : Prop :=
  match op with
  | .makeMap _ none => K (.one (.mp H.length clk)) (H ++ [some ⟨clk, 0, 0, [.obj [] 0]⟩]) (clk + 1)
  | .lookup t m k ok => lookupA P H t (ev m) (ev k) ok fun v => K v H clk
  | .mapUpdate t m k v => mapUpdA P H t (ev m) (ev k) (ev v) fun H' => K unknown H' clk
  | .call { callee := .builtin .delete, args, argTypes } => match args.toList, argTypes.toList with
    | [m, k], [t, _] => mapDelA P H t (ev m) (ev k) fun H' => K unknown H' clk
    | _, _ => False
  | .call { callee := .builtin .copy, args, argTypes } => match args.toList, argTypes.toList with
    | [x, y], [t, _] => copyA P H t (ev x) (ev y) fun v H' => K v H' clk
    | _, _ => False
  | .call { callee := .builtin .max, args, .. } => match args.toList with
    | [x, y] => match ev x, ev y with
      | .one (.d (.s (.int k a))), .one (.d (.s (.int k' b))) => k = k' ∧ K (iv k (max a b)) H clk
      | _, _ => False
    | _ => False
  | .call { callee := .builtin .min, args, .. } => match args.toList with
    | [x, y] => match ev x, ev y with
      | .one (.d (.s (.int k a))), .one (.d (.s (.int k' b))) => k = k' ∧ K (iv k (min a b)) H clk
      | _, _ => False
    | _ => False
  | _ => False
/-- What an operation yields, its operands told by 'ev'. -/
def acore (P : Program) (op : Op) (ev : Operand → AV) (H : AHeap) (clk : Nat) (K : AV → AHeap → Nat → Prop) : Prop :=
  match op with
  | .move x | .assign x => K (ev x) H clk
  | .pick c x y => match ev c with
    | .one (.d (.s (.bool b))) => K (if b then ev x else ev y) H clk
    | _ => False
  | .alloc e => match zeroT P e, unitT P e with
    | some z, some n => K (.one (.ptr H.length clk 0)) (H ++ [some ⟨clk, e, n, z⟩]) (clk + 1)
    | _, _ => False
  | .box e x => match (ev x).cells?, unitT P e with
    | some cs, some n => K (.one (.ptr H.length clk 0)) (H ++ [some ⟨clk, e, n, cs⟩]) (clk + 1)
    | _, _ => False
  | .build t ps => match zeroT P t, placesT P t with
    | some z, some pl => match fillA (fun i => pl[i]?) z (ps.toList.map fun (i, x) => (i, ev x)) with
      | some cs => K (.agg cs) H clk
      | none => False
    | _, _ => False
  | .buildSlice t len ps => match sliceT P t with
    | some (e, size, _) => match zeroT P e with
      | some z => match fillA (fun i => some (i * size, size)) (List.replicate len z).flatten (ps.toList.map fun (i, x) => (i, ev x)) with
        | some cs => (z.length = size ∧ len * size ≤ 16777216 ∧ 0 < size) ∧ K (.one (.own H.length clk 0 len)) (H ++ [some ⟨clk, e, size, cs⟩]) (clk + 1)
        | none => False
      | none => False
    | none => False
  | .load t x => loadA P H t (ev x) fun v => K v H clk
  | .store t x y => storeA P H t (ev x) (ev y) fun H' => K unknown H' clk
  | .binOp op t x y _ => if isNilC y = true then nilCmpA P H op t (ev x) fun v => K v H clk else binA P op t (ev x) (ev y) fun v => K v H clk
  | .unOp op _ x => unA op (ev x) fun v => K v H clk
  | .convert s t x => convA P H s t (ev x) fun v => K v H clk
  | .makeSlice t l c => makeA P H clk t (ev l) (ev c) K
  | .slice t x lo hi none => sliceA P H ev t (ev x) lo hi fun v => K v H clk
  | .fieldAddr s x f => fieldAddrA P H s (ev x) f fun v => K v H clk
  | .field s x f => fieldA P s (ev x) f fun v => K v H clk
  | .indexAddr t x i => indexA P H t (ev x) (ev i) fun v => K v H clk
  | .index t x i => indexVA P t (ev x) (ev i) fun v => K v H clk
  | .extract x i => match ev x with
    | .tup vs => match vs[i]? with
      | some (.one c) => K (.one c) H clk
      | some (.agg cs) => K (.agg cs) H clk
      | _ => False
    | _ => False
  | .call { callee := .builtin .len, args, argTypes } => match args.toList, argTypes.toList with
    | [x], [t] => lenA P H t (ev x) fun v => K v H clk
    | _, _ => False
  | .call { callee := .builtin .append, args, argTypes } => match args.toList, argTypes.toList with
    | [x, y], [t, u] => appendA P H clk t u (ev x) (ev y) K
    | _, _ => False
  | .call { callee := .value (.func f), args, .. } => callable P f = true ∧
      ACall P f (args.toList.map ev) H clk K
  | .nilCheck x => nilA H (ev x) fun v => K v H clk
  | op => xcore P op ev H clk K

/-- What an operation does to an abstract state. -/
def aop (P : Program) (o : Oper) (st : ASt) (K : ASt → Prop) : Prop :=
  acore P o.op st.eval st.heap st.clk fun v H c => K (ASt.put ⟨st.tmps, H, c⟩ o.dst v)

def AOps (P : Program) (ops : Array Oper) (Q : Exit → ASt → Prop) : List Oper → ASt → Prop
  | [], st => Q .normal st
  | o :: rest, st => match o.guard with
    | none => aop P o st (AOps P ops Q rest)
    | some (j, want) => match st.guard ops j with
      | some b => if b = some want then aop P o st (AOps P ops Q rest) else AOps P ops Q rest (st.put o.dst (.tup []))
      | none => False

def AExit.then (next : ASt → Prop) (Q : Exit → ASt → Prop) : Exit → ASt → Prop
  | .normal, st => next st
  | e, st => Q e st
def AExit.inBlock (id : Nat) (Q : Exit → ASt → Prop) : Exit → ASt → Prop
  | .exit id', st => if id' = id then Q .normal st else Q (.exit id') st
  | e, st => Q e st

def AW (P : Program) : Code → (Exit → ASt → Prop) → ASt → Prop
  | .skip, Q, st => Q .normal st
  | .region _ ops false, Q, st => AOps P ops Q ops.toList st
  | .seq a b, Q, st => AW P a (AExit.then (AW P b Q) Q) st
  | .cond c x y, Q, st => match st.eval c with
    | .one (.d (.s (.bool b))) => (b = true → AW P x Q st) ∧ (b = false → AW P y Q st)
    | _ => False
  | .block id c, Q, st => AW P c (AExit.inBlock id Q) st
  | .exit id, Q, st => Q (.exit id) st
  | .ret, Q, st => Q .ret st
  | c, Q, st => CodeOk P c Q st

/-- What comes behind the first part of a sequence. -/
def seqK (P : Program) (b : Code) (Q : Exit → ASt → Prop) : Exit → ASt → Prop := AExit.then (AW P b Q) Q

/-- The results of a function, read at its end. -/
def resA (P : Program) (st : ASt) : ResultVar → (AV → Prop) → Prop
  | .tmp t, K => K (st.tmps.getD t unknown)
  | .cell a t, K => loadA P st.heap t (st.tmps.getD a unknown) K

def ressA (P : Program) (st : ASt) : List ResultVar → (List AV → Prop) → Prop
  | [], K => K []
  | r :: rs, K => resA P st r fun x => ressA P st rs fun xs => K (x :: xs)

def AV.ofResults : List AV → AV
  | [x] => x
  | xs => .tup xs

def AV.single : AV → Bool
  | .tup _ => false
  | _ => true
def okRes : List AV → Bool
  | [_] => true
  | xs => xs.all AV.single

def bodyA (P : Program) (rs : List ResultVar) (post : AV → AHeap → Nat → Prop) : Exit → ASt → Prop
  | .normal, st | .ret, st => ressA P st rs fun xs => okRes xs = true ∧ post (AV.ofResults xs) st.heap st.clk
  | _, _ => False

end Go.Abs
