/-
  What simp knows of the abstract steps; further rules for calls, loops and regions. No program's text.
-/
import Derived.Test.YtiogdfliailenaaK2
import Derived.LoopNIn
namespace Go.Abs
set_option linter.unusedSimpArgs false
set_option linter.unusedVariables false
set_option linter.unnecessarySimpa false
open Go
@[simp low] theorem ite_props {p : Prop} [Decidable p] (a b : Prop) : (if p then a else b) = ((p → a) ∧ (¬ p → b)) := by
  split <;> rename_i h <;> simp [h]
/-! What comes behind a step, under names: simp looks into no function that waits. -/
def opK (P : Program) (ops : Array Oper) (Q : Exit → ASt → Prop) (rest : List Oper) (tmps : List AV) (dst : Option Tmp) : AV → AHeap → Nat → Prop :=
  fun v H c => AOps P ops Q rest (ASt.put ⟨tmps, H, c⟩ dst v)
def valK (K : AV → AHeap → Nat → Prop) (H : AHeap) (c : Nat) : AV → Prop := fun v => K v H c
def stoK (K : AV → AHeap → Nat → Prop) (c : Nat) : AHeap → Prop := fun H => K unknown H c
def cpK (K : AV → AHeap → Nat → Prop) (c : Nat) : AV → AHeap → Prop := fun v H => K v H c
def svK (K : AV → Prop) : Value → Prop := fun v => K (sv v)
def resK (post : AV → AHeap → Nat → Prop) (H : AHeap) (c : Nat) : AV → Prop := fun x => post x H c
def evA (tmps : List AV) : Operand → AV := ASt.eval ⟨tmps, [], 0⟩
section
variable {P : Program} {Q : Exit → ASt → Prop} {st : ASt} {ops : Array Oper} {tmps : List AV} {H : AHeap} {c : Nat}
@[simp] theorem AW_skip : AW P .skip Q st = Q .normal st := propext Iff.rfl
@[simp] theorem AW_region (id : Nat) (l : List Oper) : AW P (.region id l.toArray false) Q st = AOps P l.toArray Q l st := propext Iff.rfl
@[simp] theorem AW_seq (a b : Code) : AW P (.seq a b) Q st = AW P a (seqK P b Q) st := propext Iff.rfl
@[simp] theorem AW_cond (o : Operand) (x y : Code) : AW P (.cond o x y) Q ⟨tmps, H, c⟩ = match evA tmps o with
    | .one (.d (.s (.bool b))) => if b = true then AW P x Q ⟨tmps, H, c⟩ else AW P y Q ⟨tmps, H, c⟩
    | _ => False := by
  have h : AW P (.cond o x y) Q ⟨tmps, H, c⟩ = match evA tmps o with
    | .one (.d (.s (.bool b))) => (b = true → AW P x Q ⟨tmps, H, c⟩) ∧ (b = false → AW P y Q ⟨tmps, H, c⟩)
    | _ => False := by cases o <;> exact propext Iff.rfl
  rw [h]
  split
  · rename_i b _
    cases b <;> simp
  · rfl
@[simp] theorem AW_block (id : Nat) (c : Code) : AW P (.block id c) Q st = AW P c (AExit.inBlock id Q) st := propext Iff.rfl
@[simp] theorem AW_exit (id : Nat) : AW P (.exit id) Q st = Q (.exit id) st := propext Iff.rfl
@[simp] theorem AW_scope (c : Code) : AW P (.scope c) Q st = AW P c (AExit.inScope Q) st := propext Iff.rfl
@[simp] theorem AW_label (l : Nat) : AW P (.label l) Q st = Q .normal st := propext Iff.rfl
@[simp] theorem AW_ret : AW P .ret Q st = Q .ret st := propext Iff.rfl
@[simp] theorem AW_loop (c : Code) : AW P (.loop c) Q st = CodeOk P (.loop c) Q st := propext Iff.rfl
@[simp] theorem AW_draw (id : Nat) (ops : Array Oper) : AW P (.region id ops true) Q st = CodeOk P (.region id ops true) Q st := propext Iff.rfl
@[simp] theorem seqK_normal (b : Code) : seqK P b Q .normal st = AW P b Q st := propext Iff.rfl
@[simp] theorem seqK_exit (b : Code) (id : Nat) : seqK P b Q (.exit id) st = Q (.exit id) st := propext Iff.rfl
@[simp] theorem seqK_ret (b : Code) : seqK P b Q .ret st = Q .ret st := propext Iff.rfl
@[simp] theorem inScope_normal : AExit.inScope Q .normal st = Q .normal st := propext Iff.rfl
@[simp] theorem inScope_ret : AExit.inScope Q .ret st = Q .ret st := propext Iff.rfl
@[simp] theorem inScope_exit (id : Nat) : AExit.inScope Q (.exit id) st = Q (.exit id) st := propext Iff.rfl
@[simp] theorem inBlock_normal (id : Nat) : AExit.inBlock id Q .normal st = Q .normal st := propext Iff.rfl
@[simp] theorem inBlock_ret (id : Nat) : AExit.inBlock id Q .ret st = Q .ret st := propext Iff.rfl
@[simp] theorem inBlock_exit (id id' : Nat) : AExit.inBlock id Q (.exit id') st = if id' = id then Q .normal st else Q (.exit id') st := propext Iff.rfl
@[simp] theorem then_normal (N : ASt → Prop) : AExit.then N Q .normal st = N st := propext Iff.rfl
@[simp] theorem then_exit (N : ASt → Prop) (id : Nat) : AExit.then N Q (.exit id) st = Q (.exit id) st := propext Iff.rfl
@[simp] theorem then_ret (N : ASt → Prop) : AExit.then N Q .ret st = Q .ret st := propext Iff.rfl
@[simp] theorem AOps_nil : AOps P ops Q [] st = Q .normal st := propext Iff.rfl
@[simp] theorem AOps_plain (dst : Option Tmp) (op : Op) (t : TypeId) (pos : String) (after : Array Edge) (rest : List Oper) :
    AOps P ops Q (⟨dst, op, t, pos, after, none⟩ :: rest) ⟨tmps, H, c⟩ = acore P op (evA tmps) H c (opK P ops Q rest tmps dst) := by
  have he : ASt.eval ⟨tmps, H, c⟩ = evA tmps := by funext x; cases x <;> rfl
  have h1 : AOps P ops Q (⟨dst, op, t, pos, after, none⟩ :: rest) ⟨tmps, H, c⟩ = acore P op (ASt.eval ⟨tmps, H, c⟩) H c (opK P ops Q rest tmps dst) := propext Iff.rfl
  rw [h1, he]
@[simp] theorem AOps_guard (dst : Option Tmp) (op : Op) (t : TypeId) (pos : String) (after : Array Edge) (j : Nat) (want : Bool) (rest : List Oper) :
    AOps P ops Q (⟨dst, op, t, pos, after, some (j, want)⟩ :: rest) ⟨tmps, H, c⟩ = match ASt.guard ⟨tmps, H, c⟩ ops j with
      | some b => if b = some want then acore P op (evA tmps) H c (opK P ops Q rest tmps dst) else opK P ops Q rest tmps dst (.tup []) H c
      | none => False := by
  have he : ASt.eval ⟨tmps, H, c⟩ = evA tmps := by funext x; cases x <;> rfl
  rw [← he]
  cases dst <;> exact propext Iff.rfl
@[simp] theorem opK_some (rest : List Oper) (d : Tmp) (v : AV) : opK P ops Q rest tmps (some d) v H c = AOps P ops Q rest ⟨tmps.set d v, H, c⟩ := propext Iff.rfl
@[simp] theorem opK_none (rest : List Oper) (v : AV) : opK P ops Q rest tmps none v H c = AOps P ops Q rest ⟨tmps, H, c⟩ := propext Iff.rfl
@[simp] theorem valK_eq (K : AV → AHeap → Nat → Prop) (v : AV) : valK K H c v = K v H c := propext Iff.rfl
@[simp] theorem stoK_eq (K : AV → AHeap → Nat → Prop) : stoK K c H = K unknown H c := propext Iff.rfl
@[simp] theorem cpK_eq (K : AV → AHeap → Nat → Prop) (v : AV) : cpK K c v H = K v H c := propext Iff.rfl
@[simp] theorem svK_eq (K : AV → Prop) (v : Value) : svK K v = K (sv v) := propext Iff.rfl
@[simp] theorem resK_eq (post : AV → AHeap → Nat → Prop) (x : AV) : resK post H c x = post x H c := propext Iff.rfl
@[simp] theorem evA_tmp (t : Tmp) : evA tmps (.tmp t) = tmps.getD t unknown := rfl
@[simp] theorem evA_global (g : Nat) : evA tmps (.global g) = match globT g with | some cs => .one (.d (.rptr cs)) | none => unknown := rfl
@[simp] theorem evA_const (v : Value) : evA tmps (.const v) = .one (AC.ofValue v) := rfl
@[simp] theorem bodyA_normal1 (r : ResultVar) (post : AV → AHeap → Nat → Prop) : bodyA P [r] post .normal ⟨tmps, H, c⟩ = resA P ⟨tmps, H, c⟩ r (resK post H c) := by
  cases r <;> simp [bodyA, ressA, resA, okRes, AV.ofResults, resK, loadA]
@[simp] theorem bodyA_ret1 (r : ResultVar) (post : AV → AHeap → Nat → Prop) : bodyA P [r] post .ret ⟨tmps, H, c⟩ = resA P ⟨tmps, H, c⟩ r (resK post H c) := by
  cases r <;> simp [bodyA, ressA, resA, okRes, AV.ofResults, resK, loadA]
theorem bodyA_ret (rs : List ResultVar) (post : AV → AHeap → Nat → Prop) : bodyA P rs post .ret st = ressA P st rs fun xs => okRes xs = true ∧ post (AV.ofResults xs) st.heap st.clk := propext Iff.rfl
@[simp] theorem FPost_eq (post : AV → AHeap → Prop) (r : AV) (H : AHeap) (c : Nat) : FPost post r H c = (r.flat ∧ flatH H ∧ post r H) := propext Iff.rfl
end
section
variable {P : Program} {ev : Operand → AV} {H : AHeap} {c : Nat} {K : AV → AHeap → Nat → Prop}
@[simp] theorem acore_move (x : Operand) : acore P (.move x) ev H c K = K (ev x) H c := propext Iff.rfl
@[simp] theorem acore_assign (x : Operand) : acore P (.assign x) ev H c K = K (ev x) H c := propext Iff.rfl
@[simp] theorem acore_pick (a x y : Operand) : acore P (.pick a x y) ev H c K = (match ev a with
    | .one (.d (.s (.bool b))) => K (if b then ev x else ev y) H c
    | _ => False) := propext Iff.rfl
@[simp] theorem acore_alloc (e : TypeId) : acore P (.alloc e) ev H c K = (match zeroT P e, unitT P e with
    | some z, some n => K (.one (.ptr H.length c 0)) (H ++ [some ⟨c, e, n, z⟩]) (c + 1)
    | _, _ => False) := propext Iff.rfl
@[simp] theorem acore_box (e : TypeId) (x : Operand) : acore P (.box e x) ev H c K = (match (ev x).cells?, unitT P e with
    | some cs, some n => K (.one (.ptr H.length c 0)) (H ++ [some ⟨c, e, n, cs⟩]) (c + 1)
    | _, _ => False) := propext Iff.rfl
@[simp] theorem acore_build (t : TypeId) (ps : Array (Nat × Operand)) : acore P (.build t ps) ev H c K = (match zeroT P t, placesT P t with
    | some z, some pl => match fillA (fun i => pl[i]?) z (ps.toList.map fun (i, x) => (i, ev x)) with
      | some cs => K (.agg cs) H c
      | none => False
    | _, _ => False) := propext Iff.rfl
@[simp] theorem acore_buildSlice (t : TypeId) (len : Nat) (ps : Array (Nat × Operand)) : acore P (.buildSlice t len ps) ev H c K = (match sliceT P t with
    | some (e, size, _) => match zeroT P e with
      | some z => match fillA (fun i => some (i * size, size)) (List.replicate len z).flatten (ps.toList.map fun (i, x) => (i, ev x)) with
        | some cs => (z.length = size ∧ len * size ≤ 16777216 ∧ 0 < size) ∧ K (.one (.own H.length c 0 len)) (H ++ [some ⟨c, e, size, cs⟩]) (c + 1)
        | none => False
      | none => False
    | none => False) := propext Iff.rfl
@[simp] theorem acore_load (t : TypeId) (x : Operand) : acore P (.load t x) ev H c K = loadA P H t (ev x) (valK K H c) := propext Iff.rfl
@[simp] theorem acore_store (t : TypeId) (x y : Operand) : acore P (.store t x y) ev H c K = storeA P H t (ev x) (ev y) (stoK K c) := propext Iff.rfl
@[simp] theorem acore_bin (op : BinOp) (t ty : TypeId) (x y : Operand) : acore P (.binOp op t x y ty) ev H c K = if isNilC y = true then nilCmpA P H op t (ev x) (valK K H c) else if isNilI y = true then ifcA P op t (ev x) (valK K H c) else binA P op t (ev x) (ev y) (valK K H c) := propext Iff.rfl
@[simp] theorem acore_un (op : UnOp) (t : TypeId) (x : Operand) : acore P (.unOp op t x) ev H c K = unA op (ev x) (valK K H c) := propext Iff.rfl
@[simp] theorem acore_conv (s t : TypeId) (x : Operand) : acore P (.convert s t x) ev H c K = convA P H s t (ev x) (valK K H c) := propext Iff.rfl
@[simp] theorem acore_make (t : TypeId) (l m : Operand) : acore P (.makeSlice t l m) ev H c K = makeA P H c t (ev l) (ev m) K := propext Iff.rfl
@[simp] theorem acore_slice (t : TypeId) (x : Operand) (lo hi : Option Operand) : acore P (.slice t x lo hi none) ev H c K = sliceA P H ev t (ev x) lo hi (valK K H c) := propext Iff.rfl
@[simp] theorem acore_fieldAddr (s : TypeId) (x : Operand) (f : Nat) : acore P (.fieldAddr s x f) ev H c K = fieldAddrA P H s (ev x) f (valK K H c) := propext Iff.rfl
@[simp] theorem acore_field (s : TypeId) (x : Operand) (f : Nat) : acore P (.field s x f) ev H c K = fieldA P s (ev x) f (valK K H c) := propext Iff.rfl
@[simp] theorem acore_indexAddr (t : TypeId) (x i : Operand) : acore P (.indexAddr t x i) ev H c K = indexA P H t (ev x) (ev i) (valK K H c) := propext Iff.rfl
@[simp] theorem acore_index (t : TypeId) (x i : Operand) : acore P (.index t x i) ev H c K = indexVA P t (ev x) (ev i) (valK K H c) := propext Iff.rfl
@[simp] theorem acore_copy (x y : Operand) (t u : TypeId) : acore P (.call { callee := .builtin .copy, args := #[x, y], argTypes := #[t, u] }) ev H c K = copyA P H t (ev x) (ev y) (cpK K c) := propext Iff.rfl
@[simp] theorem acore_max (x y : Operand) (ts : Array TypeId) : acore P (.call { callee := .builtin .max, args := #[x, y], argTypes := ts }) ev H c K = (match ev x, ev y with
    | .one (.d (.s (.int k a))), .one (.d (.s (.int k' b))) => k = k' ∧ K (iv k (max a b)) H c
    | _, _ => False) := propext Iff.rfl
@[simp] theorem acore_min (x y : Operand) (ts : Array TypeId) : acore P (.call { callee := .builtin .min, args := #[x, y], argTypes := ts }) ev H c K = (match ev x, ev y with
    | .one (.d (.s (.int k a))), .one (.d (.s (.int k' b))) => k = k' ∧ K (iv k (min a b)) H c
    | _, _ => False) := propext Iff.rfl
@[simp] theorem acore_nil (x : Operand) : acore P (.nilCheck x) ev H c K = nilA H (ev x) (valK K H c) := propext Iff.rfl
@[simp] theorem acore_extract (x : Operand) (i : Nat) : acore P (.extract x i) ev H c K = (match ev x with
    | .tup vs => match vs[i]? with
      | some (.one y) => K (.one y) H c
      | some (.agg cs) => K (.agg cs) H c
      | _ => False
    | _ => False) := propext Iff.rfl
@[simp] theorem acore_len (x : Operand) (t : TypeId) : acore P (.call { callee := .builtin .len, args := #[x], argTypes := #[t] }) ev H c K = lenA P H t (ev x) (valK K H c) := propext Iff.rfl
@[simp] theorem acore_append (x y : Operand) (t u : TypeId) : acore P (.call { callee := .builtin .append, args := #[x, y], argTypes := #[t, u] }) ev H c K = appendA P H c t u (ev x) (ev y) K := propext Iff.rfl
@[simp] theorem acore_call (f : FuncId) (args : Array Operand) (ts : Array TypeId) : acore P (.call { callee := .value (.func f), args := args, argTypes := ts }) ev H c K = (callable P f = true ∧ ACall P f (args.toList.map ev) H c K) := propext Iff.rfl
end
section
variable {P : Program} {K : AV → Prop}
@[simp] theorem binA_int (op : BinOp) (t : TypeId) (k k' : IntKind) (a b : Int) : binA P op t (.one (.d (.s (.int k a)))) (.one (.d (.s (.int k' b)))) K = (if isShift op then shiftBin op k a b (svK K) else k = k' ∧ intBin op k a b (svK K)) := propext Iff.rfl
@[simp] theorem binA_agg (op : BinOp) (t : TypeId) (xs ys : List AC) : binA P op t (.agg xs) (.agg ys) K = aggBin P op t xs ys (svK K) := propext Iff.rfl
theorem EqAgg.uniq {t : TypeId} {a b : List Value} {r r' : Bool} (h : EqAgg P t a b r) (h' : EqAgg P t a b r') : r = r' := by
  have h1 := (h default).2
  rw [(h' default).2] at h1
  injection h1 with h1; exact h1.symm
theorem scells_inj {a b : List Value} (h : scells a = scells b) : a = b := by
  apply List.ext_getElem
  · simpa [scells] using congrArg List.length h
  · intro j h1 h2
    have : (scells a)[j]? = (scells b)[j]? := by rw [h]
    simpa [scells, h1, h2] using this
theorem aggBin_neq {t : TypeId} {a b : List Value} {r : Bool} {K : Value → Prop} (h : EqAgg P t a b r) : aggBin P .neq t (scells a) (scells b) K = K (.bool (!r)) := by
  apply propext
  constructor
  · rintro ⟨p, q, r', e1, e2, h', h2 | h2⟩
    · cases h2.1
    · cases scells_inj e1; cases scells_inj e2
      rw [h.uniq h']; exact h2.2
  · intro hk; exact ⟨a, b, r, rfl, rfl, h, .inr ⟨rfl, hk⟩⟩
theorem aggBin_eql {t : TypeId} {a b : List Value} {r : Bool} {K : Value → Prop} (h : EqAgg P t a b r) : aggBin P .eql t (scells a) (scells b) K = K (.bool r) := by
  apply propext
  constructor
  · rintro ⟨p, q, r', e1, e2, h', h2 | h2⟩
    · cases scells_inj e1; cases scells_inj e2
      rw [h.uniq h']; exact h2.2
    · cases h2.1
  · intro hk; exact ⟨a, b, r, rfl, rfl, h, .inl ⟨rfl, hk⟩⟩
@[simp] theorem binA_str (op : BinOp) (t : TypeId) (a b : ByteArray) : binA P op t (.one (.d (.s (.string a)))) (.one (.d (.s (.string b)))) K = strBin op a b (svK K) := propext Iff.rfl
@[simp] theorem binA_bool (op : BinOp) (t : TypeId) (a b : Bool) : binA P op t (.one (.d (.s (.bool a)))) (.one (.d (.s (.bool b)))) K = boolBin P t op a b (svK K) := propext Iff.rfl
end
@[simp] theorem RPost_eq (p : AV → ABlk → AHeap → Prop) (r : AV) (B : ABlk) (Hn : AHeap) (c : Nat) : RPost p r (some B :: Hn) c = p r B Hn := by
  apply propext
  constructor
  · rintro ⟨B', Hn', e, h⟩; cases e; exact h
  · intro h; exact ⟨B, Hn, rfl, h⟩
@[simp] theorem GPost_eq (σ : List Nat) (τ : Nat → Nat) (post : AV → AHeap → Prop) (r : AV) (H : AHeap) (c : Nat) : GPost σ τ post r H c =
    ((r.ren τ).ren (sig σ) = r ∧ (∀ i ∈ σ, ∃ B, H[i]? = some (some B) ∧ (B.ren τ).ren (sig σ) = B) ∧ σ.Nodup ∧ (r.ren τ).flat ∧ flatH (gat σ τ H) ∧ post (r.ren τ) (gat σ τ H)) := propext Iff.rfl
@[simp] theorem gat_nil (τ : Nat → Nat) (H : AHeap) : gat [] τ H = [] := rfl
@[simp] theorem gat_cons (i : Nat) (σ : List Nat) (τ : Nat → Nat) (H : AHeap) : gat (i :: σ) τ H = (H.getD i none).map (ABlk.ren τ) :: gat σ τ H := rfl
@[simp] theorem sig_zero (i : Nat) (σ : List Nat) : sig (i :: σ) 0 = i := rfl
@[simp] theorem sig_succ (i j : Nat) (σ : List Nat) : sig (i :: σ) (j + 1) = sig σ j := rfl
@[simp] theorem TPost_eq (p : AV → ABlk → AHeap → Prop) (r : AV) (B : ABlk) (Hn : AHeap) (c : Nat) : TPost p r (some B :: Hn) c = p r B [] := by
  apply propext
  constructor
  · rintro ⟨B', Hn', e, h⟩; cases e; exact h
  · intro h; exact ⟨B, Hn, rfl, h⟩
def isCall : Op → Bool
  | .call { callee := .value (.func _), .. } => true
  | _ => false
def ordK (P : Program) (ops : Array Oper) (Q : Exit → ASt → Prop) (rest : List Oper) (tmps : List AV) (dst : Option Tmp) : AV → AHeap → Nat → Prop :=
  fun v H c => AOrd P ops Q rest (ASt.put ⟨tmps, H, c⟩ dst v)
def extK (H : AHeap) (K : AV → AHeap → Nat → Prop) : AV → AHeap → Nat → Prop := fun r H' c' => HExt H H' ∧ K r H' c'
section
variable {P : Program} {Q : Exit → ASt → Prop} {ops : Array Oper} {tmps : List AV} {H : AHeap} {c : Nat} {K : AV → AHeap → Nat → Prop} {ev : Operand → AV}
@[simp] theorem AOrd_nil {st : ASt} : AOrd P ops Q [] st = Q .normal st := propext Iff.rfl
@[simp] theorem AOrd_plain (dst : Option Tmp) (op : Op) (t : TypeId) (pos : String) (after : Array Edge) (rest : List Oper) :
    AOrd P ops Q (⟨dst, op, t, pos, after, none⟩ :: rest) ⟨tmps, H, c⟩ = acoreX P op (evA tmps) H c (ordK P ops Q rest tmps dst) := propext Iff.rfl
@[simp] theorem AOrd_guard (dst : Option Tmp) (op : Op) (t : TypeId) (pos : String) (after : Array Edge) (j : Nat) (want : Bool) (rest : List Oper) :
    AOrd P ops Q (⟨dst, op, t, pos, after, some (j, want)⟩ :: rest) ⟨tmps, H, c⟩ = match ASt.guard ⟨tmps, [], 0⟩ ops j with
      | some b => if b = some want then acoreX P op (evA tmps) H c (ordK P ops Q rest tmps dst) else ordK P ops Q rest tmps dst (.tup []) H c
      | none => False := propext Iff.rfl
@[simp] theorem ordK_some (rest : List Oper) (d : Tmp) (v : AV) : ordK P ops Q rest tmps (some d) v H c = AOrd P ops Q rest ⟨tmps.set d v, H, c⟩ := propext Iff.rfl
@[simp] theorem ordK_none (rest : List Oper) (v : AV) : ordK P ops Q rest tmps none v H c = AOrd P ops Q rest ⟨tmps, H, c⟩ := propext Iff.rfl
@[simp] theorem extK_eq (H' : AHeap) (r : AV) (c' : Nat) : extK H K r H' c' = (HExt H H' ∧ K r H' c') := propext Iff.rfl
@[simp] theorem acoreX_call (f : FuncId) (args : Array Operand) (ts : Array TypeId) : acoreX P (.call { callee := .value (.func f), args := args, argTypes := ts }) ev H c K = (callable P f = true ∧ ACall P f (args.toList.map ev) H c (extK H K)) := propext Iff.rfl
theorem acoreX_plain {op : Op} (h : isCall op = false) : acoreX P op ev H c K = acore P op ev H c K := by
  unfold acoreX
  split
  · simp [isCall] at h
  · rfl
@[simp] theorem xmove (x : Operand) : acoreX P (.move x) ev H c K = acore P (.move x) ev H c K := propext Iff.rfl
@[simp] theorem xassign (x : Operand) : acoreX P (.assign x) ev H c K = acore P (.assign x) ev H c K := propext Iff.rfl
@[simp] theorem xpick (x y z : Operand) : acoreX P (.pick x y z) ev H c K = acore P (.pick x y z) ev H c K := propext Iff.rfl
@[simp] theorem xalloc (e : TypeId) : acoreX P (.alloc e) ev H c K = acore P (.alloc e) ev H c K := propext Iff.rfl
@[simp] theorem xbox (e : TypeId) (x : Operand) : acoreX P (.box e x) ev H c K = acore P (.box e x) ev H c K := propext Iff.rfl
@[simp] theorem xbuild (t : TypeId) (ps : Array (Nat × Operand)) : acoreX P (.build t ps) ev H c K = acore P (.build t ps) ev H c K := propext Iff.rfl
@[simp] theorem xbuildSlice (t : TypeId) (n : Nat) (ps : Array (Nat × Operand)) : acoreX P (.buildSlice t n ps) ev H c K = acore P (.buildSlice t n ps) ev H c K := propext Iff.rfl
@[simp] theorem xload (t : TypeId) (x : Operand) : acoreX P (.load t x) ev H c K = acore P (.load t x) ev H c K := propext Iff.rfl
@[simp] theorem xstore (t : TypeId) (x y : Operand) : acoreX P (.store t x y) ev H c K = acore P (.store t x y) ev H c K := propext Iff.rfl
@[simp] theorem xbin (o : BinOp) (t u : TypeId) (x y : Operand) : acoreX P (.binOp o t x y u) ev H c K = acore P (.binOp o t x y u) ev H c K := propext Iff.rfl
@[simp] theorem xun (o : UnOp) (t : TypeId) (x : Operand) : acoreX P (.unOp o t x) ev H c K = acore P (.unOp o t x) ev H c K := propext Iff.rfl
@[simp] theorem xconv (s t : TypeId) (x : Operand) : acoreX P (.convert s t x) ev H c K = acore P (.convert s t x) ev H c K := propext Iff.rfl
@[simp] theorem xmake (t : TypeId) (x y : Operand) : acoreX P (.makeSlice t x y) ev H c K = acore P (.makeSlice t x y) ev H c K := propext Iff.rfl
@[simp] theorem xslice (t : TypeId) (x : Operand) (a b d : Option Operand) : acoreX P (.slice t x a b d) ev H c K = acore P (.slice t x a b d) ev H c K := propext Iff.rfl
@[simp] theorem xfieldAddr (t : TypeId) (x : Operand) (f : Nat) : acoreX P (.fieldAddr t x f) ev H c K = acore P (.fieldAddr t x f) ev H c K := propext Iff.rfl
@[simp] theorem xfield (t : TypeId) (x : Operand) (f : Nat) : acoreX P (.field t x f) ev H c K = acore P (.field t x f) ev H c K := propext Iff.rfl
@[simp] theorem xindexAddr (t : TypeId) (x i : Operand) : acoreX P (.indexAddr t x i) ev H c K = acore P (.indexAddr t x i) ev H c K := propext Iff.rfl
@[simp] theorem xindex (t : TypeId) (x i : Operand) : acoreX P (.index t x i) ev H c K = acore P (.index t x i) ev H c K := propext Iff.rfl
@[simp] theorem xnil (x : Operand) : acoreX P (.nilCheck x) ev H c K = acore P (.nilCheck x) ev H c K := propext Iff.rfl
@[simp] theorem xextract (x : Operand) (i : Nat) : acoreX P (.extract x i) ev H c K = acore P (.extract x i) ev H c K := propext Iff.rfl
@[simp] theorem xbuiltin (b : Builtin) (args : Array Operand) (ts : Array TypeId) : acoreX P (.call { callee := .builtin b, args := args, argTypes := ts }) ev H c K = acore P (.call { callee := .builtin b, args := args, argTypes := ts }) ev H c K := propext Iff.rfl
@[simp] theorem HExt_app (Hn : AHeap) : HExt H (H ++ Hn) := HExt.app H Hn
@[simp] theorem HExt_refl : HExt H H := HExt.refl H
@[simp] theorem HExt_cons (b : Option ABlk) (H H' : AHeap) : HExt (b :: H) (b :: H') ↔ HExt H H' := by
  constructor
  · intro h k B hB; simpa using h (k + 1) B (by simpa using hB)
  · intro h k B hB
    match k with
    | 0 => simpa using hB
    | k + 1 => simpa using h k B (by simpa using hB)
@[simp] theorem HExt_nil (H : AHeap) : HExt [] H := fun k B hB => by simp at hB
@[simp] theorem rho_zero (k n : Nat) : rho k n 0 = k := rfl
@[simp] theorem rho_succ (k n j : Nat) : rho k n (j + 1) = n + j := rfl
end
attribute [simp] isNilC nilCmpA isNilI ifcA indexVA copyA nilA intBin shiftBin strBin boolBin unA resA loadA storeA indexA fieldAddrA fieldA sliceA convA lenA makeA appendA
attribute [simp] isShift ASt.put AC.ofValue AV.ofResults okRes AV.single ASt.guard
  boundOf valueOf blkAt splice AV.cells? AC.known fillA elems?
  ASt.clean keepA AC.ren AV.ren1 AV.ren ABlk.ren snapC snap1 snapV DC.denil
@[simp] theorem flat_s (v : Value) : (DC.s v).flat = true := rfl
@[simp] theorem flat_nil : DC.nil.flat = true := rfl
@[simp] theorem flat_d (c : DC) : (AC.d c).flat = c.flat := rfl
@[simp] theorem flat_own (k g off n : Nat) : (AC.own k g off n).flat = true := rfl
@[simp] theorem flat_ptr (k g off : Nat) : (AC.ptr k g off).flat = true := rfl
@[simp] theorem flat_one (c : AC) : (AV.one c).flat = (c.flat = true) := rfl
@[simp] theorem flat_agg (cs : List AC) : (AV.agg cs).flat = flatL cs := rfl
@[simp] theorem flat_tup (vs : List AV) : (AV.tup vs).flat = ∀ v ∈ vs, match v with
    | .one c => c.flat = true
    | .agg cs => flatL cs
    | .tup _ => False := rfl
@[simp] theorem flatL_nil : flatL [] := fun _ h => by cases h
@[simp] theorem flatL_cons (c : AC) (cs : List AC) : flatL (c :: cs) ↔ c.flat = true ∧ flatL cs := by simp [flatL]
@[simp] theorem flatL_append (a b : List AC) : flatL (a ++ b) ↔ flatL a ∧ flatL b := by
  constructor
  · intro h; exact ⟨fun c hc => h c (by simp [hc]), fun c hc => h c (by simp [hc])⟩
  · rintro ⟨h, k⟩ c hc
    rcases List.mem_append.1 hc with hc | hc
    · exact h c hc
    · exact k c hc
@[simp] theorem flatB_some (g : Nat) (e : TypeId) (s : Nat) (cs : List AC) : flatB (some ⟨g, e, s, cs⟩) ↔ flatL cs := Iff.rfl
@[simp] theorem flatB_none : flatB none := trivial
@[simp] theorem flatH_nil : flatH [] := fun _ h => by cases h
@[simp] theorem flatH_cons (b : Option ABlk) (H : AHeap) : flatH (b :: H) ↔ flatB b ∧ flatH H := by simp [flatH]

/-! Numbers -/
theorem wrap_i64 {n : Int} (h0 : -9223372036854775808 ≤ n) (h1 : n ≤ 9223372036854775807) : IntKind.i64.wrap n = n := by
  rw [IntKind.wrap_i64]; omega
theorem wrap_succ {i : Nat} (h : i ≤ 4611686018427387904) : IntKind.i64.wrap ((i : Int) + 1) = ((i + 1 : Nat) : Int) := by
  rw [wrap_i64 (by omega) (by omega)]; rfl
theorem wrap_u8 (n : Int) : IntKind.u8.wrap n = n % 256 := by
  simp [IntKind.wrap, IntKind.bits, IntKind.signed]
@[simp] theorem nat_int_eq (a b : Nat) : ((a : Int) = (b : Int)) ↔ a = b := by omega
@[simp] theorem u8_nat_eq (a b : UInt8) : (a.toNat = b.toNat) ↔ a = b := UInt8.toNat_inj
/-! Bytes -/
abbrev bd (b : UInt8) : DC := .s (.int .u8 (b.toNat : Int))
def bds (bs : List UInt8) : List DC := bs.map bd
def bcs (bs : List UInt8) : List AC := bs.map fun b => .d (bd b)
abbrev blist (bs : List UInt8) : AV := .one (.d (.list bs.length (bds bs)))
@[simp] theorem flat_bd (b : UInt8) : (bd b).flat = true := rfl
@[simp] theorem bds_length (bs : List UInt8) : (bds bs).length = bs.length := by simp [bds]
@[simp] theorem bcs_length (bs : List UInt8) : (bcs bs).length = bs.length := by simp [bcs]
@[simp] theorem bds_nil : bds [] = [] := rfl
@[simp] theorem bcs_nil : bcs [] = [] := rfl
@[simp] theorem flatL_bcs (bs : List UInt8) : flatL (bcs bs) := by
  intro c hc; simp [bcs] at hc; obtain ⟨b, _, rfl⟩ := hc; rfl
@[simp] theorem bds_take (bs : List UInt8) (n : Nat) : (bds bs).take n = bds (bs.take n) := by simp [bds]
@[simp] theorem bds_drop (bs : List UInt8) (n : Nat) : (bds bs).drop n = bds (bs.drop n) := by simp [bds]
@[simp] theorem bcs_take (bs : List UInt8) (n : Nat) : (bcs bs).take n = bcs (bs.take n) := by simp [bcs]
@[simp] theorem bcs_drop (bs : List UInt8) (n : Nat) : (bcs bs).drop n = bcs (bs.drop n) := by simp [bcs]
@[simp] theorem bcs_append (a b : List UInt8) : bcs a ++ bcs b = bcs (a ++ b) := by simp [bcs]
@[simp] theorem bcs_set (bs : List UInt8) (i : Nat) (b : UInt8) : (bcs bs).set i (.d (bd b)) = bcs (bs.set i b) := by simp [bcs, List.map_set]
@[simp] theorem bcs_zeros (n : Nat) : List.replicate n (AC.d (.s (.int .u8 0))) = bcs (List.replicate n 0) := by simp [bcs, bd]
@[simp] theorem bds_map (bs : List UInt8) : (bds bs).map AC.d = bcs bs := by simp [bds, bcs]
@[simp] theorem bds_at (bs : List UInt8) (i : Nat) : (bds bs)[i]? = bs[i]?.map bd := by simp [bds]
@[simp] theorem bcs_at (bs : List UInt8) (i : Nat) : (bcs bs)[i]? = bs[i]?.map fun b => .d (bd b) := by simp [bcs]
@[simp] theorem bds_head (bs : List UInt8) : (bds bs).head? = bs.head?.map bd := by simp [bds]
@[simp] theorem bcs_head (bs : List UInt8) : (bcs bs).head? = bs.head?.map fun b => .d (bd b) := by simp [bcs]
@[simp] theorem bcs_inj (a b : List UInt8) : bcs a = bcs b ↔ a = b := by
  constructor
  · intro h
    have hl : a.length = b.length := by have := congrArg List.length h; simpa using this
    apply List.ext_getElem? 
    intro i
    have := congrArg (·[i]?) h
    simp only [bcs_at] at this
    cases ha : a[i]? <;> cases hb : b[i]? <;> simp [ha, hb, bd] at this ⊢
    exact this
  · rintro rfl; rfl
@[simp] theorem mapM_bcs (bs : List UInt8) : (bcs bs).mapM AC.dc? = some (bds bs) := by
  induction bs with
  | nil => rfl
  | cons b bs ih => 
    show (AC.d (bd b) :: bcs bs).mapM AC.dc? = _
    rw [List.mapM_cons, ih]; rfl
@[simp] theorem bytesOf_bcs (bs : List UInt8) : bytesOf? (bcs bs) = some bs := by
  unfold bytesOf?
  induction bs with
  | nil => rfl
  | cons b bs ih => 
    show (AC.d (bd b) :: bcs bs).mapM _ = _
    rw [List.mapM_cons, ih]; simp [AC.dc?, bd, DC.byte?]
@[simp] theorem ren_bcs2 (ρ τ : Nat → Nat) (bs : List UInt8) : (bcs bs).map (AC.ren ρ ∘ AC.ren τ) = bcs bs := by
  simp [bcs, Function.comp_def, AC.ren]
@[simp] theorem ren_bcs (ρ : Nat → Nat) (bs : List UInt8) : (bcs bs).map (AC.ren ρ) = bcs bs := by
  simp [bcs, Function.comp_def, AC.ren]
/-! Long lists of slots. -/
@[simp high] theorem set4 (a0 a1 a2 a3 b : AV) (l : List AV) (n : Nat) : (a0 :: a1 :: a2 :: a3 :: l).set (n + 4) b = a0 :: a1 :: a2 :: a3 :: l.set n b := by simp only [List.set_cons_succ]
@[simp high] theorem getD4 (a0 a1 a2 a3 u : AV) (l : List AV) (n : Nat) : (a0 :: a1 :: a2 :: a3 :: l).getD (n + 4) u = l.getD n u := by simp only [List.getD_cons_succ]
@[simp 2000] theorem set16 (a0 a1 a2 a3 a4 a5 a6 a7 a8 a9 a10 a11 a12 a13 a14 a15 b : AV) (l : List AV) (n : Nat) : (a0 :: a1 :: a2 :: a3 :: a4 :: a5 :: a6 :: a7 :: a8 :: a9 :: a10 :: a11 :: a12 :: a13 :: a14 :: a15 :: l).set (n + 16) b = a0 :: a1 :: a2 :: a3 :: a4 :: a5 :: a6 :: a7 :: a8 :: a9 :: a10 :: a11 :: a12 :: a13 :: a14 :: a15 :: l.set n b := by simp only [List.set_cons_succ]
@[simp 2000] theorem getD16 (a0 a1 a2 a3 a4 a5 a6 a7 a8 a9 a10 a11 a12 a13 a14 a15 u : AV) (l : List AV) (n : Nat) : (a0 :: a1 :: a2 :: a3 :: a4 :: a5 :: a6 :: a7 :: a8 :: a9 :: a10 :: a11 :: a12 :: a13 :: a14 :: a15 :: l).getD (n + 16) u = l.getD n u := by simp only [List.getD_cons_succ]
/-! simp does not look into what waits. -/
section
variable {P : Program} {Q : Exit → ASt → Prop}
@[congr] theorem seqK_congr (P : Program) (b : Code) (Q : Exit → ASt → Prop) : seqK P b Q = seqK P b Q := rfl
@[congr] theorem inScope_congr (Q : Exit → ASt → Prop) : AExit.inScope Q = AExit.inScope Q := rfl
@[congr] theorem inBlock_congr (id : Nat) (Q : Exit → ASt → Prop) : AExit.inBlock id Q = AExit.inBlock id Q := rfl
@[congr] theorem then_congr (N : ASt → Prop) (Q : Exit → ASt → Prop) : AExit.then N Q = AExit.then N Q := rfl
@[congr] theorem bodyA_congr (P : Program) (rs : List ResultVar) (post : AV → AHeap → Nat → Prop) : bodyA P rs post = bodyA P rs post := rfl
@[congr] theorem opK_congr (P : Program) (ops : Array Oper) (Q : Exit → ASt → Prop) (rest : List Oper) (tmps : List AV) (dst : Option Tmp) : opK P ops Q rest tmps dst = opK P ops Q rest tmps dst := rfl
@[congr] theorem ordK_congr (P : Program) (ops : Array Oper) (Q : Exit → ASt → Prop) (rest : List Oper) (tmps : List AV) (dst : Option Tmp) : ordK P ops Q rest tmps dst = ordK P ops Q rest tmps dst := rfl
@[congr] theorem valK_congr (K : AV → AHeap → Nat → Prop) (H : AHeap) (c : Nat) : valK K H c = valK K H c := rfl
@[congr] theorem stoK_congr (K : AV → AHeap → Nat → Prop) (c : Nat) : stoK K c = stoK K c := rfl
@[congr] theorem cpK_congr (K : AV → AHeap → Nat → Prop) (c : Nat) : cpK K c = cpK K c := rfl
@[congr] theorem svK_congr (K : AV → Prop) : svK K = svK K := rfl
@[congr] theorem resK_congr (post : AV → AHeap → Nat → Prop) (H : AHeap) (c : Nat) : resK post H c = resK post H c := rfl
@[congr] theorem extK_congr (H : AHeap) (K : AV → AHeap → Nat → Prop) : extK H K = extK H K := rfl
@[congr] theorem AW_congr (P : Program) (c : Code) (Q : Exit → ASt → Prop) {s s' : ASt} (h : s = s') : AW P c Q s = AW P c Q s' := by rw [h]
@[congr] theorem CodeOk_congr (P : Program) (c : Code) (Q : Exit → ASt → Prop) {s s' : ASt} (h : s = s') : CodeOk P c Q s = CodeOk P c Q s' := by rw [h]
@[congr] theorem AOps_congr (P : Program) (ops : Array Oper) (Q : Exit → ASt → Prop) (l : List Oper) {s s' : ASt} (h : s = s') : AOps P ops Q l s = AOps P ops Q l s' := by rw [h]
@[congr] theorem AOrd_congr (P : Program) (ops : Array Oper) (Q : Exit → ASt → Prop) (l : List Oper) {s s' : ASt} (h : s = s') : AOrd P ops Q l s = AOrd P ops Q l s' := by rw [h]
@[congr] theorem acore_congrS (P : Program) (op : Op) (ev : Operand → AV) (H : AHeap) (c : Nat) (K : AV → AHeap → Nat → Prop) : acore P op ev H c K = acore P op ev H c K := rfl
@[congr] theorem acoreX_congrS (P : Program) (op : Op) (ev : Operand → AV) (H : AHeap) (c : Nat) (K : AV → AHeap → Nat → Prop) : acoreX P op ev H c K = acoreX P op ev H c K := rfl
@[congr] theorem ACall_congr (P : Program) (f : FuncId) {args args' : List AV} (h : args = args') (H : AHeap) (c : Nat) (K : AV → AHeap → Nat → Prop) : ACall P f args H c K = ACall P f args' H c K := by rw [h]
end
end Go.Abs
namespace Go.Abs
set_option linter.unusedSimpArgs false
set_option linter.unusedVariables false
set_option linter.unnecessarySimpa false
open Go
def ordQK (P : Program) (ops : Array Oper) (Q : Exit → ASt → Prop) (rest : List (Bool × Oper)) (tmps : List AV) (dst : Option Tmp) : AV → AHeap → Nat → Prop :=
  fun v H c => AOrdQ P ops Q rest (ASt.put ⟨tmps, H, c⟩ dst v)
def qK (P : Program) (ops : Array Oper) (Q : Exit → ASt → Prop) (rest : List (Bool × Oper)) (tmps : List AV) (dst : Option Tmp) (H : AHeap) (c : Nat) : AV → Prop :=
  fun v => AOrdQ P ops Q rest (ASt.put ⟨tmps, H, c⟩ dst v)
section
variable {P : Program} {Q : Exit → ASt → Prop} {st : ASt} {ops : Array Oper} {tmps : List AV} {H : AHeap} {c : Nat} {ev : Operand → AV}
@[simp] theorem AOrdQ_nil : AOrdQ P ops Q [] st = Q .normal st := by unfold AOrdQ; exact propext Iff.rfl
@[simp] theorem AOrdQ_plain (dst : Option Tmp) (op : Op) (t : TypeId) (pos : String) (after : Array Edge) (rest : List (Bool × Oper)) :
    AOrdQ P ops Q ((false, ⟨dst, op, t, pos, after, none⟩) :: rest) ⟨tmps, H, c⟩ = acoreX P op (evA tmps) H c (ordQK P ops Q rest tmps dst) := by rw [AOrdQ]; exact propext Iff.rfl
@[simp] theorem AOrdQ_guard (dst : Option Tmp) (op : Op) (t : TypeId) (pos : String) (after : Array Edge) (j : Nat) (want : Bool) (rest : List (Bool × Oper)) :
    AOrdQ P ops Q ((false, ⟨dst, op, t, pos, after, some (j, want)⟩) :: rest) ⟨tmps, H, c⟩ = match ASt.guard ⟨tmps, [], 0⟩ ops j with
      | some b => if b = some want then acoreX P op (evA tmps) H c (ordQK P ops Q rest tmps dst) else ordQK P ops Q rest tmps dst (.tup []) H c
      | none => False := by rw [AOrdQ]; exact propext Iff.rfl
@[simp] theorem AOrdQ_qplain (dst : Option Tmp) (op : Op) (t : TypeId) (pos : String) (after : Array Edge) (rest : List (Bool × Oper)) :
    AOrdQ P ops Q ((true, ⟨dst, op, t, pos, after, none⟩) :: rest) ⟨tmps, H, c⟩ = qcore P op (evA tmps) H (qK P ops Q rest tmps dst H c) := by rw [AOrdQ]; exact propext Iff.rfl
@[simp] theorem AOrdQ_qguard (dst : Option Tmp) (op : Op) (t : TypeId) (pos : String) (after : Array Edge) (j : Nat) (want : Bool) (rest : List (Bool × Oper)) :
    AOrdQ P ops Q ((true, ⟨dst, op, t, pos, after, some (j, want)⟩) :: rest) ⟨tmps, H, c⟩ = match ASt.guard ⟨tmps, [], 0⟩ ops j with
      | some b => if b = some want then qcore P op (evA tmps) H (qK P ops Q rest tmps dst H c) else qK P ops Q rest tmps dst H c (.tup [])
      | none => False := by rw [AOrdQ]; exact propext Iff.rfl
@[simp] theorem ordQK_some (rest : List (Bool × Oper)) (d : Tmp) (v : AV) : ordQK P ops Q rest tmps (some d) v H c = AOrdQ P ops Q rest ⟨tmps.set d v, H, c⟩ := propext Iff.rfl
@[simp] theorem ordQK_none (rest : List (Bool × Oper)) (v : AV) : ordQK P ops Q rest tmps none v H c = AOrdQ P ops Q rest ⟨tmps, H, c⟩ := propext Iff.rfl
@[simp] theorem qK_some (rest : List (Bool × Oper)) (d : Tmp) (v : AV) : qK P ops Q rest tmps (some d) H c v = AOrdQ P ops Q rest ⟨tmps.set d v, H, c⟩ := propext Iff.rfl
@[simp] theorem qK_none (rest : List (Bool × Oper)) (v : AV) : qK P ops Q rest tmps none H c v = AOrdQ P ops Q rest ⟨tmps, H, c⟩ := propext Iff.rfl
@[simp] theorem qcore_call {K : AV → Prop} (f : FuncId) (args : Array Operand) (ts : Array TypeId) : qcore P (.call { callee := .value (.func f), args := args, argTypes := ts }) ev H K = (callable P f = true ∧ QCall P f (args.toList.map ev) H K) := propext Iff.rfl
end
section
@[congr] theorem ordQK_congr (P : Program) (ops : Array Oper) (Q : Exit → ASt → Prop) (rest : List (Bool × Oper)) (tmps : List AV) (dst : Option Tmp) : ordQK P ops Q rest tmps dst = ordQK P ops Q rest tmps dst := rfl
@[congr] theorem qK_congr (P : Program) (ops : Array Oper) (Q : Exit → ASt → Prop) (rest : List (Bool × Oper)) (tmps : List AV) (dst : Option Tmp) (H : AHeap) (c : Nat) : qK P ops Q rest tmps dst H c = qK P ops Q rest tmps dst H c := rfl
@[congr] theorem qcore_congrS (P : Program) (op : Op) (ev : Operand → AV) (H : AHeap) (K : AV → Prop) : qcore P op ev H K = qcore P op ev H K := rfl
@[congr] theorem QCall_congr (P : Program) (f : FuncId) {args args' : List AV} (h : args = args') (H : AHeap) (K : AV → Prop) : QCall P f args H K = QCall P f args' H K := by rw [h]
end
end Go.Abs
namespace Go.Abs
set_option linter.unusedSimpArgs false
set_option linter.unusedVariables false
set_option linter.unnecessarySimpa false
open Go

def flagC (o : Oper) : Bool × Oper := (isCall o.op, o)
def autoOrd (ops : Array Oper) : List (Bool × Nat) := (List.range ops.size).map fun k => (match ops[k]? with | some o => isCall o.op | none => false, k)
section
variable {P : Program} {Q : Exit → ASt → Prop}
theorem autoOrd_ops (ops : Array Oper) : (autoOrd ops).filterMap (fun p => (ops[p.2]?).map fun o => (p.1, o)) = ops.toList.map flagC := by
  unfold autoOrd
  rw [List.filterMap_map]
  have h : ∀ n, n ≤ ops.size → (List.range n).filterMap ((fun p : Bool × Nat => (ops[p.2]?).map fun o => (p.1, o)) ∘ fun k => (match ops[k]? with | some o => isCall o.op | none => false, k)) = (ops.toList.take n).map flagC := by
    intro n
    induction n with
    | zero => intro _; simp
    | succ n ih =>
      intro hn
      have hlt : n < ops.toList.length := by simp; omega
      rw [List.range_succ, List.filterMap_append, ih (by omega), List.take_succ_eq_append_getElem hlt, List.map_append]
      congr 1
      have : ops[n]? = some ops.toList[n] := by simp [Array.getElem?_eq_getElem (show n < ops.size by omega)]
      simp [this, flagC]
  have := h ops.size (Nat.le_refl _)
  rw [this, List.take_of_length_le (by simp)]
theorem codeOk_drawA {id : Nat} {ops : Array Oper} {st : ASt} (hm : P.follows .mixedOrders = true)
    (ho : orderOkQ ops (autoOrd ops) (Array.replicate ops.size false) = true) (h : AOrdQ P ops Q (ops.toList.map flagC) st) : CodeOk P (.region id ops true) Q st :=
  codeOk_drawq (autoOrd ops) hm (by simp [autoOrd]) (by simp [autoOrd]) ho (by rw [autoOrd_ops]; exact h)
theorem acall_val {f : FuncId} {args dargs : List AV} {H : AHeap} {clk : Nat} {x : AV} {K : AV → AHeap → Nat → Prop} (hc : FCall P f dargs fun r H => r = x ∧ H = [])
    (hs : args.mapM (snapV H) = some dargs) (hx : snapV [] x = some x) (hK : K x H clk) : ACall P f args H clk K :=
  acall_froze hc hs fun r Hn h => by obtain ⟨rfl, rfl⟩ := h; exact ⟨r, hx, hK⟩
theorem qcall_val {f : FuncId} {args dargs : List AV} {H : AHeap} {x : AV} {K : AV → Prop} (hc : FCall P f dargs fun r H => r = x ∧ H = [])
    (hs : args.mapM (snapV H) = some dargs) (hx : snapV [] x = some x) (hK : K x) : QCall P f args H K :=
  qcall x hc hs (fun r Hn h => by obtain ⟨rfl, rfl⟩ := h; exact hx) hK
end
attribute [simp] flagC isCall
/-- Numbers as they are written. -/
@[simp] theorem wrap_small (n : Int) (h0 : -9223372036854775808 ≤ n) (h1 : n ≤ 9223372036854775807) : IntKind.i64.wrap n = n := wrap_i64 h0 h1
@[simp] theorem wrap_zero : IntKind.i64.wrap 0 = 0 := by decide
@[simp] theorem wrap_one : IntKind.i64.wrap 1 = 1 := by decide
@[simp] theorem wrap_m1 : IntKind.i64.wrap (-1) = -1 := rfl
end Go.Abs
namespace Go.Abs
set_option linter.unusedSimpArgs false
set_option linter.unusedVariables false
set_option linter.unnecessarySimpa false
open Go
/-- At most so many rounds. -/
def AR (P : Program) (c : Code) (Q : Exit → ASt → Prop) : Nat → ASt → Prop
  | 0, _ => False
  | n + 1, st => AW P c (AExit.then (AR P c Q n) Q) st
section
variable {P : Program} {c : Code} {Q : Exit → ASt → Prop} {st : ASt}
theorem AR_succ (n : Nat) : AR P c Q (n + 1) st = AW P c (AExit.then (AR P c Q n) Q) st := rfl
theorem codeOk_rounds (n : Nat) (h : AR P c Q n st) : CodeOk P (.loop c) Q st := by
  intro ro d hr w0 E0 H0 a w hI
  have hr1 : ro = none ∨ noRange c = true := hr.imp (fun h => h) fun h => by simpa [noRange] using h
  have key : ∀ (n : Nat) (st : ASt) (b : Act) (w : World), AR P c Q n st → Inv w0 E0 H0 st b w → (noRange (.loop c) = false ∨ b.defers = a.defers) → Code.roundsIn (Wd ro) d P c (fun e a' w' => (noRange (.loop c) = false ∨ a'.defers = a.defers) ∧ ∃ st', Q e st' ∧ Inv w0 E0 H0 st' a' w') n b w := by
    intro n
    induction n with
    | zero => intro st b w h _ _; exact h.elim
    | succ n ih =>
      intro st b w h hI hb
      rw [roundsIn_succ]
      refine wpIn_mono (aw_sound c _ _ h ro d hr1 w0 E0 H0 b w hI) ?_
      rintro e a' w' ⟨hd', s', hq, hI'⟩
      have hd := defers_trans hb (hd'.imp (fun h => by simpa [noRange] using h) id)
      cases e with
      | normal => exact ih s' a' w' hq hI' hd
      | exit id => exact ⟨hd, s', hq, hI'⟩
      | goto l => exact ⟨hd, s', hq, hI'⟩
      | ret => exact ⟨hd, s', hq, hI'⟩
      | panic ch => exact ⟨hd, s', hq, hI'⟩
      | outgrown => exact ⟨hd, s', hq, hI'⟩
  exact wpIn_loop_rounds n (key n st a w h hI (.inr rfl))
end
end Go.Abs
namespace Go.Abs
set_option linter.unusedSimpArgs false
set_option linter.unusedVariables false
set_option linter.unnecessarySimpa false
open Go
section
variable {P : Program} {ops : Array Oper} {Q : Exit → ASt → Prop} {K : AV → AHeap → Nat → Prop} {T : List AV} {H : AHeap} {c : Nat}
theorem aany_still {k : Nat} {ok : Oper} {x : AV} (hk : ops[k]? = some ok) (S : Nat → Prop) : ∀ (n : Nat) (listed : Array Bool) (st : ASt),
    (∀ j, S j → listed.getD j true = false ∧ ∃ oj e, ops[j]? = some oj ∧ e ∈ oj.after ∧ Region.binds .any e = true ∧ (e.on = k ∨ S e.on)) →
    (∀ j oj, ops[j]? = some oj → j ≠ k → listed.getD j true = false → ¬ S j → (∀ e ∈ oj.after, Region.binds .any e = true → e.on ≠ k) → ok.apart ops oj = true) →
    k ∈ Region.ready .any ops listed → QV P ops ok st.tmps [] x → AAny P ops Q n (listed.setIfInBounds k true) (st.put ok.dst x) → AAny P ops Q (n + 1) listed st := by
  intro n
  induction n with
  | zero =>
    intro listed st _ _ hr hy hA
    refine ⟨fun h => (by rw [h] at hr; cases hr), fun i hi o ho => ?_⟩
    by_cases hik : i = k
    · subst hik
      rw [hk] at ho; cases ho
      exact hy _ _ _ (fun k B h => by simp at h) hA
    · have := ready_mono hi hik
      rw [hA.1] at this
      cases this
  | succ n ih =>
    intro listed st hS hfree hr hy hA
    refine ⟨fun h => (by rw [h] at hr; cases hr), fun i hi o ho => ?_⟩
    by_cases hik : i = k
    · subst hik
      rw [hk] at ho; cases ho
      exact hy _ _ _ (fun k B h => by simp at h) hA
    · have h1 := hA.2 i (ready_mono hi hik) o ho
      obtain ⟨hiun, o', ho', hall⟩ := mem_ready.1 hi
      rw [ho] at ho'; cases ho'
      have hnot : ∀ e ∈ o.after, Region.binds .any e = true → e.on ≠ k := fun e he hb heq => by
        have h1 := hall e he hb
        have h0 := (mem_ready.1 hr).1
        rw [heq] at h1
        rcases Nat.lt_or_ge k listed.size with h' | h'
        · simp [h'] at h0 h1; rw [h0] at h1; cases h1
        · simp [Array.getElem?_eq_none h'] at h1
      have hnS : ¬ S i := fun hs => by
        obtain ⟨_, oj, e, hoj, he, hb, hor⟩ := hS i hs
        rw [ho] at hoj; cases hoj
        rcases hor with h' | h'
        · exact hnot e he hb h'
        · have h1 := hall e he hb
          have h0 := (hS _ h').1
          rcases Nat.lt_or_ge e.on listed.size with g | g
          · simp [g] at h0 h1; rw [h0] at h1; cases h1
          · simp [Array.getElem?_eq_none g] at h1
      have hap := hfree i o ho hik hiun hnS hnot
      obtain ⟨a1, a2, a3⟩ := Oper.apart_spec hap
      unfold stepA at h1 ⊢
      rw [put_heap, put_clk] at h1
      have h2 : stepC P ops o st.tmps st.heap st.clk (putK (st.put ok.dst x).tmps o.dst (AAny P ops Q n ((listed.setIfInBounds k true).setIfInBounds i true))) := by
        have e := stepC_put (P := P) (ops := ops) (o := o) (T := st.tmps) (H := st.heap) (c := st.clk) (K := putK (st.put ok.dst x).tmps o.dst (AAny P ops Q n ((listed.setIfInBounds k true).setIfInBounds i true))) (dst := ok.dst) (x := x) a1
        rw [← e]
        exact h1
      refine stepC_mono ?_ h2
      rintro v H' c' hK
      refine ih (listed.setIfInBounds i true) (ASt.put ⟨st.tmps, H', c'⟩ o.dst v) ?_ ?_ (ready_mono hr (fun e => hik e.symm)) ?_ ?_
      · intro j hs
        obtain ⟨h1, h2⟩ := hS j hs
        refine ⟨?_, h2⟩
        have hij : i ≠ j := fun e => hnS (e ▸ hs)
        rw [getD_set_ne true hij]; exact h1
      · intro j oj hj hjk hun hns hno
        refine hfree j oj hj hjk ?_ hns hno
        by_cases hij : i = j
        · subst hij; exact hiun
        · rw [getD_set_ne true hij] at hun; exact hun
      · have := QV.put (c := c') (v := v) hy (dst := o.dst) a3
        rw [put_tmps st.tmps H' [] c' c' o.dst v]
        exact this
      · rw [Array.setIfInBounds_comm _ _ (fun e => hik e)]
        have e1 : (ASt.put ⟨st.tmps, H', c'⟩ o.dst v).put ok.dst x = ASt.put ⟨(st.put ok.dst x).tmps, H', c'⟩ o.dst v := by
          rw [← put_put x v (fun d hd => a2 d hd)]
          congr 1
          cases ok.dst <;> rfl
        rw [e1]
        exact hK

def stillS (ops : Array Oper) (k : Nat) (ok : Oper) (listed : Array Bool) (S : List Nat) : Bool :=
  (S.all fun j => !(listed.getD j true) && match ops[j]? with
    | some oj => waitsOn oj k S
    | none => false) &&
  (List.range ops.size).all fun j => j == k || listed.getD j true || S.contains j || match ops[j]? with
    | some oj => waits oj k || ok.apart ops oj
    | none => true
def stillOk (ops : Array Oper) (k : Nat) (ok : Oper) (listed : Array Bool) : Bool := stillS ops k ok listed (depS ops k listed)
theorem aany_stillOk {k : Nat} {ok : Oper} {x : AV} {n : Nat} {listed : Array Bool} {st : ASt} (hk : ops[k]? = some ok) (hf : stillOk ops k ok listed = true) (hr : k ∈ Region.ready .any ops listed) (hqv : QV P ops ok st.tmps [] x)
    (h : AAny P ops Q n (listed.setIfInBounds k true) (st.put ok.dst x)) : AAny P ops Q (n + 1) listed st := by
  unfold stillOk at hf
  generalize depS ops k listed = S at hf
  simp only [stillS, Bool.and_eq_true, List.all_eq_true, List.mem_range] at hf
  obtain ⟨hS, hf⟩ := hf
  refine aany_still hk (fun j => S.contains j = true) n listed st ?_ ?_ hr hqv h
  · intro j hj
    have hm : j ∈ S := by simpa using hj
    have h1 := hS j hm
    simp only [Bool.and_eq_true, Bool.not_eq_true'] at h1
    obtain ⟨h1, h2⟩ := h1
    refine ⟨h1, ?_⟩
    split at h2
    · rename_i oj hoj
      simp only [waitsOn, Array.any_eq_true, Bool.and_eq_true, Bool.or_eq_true, beq_iff_eq] at h2
      obtain ⟨q, hq1, hq2, hq3⟩ := h2
      exact ⟨oj, _, hoj, Array.getElem_mem hq1, hq2, hq3⟩
    · exact absurd h2 (by simp)
  · intro j oj hj hjk hun hns hno
    have hjl : j < ops.size := by
      rcases Nat.lt_or_ge j ops.size with h | h
      · exact h
      · rw [Array.getElem?_eq_none h] at hj; cases hj
    have := hf j hjl
    have hns' : S.contains j = false := by simpa using hns
    simp only [hj, hun, hns', Bool.or_eq_true, beq_iff_eq, Bool.and_eq_true, Bool.false_eq_true, or_false, hjk, false_or] at this
    rcases this with hw | hw
    · simp only [waits, Array.any_eq_true, Bool.and_eq_true, beq_iff_eq] at hw
      obtain ⟨q, hq1, hq2, hq3⟩ := hw
      exact absurd hq3 (hno _ (Array.getElem_mem hq1) hq2)
    · exact hw

/-- A walk of marked operations: as it comes; a call that is quiet; a step that hangs on no memory of its own; such a call. -/
inductive Mk where
  | n | q | s | c
  deriving DecidableEq
def stK (tmps : List AV) (H : AHeap) (c : Nat) (dst : Option Tmp) (K : ASt → Prop) : AV → AHeap → Nat → Prop := fun v _ _ => K (ASt.put ⟨tmps, H, c⟩ dst v)
def AOrdS (P : Program) (ops : Array Oper) (Q : Exit → ASt → Prop) : List (Mk × Oper) → ASt → Prop
  | [], st => Q .normal st
  | (.n, o) :: rest, st => stepA P ops o st (AOrdS P ops Q rest)
  | (.q, o) :: rest, st => qstep P ops o st.tmps st.heap (qputK st o.dst (AOrdS P ops Q rest))
  | (.s, o) :: rest, st => stepC P ops o st.tmps [] 0 (stK st.tmps st.heap st.clk o.dst (AOrdS P ops Q rest))
  | (.c, o) :: rest, st => qstep P ops o st.tmps [] (qputK st o.dst (AOrdS P ops Q rest))
def orderOkS (ops : Array Oper) : List (Mk × Nat) → Array Bool → Bool
  | [], listed => Region.ready .any ops listed == []
  | (m, k) :: rest, listed => (match ops[k]? with
      | some ok => (match m with
        | .n => Region.ready .any ops listed == [k] || ((Region.ready .any ops listed).contains k && quietOp ok.op && freeOk ops k ok listed)
        | .q => (Region.ready .any ops listed).contains k && freeOk ops k ok listed
        | .s => (Region.ready .any ops listed).contains k && quietOp ok.op && stillOk ops k ok listed
        | .c => (Region.ready .any ops listed).contains k && stillOk ops k ok listed)
      | none => false) && orderOkS ops rest (listed.setIfInBounds k true)
theorem aany_of_orderS : ∀ (ord : List (Mk × Nat)) (l : List (Mk × Oper)) (listed : Array Bool) (st : ASt), l.map (fun p => (p.1, some p.2)) = ord.map (fun p => (p.1, ops[p.2]?)) → orderOkS ops ord listed = true → AOrdS P ops Q l st → AAny P ops Q ord.length listed st
  | [], l, listed, st, hl, ho, h => by
    have : l = [] := by simpa using hl
    subst this
    exact ⟨by simpa [orderOkS] using ho, h⟩
  | (m, k) :: rest, l, listed, st, hl, ho, h => by
    match l, hl, h with
    | (m2, o) :: l2, hl2, h =>
      simp only [List.map_cons, List.cons.injEq, Prod.mk.injEq] at hl2
      obtain ⟨⟨rfl, hk⟩, hl3⟩ := hl2
      simp only [orderOkS, ← hk, Bool.and_eq_true] at ho
      obtain ⟨h1, h2⟩ := ho
      cases m2 with
      | n =>
        simp only [Bool.or_eq_true, Bool.and_eq_true] at h1
        by_cases hone : Region.ready .any ops listed = [k]
        · refine ⟨fun he => (by rw [hone] at he; cases he), fun i hi o' ho' => ?_⟩
          rw [hone] at hi
          simp at hi
          subst hi
          rw [← hk] at ho'; cases ho'
          exact stepA_mono (fun s hs => aany_of_orderS rest l2 _ s hl3 h2 hs) h
        · rcases h1 with h1 | h1
          · exact absurd (by simpa using h1) hone
          · obtain ⟨⟨hr, hq⟩, hf⟩ := h1
            unfold AOrdS stepA at h
            obtain ⟨x, hx, hqv⟩ := qv_of_step hq h
            exact aany_free hk.symm hf (by simpa using hr) hqv (aany_of_orderS rest l2 _ _ hl3 h2 hx)
      | q =>
        simp only [Bool.and_eq_true] at h1
        unfold AOrdS at h
        obtain ⟨x, hx, hqv⟩ := qv_of_qstep h
        exact aany_free hk.symm h1.2 (by simpa using h1.1) hqv (aany_of_orderS rest l2 _ _ hl3 h2 hx)
      | s =>
        simp only [Bool.and_eq_true] at h1
        unfold AOrdS at h
        obtain ⟨x, hx, hqv⟩ := qv_of_step h1.1.2 h
        exact aany_stillOk hk.symm h1.2 (by simpa using h1.1.1) hqv (aany_of_orderS rest l2 _ _ hl3 h2 hx)
      | c =>
        simp only [Bool.and_eq_true] at h1
        unfold AOrdS at h
        obtain ⟨x, hx, hqv⟩ := qv_of_qstep h
        exact aany_stillOk hk.symm h1.2 (by simpa using h1.1) hqv (aany_of_orderS rest l2 _ _ hl3 h2 hx)
/-- A region whose order is open, walked by marks. -/
theorem codeOk_drawS {id : Nat} {ops : Array Oper} {st : ASt} (ord : List (Mk × Nat)) (hm : P.follows .mixedOrders = true) (hn : ord.length = ops.size) (hb : ord.all (fun p => p.2 < ops.size) = true)
    (ho : orderOkS ops ord (Array.replicate ops.size false) = true) (h : AOrdS P ops Q (ord.filterMap (fun p => (ops[p.2]?).map fun o => (p.1, o))) st) : CodeOk P (.region id ops true) Q st := by
  intro ro d _ w0 E0 H0 a w ⟨E, hE⟩
  refine wpIn_region_any hm ?_
  obtain ⟨l, hle⟩ : ∃ l, l = ord.filterMap (fun p => (ops[p.2]?).map fun o => (p.1, o)) := ⟨_, rfl⟩
  rw [← hle] at h
  have hl : l.map (fun p => (p.1, some p.2)) = ord.map (fun p => (p.1, ops[p.2]?)) := by
    subst hle
    clear hn ho h
    induction ord with
    | nil => rfl
    | cons p rest ih =>
      obtain ⟨mk0, k⟩ := p
      simp only [List.all_cons, Bool.and_eq_true, decide_eq_true_eq] at hb
      have hk : ops[k]? = some ops[k] := Array.getElem?_eq_getElem hb.1
      rw [List.filterMap_cons]
      simp only [hk, Option.map_some, List.map_cons]
      rw [ih hb.2]
  have hA := aany_of_orderS ord l _ st hl ho h
  rw [hn] at hA
  exact aany_sound ro d (ds := a.defers) (fun st' a' w' hq hI hd => ⟨.inr hd, st', hq, hI⟩) ops.size _ st a _ hA ⟨E, hE.drew⟩ rfl
end
/-! What simp knows of it -/
def ordSK (P : Program) (ops : Array Oper) (Q : Exit → ASt → Prop) (rest : List (Mk × Oper)) (tmps : List AV) (dst : Option Tmp) : AV → AHeap → Nat → Prop :=
  fun v H c => AOrdS P ops Q rest (ASt.put ⟨tmps, H, c⟩ dst v)
def qSK (P : Program) (ops : Array Oper) (Q : Exit → ASt → Prop) (rest : List (Mk × Oper)) (tmps : List AV) (dst : Option Tmp) (H : AHeap) (c : Nat) : AV → Prop :=
  fun v => AOrdS P ops Q rest (ASt.put ⟨tmps, H, c⟩ dst v)
def sSK (P : Program) (ops : Array Oper) (Q : Exit → ASt → Prop) (rest : List (Mk × Oper)) (tmps : List AV) (dst : Option Tmp) (H : AHeap) (c : Nat) : AV → AHeap → Nat → Prop :=
  fun v _ _ => AOrdS P ops Q rest (ASt.put ⟨tmps, H, c⟩ dst v)
section
variable {P : Program} {Q : Exit → ASt → Prop} {st : ASt} {ops : Array Oper} {tmps : List AV} {H : AHeap} {c : Nat} {ev : Operand → AV}
@[simp] theorem AOrdS_nil : AOrdS P ops Q [] st = Q .normal st := propext Iff.rfl
@[simp] theorem AOrdS_n (dst : Option Tmp) (op : Op) (t : TypeId) (pos : String) (after : Array Edge) (rest : List (Mk × Oper)) :
    AOrdS P ops Q ((.n, ⟨dst, op, t, pos, after, none⟩) :: rest) ⟨tmps, H, c⟩ = acoreX P op (evA tmps) H c (ordSK P ops Q rest tmps dst) := propext Iff.rfl
@[simp] theorem AOrdS_ng (dst : Option Tmp) (op : Op) (t : TypeId) (pos : String) (after : Array Edge) (j : Nat) (want : Bool) (rest : List (Mk × Oper)) :
    AOrdS P ops Q ((.n, ⟨dst, op, t, pos, after, some (j, want)⟩) :: rest) ⟨tmps, H, c⟩ = match ASt.guard ⟨tmps, [], 0⟩ ops j with
      | some b => if b = some want then acoreX P op (evA tmps) H c (ordSK P ops Q rest tmps dst) else ordSK P ops Q rest tmps dst (.tup []) H c
      | none => False := propext Iff.rfl
@[simp] theorem AOrdS_q (dst : Option Tmp) (op : Op) (t : TypeId) (pos : String) (after : Array Edge) (rest : List (Mk × Oper)) :
    AOrdS P ops Q ((.q, ⟨dst, op, t, pos, after, none⟩) :: rest) ⟨tmps, H, c⟩ = qcore P op (evA tmps) H (qSK P ops Q rest tmps dst H c) := propext Iff.rfl
@[simp] theorem AOrdS_qg (dst : Option Tmp) (op : Op) (t : TypeId) (pos : String) (after : Array Edge) (j : Nat) (want : Bool) (rest : List (Mk × Oper)) :
    AOrdS P ops Q ((.q, ⟨dst, op, t, pos, after, some (j, want)⟩) :: rest) ⟨tmps, H, c⟩ = match ASt.guard ⟨tmps, [], 0⟩ ops j with
      | some b => if b = some want then qcore P op (evA tmps) H (qSK P ops Q rest tmps dst H c) else qSK P ops Q rest tmps dst H c (.tup [])
      | none => False := propext Iff.rfl
@[simp] theorem AOrdS_s (dst : Option Tmp) (op : Op) (t : TypeId) (pos : String) (after : Array Edge) (rest : List (Mk × Oper)) :
    AOrdS P ops Q ((.s, ⟨dst, op, t, pos, after, none⟩) :: rest) ⟨tmps, H, c⟩ = acoreX P op (evA tmps) [] 0 (sSK P ops Q rest tmps dst H c) := propext Iff.rfl
@[simp] theorem AOrdS_sg (dst : Option Tmp) (op : Op) (t : TypeId) (pos : String) (after : Array Edge) (j : Nat) (want : Bool) (rest : List (Mk × Oper)) :
    AOrdS P ops Q ((.s, ⟨dst, op, t, pos, after, some (j, want)⟩) :: rest) ⟨tmps, H, c⟩ = match ASt.guard ⟨tmps, [], 0⟩ ops j with
      | some b => if b = some want then acoreX P op (evA tmps) [] 0 (sSK P ops Q rest tmps dst H c) else sSK P ops Q rest tmps dst H c (.tup []) [] 0
      | none => False := propext Iff.rfl
@[simp] theorem AOrdS_c (dst : Option Tmp) (op : Op) (t : TypeId) (pos : String) (after : Array Edge) (rest : List (Mk × Oper)) :
    AOrdS P ops Q ((.c, ⟨dst, op, t, pos, after, none⟩) :: rest) ⟨tmps, H, c⟩ = qcore P op (evA tmps) [] (qSK P ops Q rest tmps dst H c) := propext Iff.rfl
@[simp] theorem AOrdS_cg (dst : Option Tmp) (op : Op) (t : TypeId) (pos : String) (after : Array Edge) (j : Nat) (want : Bool) (rest : List (Mk × Oper)) :
    AOrdS P ops Q ((.c, ⟨dst, op, t, pos, after, some (j, want)⟩) :: rest) ⟨tmps, H, c⟩ = match ASt.guard ⟨tmps, [], 0⟩ ops j with
      | some b => if b = some want then qcore P op (evA tmps) [] (qSK P ops Q rest tmps dst H c) else qSK P ops Q rest tmps dst H c (.tup [])
      | none => False := propext Iff.rfl
@[simp] theorem ordSK_some (rest : List (Mk × Oper)) (d : Tmp) (v : AV) : ordSK P ops Q rest tmps (some d) v H c = AOrdS P ops Q rest ⟨tmps.set d v, H, c⟩ := propext Iff.rfl
@[simp] theorem ordSK_none (rest : List (Mk × Oper)) (v : AV) : ordSK P ops Q rest tmps none v H c = AOrdS P ops Q rest ⟨tmps, H, c⟩ := propext Iff.rfl
@[simp] theorem qSK_some (rest : List (Mk × Oper)) (d : Tmp) (v : AV) : qSK P ops Q rest tmps (some d) H c v = AOrdS P ops Q rest ⟨tmps.set d v, H, c⟩ := propext Iff.rfl
@[simp] theorem qSK_none (rest : List (Mk × Oper)) (v : AV) : qSK P ops Q rest tmps none H c v = AOrdS P ops Q rest ⟨tmps, H, c⟩ := propext Iff.rfl
@[simp] theorem sSK_some (rest : List (Mk × Oper)) (d : Tmp) (v : AV) (H' : AHeap) (c' : Nat) : sSK P ops Q rest tmps (some d) H c v H' c' = AOrdS P ops Q rest ⟨tmps.set d v, H, c⟩ := propext Iff.rfl
@[simp] theorem sSK_none (rest : List (Mk × Oper)) (v : AV) (H' : AHeap) (c' : Nat) : sSK P ops Q rest tmps none H c v H' c' = AOrdS P ops Q rest ⟨tmps, H, c⟩ := propext Iff.rfl
@[congr] theorem ordSK_congr (P : Program) (ops : Array Oper) (Q : Exit → ASt → Prop) (rest : List (Mk × Oper)) (tmps : List AV) (dst : Option Tmp) : ordSK P ops Q rest tmps dst = ordSK P ops Q rest tmps dst := rfl
@[congr] theorem qSK_congr (P : Program) (ops : Array Oper) (Q : Exit → ASt → Prop) (rest : List (Mk × Oper)) (tmps : List AV) (dst : Option Tmp) (H : AHeap) (c : Nat) : qSK P ops Q rest tmps dst H c = qSK P ops Q rest tmps dst H c := rfl
@[congr] theorem sSK_congr (P : Program) (ops : Array Oper) (Q : Exit → ASt → Prop) (rest : List (Mk × Oper)) (tmps : List AV) (dst : Option Tmp) (H : AHeap) (c : Nat) : sSK P ops Q rest tmps dst H c = sSK P ops Q rest tmps dst H c := rfl
end
end Go.Abs
