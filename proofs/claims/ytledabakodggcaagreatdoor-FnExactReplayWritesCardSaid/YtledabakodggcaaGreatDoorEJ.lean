/-
  errors.Is as an abstract call; what a refusal's code is.
-/
import Derived.Test.YtledabakodggcaaGreatDoorEI
namespace Go.Proofs.YtledabakodggcaaGreatDoor
set_option maxRecDepth 100000
set_option linter.unusedSimpArgs false
set_option linter.unusedVariables false
set_option linter.unnecessarySimpa false
open Go Go.Abs Go.Proofs
theorem err_post {w : World} {E : Env} {H : AHeap} (hsim : SimH w E []) (b : Bool) : ∃ v r H' E', Ending.returned (.bool b) = Ending.returned v ∧ Env.Le w E w E' ∧ SimH w E' H' ∧ RelV w E' r v ∧
      Frm w (LiveB E []) w ∧ (∀ b, LiveB E' H' b → LiveB E [] b ∨ w.heap.size ≤ b) ∧ (∀ b, b < w.heap.size → E'.I b → E.I b ∨ LiveB E [] b) ∧ FPost (fun r H => r = bv b ∧ H = []) r H' E'.clk := by
  refine ⟨.bool b, bv b, [], E, rfl, Env.Le.refl _ _, hsim, RelD.s rfl, Frm.refl _ _, fun b hb => .inl hb, fun b _ hb => .inl hb, rfl, ?_, rfl, rfl⟩
  intro x hx; simp at hx
theorem c_errIs (g h : Nat) (tg th : List UInt8) (hg : errT g = some (232, tg)) (hh : errT h = some (232, th)) (hne : g ≠ h → tg ≠ th) :
    FCall Tryz.prog 107 [.one (.d (.err g)), .one (.d (.err h))] fun r H => r = bv (decide (g = h)) ∧ H = [] := by
  intro clk w E vals hclk hsim hrel
  obtain ⟨hlen, hat⟩ := hrel
  match vals, hlen with
  | [v0, v1], _ =>
    have r0 : RelD w E.I (.err g) v0 := hat 0 _ v0 rfl rfl
    have r1 : RelD w E.I (.err h) v1 := hat 1 _ v1 rfl rfl
    cases r0 with
    | err ht0 hg0 hI0 hc0 hb0 hs0 hx0 hh0 =>
      cases r1 with
      | err ht1 hg1 hI1 hc1 hb1 hs1 hx1 hh1 =>
        rw [hg] at ht0
        rw [hh] at ht1
        simp only [Option.some.injEq, Prod.mk.injEq] at ht0 ht1
        obtain ⟨rfl, rfl⟩ := ht0
        obtain ⟨rfl, rfl⟩ := ht1
        by_cases e : g = h
        · subst e
          rw [hc0] at hc1
          simp only [Option.some.injEq, Value.iface.injEq, Value.pointer.injEq, true_and] at hc1
          subst hc1
          refine (is_same _ w).mono fun ex w' ⟨he, hw⟩ => ?_
          subst he; subst hw
          rw [decide_eq_true rfl]
          exact err_post (H := []) hsim true
        · refine (is_other _ _ _ _ _ _ w (fun ead => ?_) hh0 hh1).mono fun ex w' ⟨he, hw⟩ => ?_
          · subst ead
            rw [hs0] at hs1
            simp only [Option.some.injEq, Value.string.injEq] at hs1
            subst hs1
            exact hne e (hx0.symm.trans hx1)
          · subst he; subst hw
            rw [decide_eq_false e]
            exact err_post (H := []) hsim false
theorem c_nilIs (h : Nat) (th : List UInt8) (hh : errT h = some (232, th)) :
    FCall Tryz.prog 107 [.one (.d (.s .nilIface)), .one (.d (.err h))] fun r H => r = bv false ∧ H = [] := by
  intro clk w E vals hclk hsim hrel
  obtain ⟨hlen, hat⟩ := hrel
  match vals, hlen with
  | [v0, v1], _ =>
    have r0 : RelD w E.I (.s .nilIface) v0 := hat 0 _ v0 rfl rfl
    have r1 : RelD w E.I (.err h) v1 := hat 1 _ v1 rfl rfl
    cases r0 with
    | s hsc =>
      cases r1 with
      | err ht1 hg1 hI1 hc1 hb1 hs1 hx1 hh1 =>
        rw [hh] at ht1
        simp only [Option.some.injEq, Prod.mk.injEq] at ht1
        obtain ⟨rfl, rfl⟩ := ht1
        refine (is_nil _ w).mono fun ex w' ⟨he, hw⟩ => ?_
        subst he; subst hw
        exact err_post (H := []) hsim false
@[simp] theorem ifcErr : ifaceT Tryz.prog 141 = true := by kernel_rfl
/-- A refusal: none, or one of the four errors. -/
inductive Rf where
  | none | stale | full | state | taken
  deriving DecidableEq
def Rf.dc : Rf → DC
  | .none => .s .nilIface
  | .stale => .err 1
  | .full => .err 2
  | .state => .err 3
  | .taken => .err 4
def Rf.code : Rf → Int
  | .none => 0
  | .stale => 6
  | .full => 7
  | .state => 8
  | .taken => 9
abbrev Rf.av (x : Rf) : AV := .one (.d x.dc)
def txtOf (g : Nat) : List UInt8 := ((errT g).map (·.2)).getD []
theorem isOf (x : Rf) (h : Rf) (hh : h ≠ .none) : FCall Tryz.prog 107 [x.av, h.av] fun r H => r = bv (decide (x = h)) ∧ H = [] := by
  have key : ∀ a b : Nat, errT a = some (232, txtOf a) → errT b = some (232, txtOf b) → (a ≠ b → txtOf a ≠ txtOf b) → FCall Tryz.prog 107 [.one (.d (.err a)), .one (.d (.err b))] fun r H => r = bv (decide (a = b)) ∧ H = [] :=
    fun a b ha hb hab => c_errIs a b _ _ ha hb hab
  cases h with
  | none => exact absurd rfl hh
  | stale => cases x with
    | none => exact c_nilIs _ _ rfl
    | stale => exact key _ _ rfl rfl (by decide)
    | full => exact key _ _ rfl rfl (by decide)
    | state => exact key _ _ rfl rfl (by decide)
    | taken => exact key _ _ rfl rfl (by decide)
  | full => cases x with
    | none => exact c_nilIs _ _ rfl
    | stale => exact key _ _ rfl rfl (by decide)
    | full => exact key _ _ rfl rfl (by decide)
    | state => exact key _ _ rfl rfl (by decide)
    | taken => exact key _ _ rfl rfl (by decide)
  | state => cases x with
    | none => exact c_nilIs _ _ rfl
    | stale => exact key _ _ rfl rfl (by decide)
    | full => exact key _ _ rfl rfl (by decide)
    | state => exact key _ _ rfl rfl (by decide)
    | taken => exact key _ _ rfl rfl (by decide)
  | taken => cases x with
    | none => exact c_nilIs _ _ rfl
    | stale => exact key _ _ rfl rfl (by decide)
    | full => exact key _ _ rfl rfl (by decide)
    | state => exact key _ _ rfl rfl (by decide)
    | taken => exact key _ _ rfl rfl (by decide)
theorem rf_snap (x : Rf) : snapV [] x.av = some x.av := by cases x <;> rfl
set_option maxRecDepth 100000 in
theorem c_refusalCode (x : Rf) : FCall Tryz.prog 88 [x.av] fun r H => r = iv .i64 x.code ∧ H = [] := by
  intro clk
  refine acall_of_aw Tryz.func88 rfl ?_
  cases x with
  | stale =>
    simp [Rf.dc]
    refine acall_val (isOf .stale .stale (by simp)) (by simp [Rf.dc]) (by simp) ?_
    simp [Rf.code]
  | full =>
    simp [Rf.dc]
    refine acall_val (isOf .full .stale (by simp)) (by simp [Rf.dc]) (by simp) ?_
    simp
    refine acall_val (isOf .full .full (by simp)) (by simp [Rf.dc]) (by simp) ?_
    simp [Rf.code]
  | state =>
    simp [Rf.dc]
    refine acall_val (isOf .state .stale (by simp)) (by simp [Rf.dc]) (by simp) ?_
    simp
    refine acall_val (isOf .state .full (by simp)) (by simp [Rf.dc]) (by simp) ?_
    simp
    refine acall_val (isOf .state .state (by simp)) (by simp [Rf.dc]) (by simp) ?_
    simp [Rf.code]
  | taken =>
    simp [Rf.dc]
    refine acall_val (isOf .taken .stale (by simp)) (by simp [Rf.dc]) (by simp) ?_
    simp
    refine acall_val (isOf .taken .full (by simp)) (by simp [Rf.dc]) (by simp) ?_
    simp
    refine acall_val (isOf .taken .state (by simp)) (by simp [Rf.dc]) (by simp) ?_
    simp
    refine acall_val (isOf .taken .taken (by simp)) (by simp [Rf.dc]) (by simp) ?_
    simp [Rf.code]
  | none =>
    simp [Rf.dc]
    refine acall_val (isOf .none .stale (by simp)) (by simp [Rf.dc]) (by simp) ?_
    simp
    refine acall_val (isOf .none .full (by simp)) (by simp [Rf.dc]) (by simp) ?_
    simp
    refine acall_val (isOf .none .state (by simp)) (by simp [Rf.dc]) (by simp) ?_
    simp
    refine acall_val (isOf .none .taken (by simp)) (by simp [Rf.dc]) (by simp) ?_
    simp [Rf.code]
end Go.Proofs.YtledabakodggcaaGreatDoor
