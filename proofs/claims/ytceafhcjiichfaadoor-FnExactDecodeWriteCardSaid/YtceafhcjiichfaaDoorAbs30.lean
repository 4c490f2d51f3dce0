/-
  What a package-level table of numbers holds, out of what is laid. No program's text.
-/
import Derived.Test.YtceafhcjiichfaaDoorAbs25
import Derived.LaidMore
namespace Go.Abs
set_option linter.unusedSimpArgs false
set_option linter.unusedVariables false
set_option linter.unnecessarySimpa false
open Go Go.RowKit
section
variable {H : Type} {enc : TypeId × Value → H} {P : Program} {w : World} {spare : Nat → Bool} {held : Bool}
theorem trodVars_len : ∀ {ns : List String} {gs : List (DataW H)} {ps : List MemPlace}, DataW.TrodVars enc P w spare ns gs ps → gs.length = ns.length
  | [], [], _, _ => rfl
  | [], _ :: _, _, h => h.elim
  | _ :: _, [], _, h => h.elim
  | _ :: ns, _ :: gs, _, h => by
    obtain ⟨_, _, _, _, _, _, _, _, _, _, h, _⟩ := h
    simp [trodVars_len h]
theorem laid_ints {t e n fuel : Nat} {k : IntKind} {ns : List Int} {cs : List Value} {p : List MemPlace} (ht : P.underlying t = some (.array n e)) (he : P.underlying e = some (.int k)) (hc : P.cellsOf e = 1) (hn : P.cellsOf t = n)
    (h : DataW.trod enc P w 0 spare held fuel t cs = some (.agg (ns.map fun i => .lit (.int k i)), p)) : cs = ns.map (Value.int k) := by
  obtain ⟨xs, m, _, hx, hl, hxl, hat⟩ := DataW.trod_array ht h
  simp only [Prod.mk.injEq, DataW.agg.injEq] at hx
  have hx1 := hx.1
  have hlen : ns.length = n := by
    have := congrArg List.length hx1
    simpa [hxl] using this
  have hcl : cs.length = n := hl.trans hn
  apply List.ext_getElem
  · simp [hcl, hlen]
  · intro i h1 h2
    have hi : i < n := by omega
    have h3 := hat i hi
    rw [hc, Nat.mul_one, List.getElem?_eq_getElem (by omega)] at h3
    obtain ⟨q, hq1, hq2, _⟩ := DataW.trod_int he h3
    have e1 : (cs.drop i).take 1 = [cs[i]] := by rw [List.drop_eq_getElem_cons h1]; rfl
    rw [e1] at hq1
    have e2 : (ns.map fun i => (DataW.lit (.int k i) : DataW H))[i]'(by simp; omega) = (xs.map (·.1))[i]'(by simp; omega) := by
      congr 1
    simp only [List.getElem_map, hq2] at e2
    have e3 : ns[i]'(by omega) = q := by simpa using e2
    simp at hq1
    simp [hq1, e3]
theorem glob_ints {name : String} {g : Nat} {cs : Array Value} {k : IntKind} {ns : List Int} (hg : P.globalNamed name = some g) (hv : w.var? P name = some cs) (hcs : cs.toList = ns.map (Value.int k)) (hne : 0 < ns.length) :
    RelD w (baseE w).I (.rptr (ns.map fun i => .s (.int k i))) (.pointer (some ⟨g, 0, none⟩)) := by
  have hcell : ∀ j, j < ns.length → w.cell? ((⟨g, 0, none⟩ : Addr).add j) = some (.int k (ns.getD j 0)) := fun j hj => by
    have := World.var?_cell hg hv j
    rw [add_lit, Nat.zero_add, this, ← Array.getElem?_toList, hcs, List.getElem?_map]
    simp [List.getD, List.getElem?_eq_getElem hj]
  refine .rptr (fun j => .int k (ns.getD j 0)) (cell_lt (hcell 0 hne)) (fun j hj => hcell j (by simpa using hj)) (fun j hj => ?_)
  simp at hj
  simp [List.getD, List.getElem?_eq_getElem hj]
  exact .s rfl
end
end Go.Abs
