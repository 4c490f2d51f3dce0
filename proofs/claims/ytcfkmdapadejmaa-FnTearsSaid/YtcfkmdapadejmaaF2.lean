/-
  Frames on a disk, read whole: arrays of arrays; the model.
-/
import Derived.Test.YtcfkmdapadejmaaF1
namespace Go.Proofs.Ytcfkmdapadejmaa
set_option maxRecDepth 100000
set_option linter.unusedSimpArgs false
set_option linter.unusedVariables false
set_option linter.unnecessarySimpa false
open Go Go.Abs Go.Proofs
abbrev BB := Nat × List UInt8
def bblk (p : BB) : ABlk := ⟨p.1, 5, 1, bcs p.2⟩
def outsL : List Nat → List BB → List AC
  | i :: is, p :: ps => .own i p.1 0 p.2.length :: outsL is ps
  | _, _ => []
def innX (ps : List BB) : AHeap := ps.flatMap fun p => [some (bblk p), none]
@[simp] theorem innX_len (ps : List BB) : (innX ps).length = 2 * ps.length := by
  induction ps with
  | nil => rfl
  | cons p ps ih => simp only [innX, List.flatMap_cons, List.length_append, List.length_cons, List.length_nil] at ih ⊢; omega
@[simp] theorem innX_nil : innX [] = [] := rfl
theorem innX_snoc (ps : List BB) (p : BB) : innX (ps ++ [p]) = innX ps ++ [some (bblk p), none] := by simp [innX]
theorem innX_at {ps : List BB} {k : Nat} {p : BB} (h : ps[k]? = some p) (l : AHeap) : (innX ps ++ l)[2 * k]? = some (some (bblk p)) := by
  induction ps generalizing k with
  | nil => simp at h
  | cons q ps ih =>
    match k with
    | 0 => simp at h; subst h; rfl
    | k + 1 =>
      show (some (bblk q) :: none :: (innX ps ++ l))[2 * (k + 1)]? = _
      rw [show 2 * (k + 1) = 2 * k + 1 + 1 by omega, List.getElem?_cons_succ, List.getElem?_cons_succ]
      exact ih (by simpa using h)
@[simp] theorem innX_app (ps : List BB) (l : AHeap) (k : Nat) : (innX ps ++ l)[2 * ps.length + k]? = l[k]? := by
  rw [List.getElem?_append_right (by rw [innX_len]; omega), innX_len]; congr 1; omega
@[simp] theorem innX_app0 (ps : List BB) (l : AHeap) : (innX ps ++ l)[2 * ps.length]? = l[0]? := innX_app ps l 0
@[simp] theorem outsL_len : ∀ (is : List Nat) (ps : List BB), (outsL is ps).length = min is.length ps.length
  | [], _ => by simp [outsL]
  | _ :: _, [] => by simp [outsL]
  | i :: is, p :: ps => by simp [outsL, outsL_len is ps]
theorem outsL_snoc : ∀ {is : List Nat} {ps : List BB} (i : Nat) (p : BB), is.length = ps.length → outsL (is ++ [i]) (ps ++ [p]) = outsL is ps ++ [.own i p.1 0 p.2.length]
  | [], [], i, p, _ => rfl
  | [], _ :: _, _, _, h => by simp at h
  | _ :: _, [], _, _, h => by simp at h
  | j :: is, q :: ps, i, p, h => by simp [outsL, outsL_snoc (is := is) (ps := ps) i p (by simpa using h)]
theorem outsL_flat : ∀ (is : List Nat) (ps : List BB), flatL (outsL is ps)
  | [], _ => by simp [outsL]
  | _ :: _, [] => by simp [outsL]
  | i :: is, p :: ps => by simp [outsL, outsL_flat is ps]
theorem outsL_ren (ρ : Nat → Nat) : ∀ (is : List Nat) (ps : List BB), (outsL is ps).map (AC.ren ρ) = outsL (is.map ρ) ps
  | [], _ => by simp [outsL]
  | _ :: _, [] => by simp [outsL]
  | i :: is, p :: ps => by simp [outsL, outsL_ren ρ is ps, AC.ren]
theorem bblk_ren (ρ : Nat → Nat) (p : BB) : (bblk p).ren ρ = bblk p := by simp [bblk, ABlk.ren]
/-- What an answer with arrays of arrays is, its arrays in order. -/
abbrev nest (g : Nat) (ps : List BB) : AHeap := some ⟨g, 22, 1, outsL (List.range' 1 ps.length) ps⟩ :: ps.map fun p => some (bblk p)
theorem range'_sig (o : Nat) (is : List Nat) : (List.range' 1 is.length).map (sig (o :: is)) = is := by
  apply List.ext_getElem?
  intro j
  rw [List.getElem?_map]
  by_cases h : j < is.length
  · rw [List.getElem?_range' h, List.getElem?_eq_getElem h]
    simp only [Option.map_some, Nat.one_mul, Option.some.injEq]
    rw [Nat.add_comm, sig_succ]
    clear o
    induction is generalizing j with
    | nil => simp at h
    | cons i is ih =>
      match j with
      | 0 => rfl
      | j + 1 => rw [sig_succ]; simpa using ih j (by simpa using h)
  · rw [List.getElem?_eq_none (by simpa using h), List.getElem?_eq_none (by omega)]; rfl
theorem gather_nest {o g : Nat} {is : List Nat} {ps : List BB} {τ : Nat → Nat} {H : AHeap} {c : Nat} {r : AV} {post : AV → AHeap → Prop} (hl : is.length = ps.length) (ho : τ o = 0) (hi : is.map τ = List.range' 1 is.length)
    (hr : (r.ren τ).ren (sig (o :: is)) = r) (hrf : (r.ren τ).flat) (hnd : (o :: is).Nodup) (hO : H[o]? = some (some ⟨g, 22, 1, outsL is ps⟩))
    (hI : ∀ (k i : Nat) (p : BB), is[k]? = some i → ps[k]? = some p → H[i]? = some (some (bblk p))) (hp : post (r.ren τ) (nest g ps)) : GPost (o :: is) τ post r H c := by
  have hmi : (outsL is ps).map (AC.ren τ) = outsL (List.range' 1 ps.length) ps := by rw [outsL_ren, hi, hl]
  have hg : gat is τ H = ps.map fun p => some (bblk p) := by
    clear hr hrf hnd hO hp hmi hi ho
    induction is generalizing ps with
    | nil =>
      cases ps with
      | nil => rfl
      | cons => simp at hl
    | cons i is ih =>
      cases ps with
      | nil => simp at hl
      | cons p ps =>
        rw [gat_cons, List.map_cons, ih (by simpa using hl) (fun k i' p' h1 h2 => hI (k + 1) i' p' (by simpa using h1) (by simpa using h2))]
        have := hI 0 i p rfl rfl
        rw [List.getD_eq_getElem?_getD, this]
        show some ((bblk p).ren τ) :: _ = _
        rw [bblk_ren]
  rw [GPost_eq]
  refine ⟨hr, ?_, hnd, hrf, ?_, ?_⟩
  · intro i hmem
    rcases List.mem_cons.1 hmem with rfl | hmem
    · refine ⟨_, hO, ?_⟩
      simp only [ABlk.ren]
      rw [hmi, outsL_ren, ← hl, range'_sig]
    · obtain ⟨k, hk⟩ := List.mem_iff_getElem?.1 hmem
      have hkl : k < ps.length := by rw [← hl]; exact (List.getElem?_eq_some_iff.1 hk).1
      exact ⟨_, hI k i _ hk (List.getElem?_eq_getElem hkl), by rw [bblk_ren, bblk_ren]⟩
  · rw [gat_cons, hg, List.getD_eq_getElem?_getD, hO]
    simp only [Option.getD_some, Option.map_some, ABlk.ren]
    rw [hmi]
    intro b hb
    rcases List.mem_cons.1 hb with rfl | hb
    · exact outsL_flat _ _
    · obtain ⟨p, _, rfl⟩ := List.mem_map.1 hb
      exact flatL_bcs _
  · rw [gat_cons, hg, List.getD_eq_getElem?_getD, hO]
    simp only [Option.getD_some, Option.map_some, ABlk.ren]
    rw [hmi]; exact hp
@[simp] theorem outsL_shift (k a n : Nat) (ps : List BB) : (outsL (List.range' a n) ps).map (AC.ren fun x => k + x) = outsL (List.range' (k + a) n) ps := by
  rw [outsL_ren]
  congr 1
  apply List.ext_getElem? 
  intro j
  rw [List.getElem?_map]
  by_cases h : j < n
  · rw [List.getElem?_range' h, List.getElem?_range' h]; simp; omega
  · rw [List.getElem?_eq_none (by simpa using h), List.getElem?_eq_none (by simpa using h)]; rfl
@[simp] theorem blks_ren (ρ : Nat → Nat) (ps : List BB) : ps.map ((fun b => Option.map (ABlk.ren ρ) b) ∘ fun p => some (bblk p)) = ps.map fun p => some (bblk p) := by
  apply List.map_congr_left
  intro p _
  simp only [Function.comp_apply, Option.map_some, bblk_ren]
@[simp] theorem outsL_flatL (is : List Nat) (ps : List BB) : flatL (outsL is ps) := outsL_flat is ps
@[simp] theorem bblk_flat (p : BB) : flatB (some (bblk p)) := flatL_bcs _
theorem WkH_app {A l l' : AHeap} (h : WkH l l') : WkH (A ++ l) (A ++ l') := by
  induction A with
  | nil => exact h
  | cons a A ih => exact (WkH_cons _ _ _ _).2 ⟨WkB_refl _, ih⟩
end Go.Proofs.Ytcfkmdapadejmaa
