/-
  Arguments that are stores; the law of SameStores.
  The laws of a store: its fault, an object of it, its epoch.
  What a history can be, and what a store can be: the program's StoreFault.
-/
import Derived.Test.YtiogdfliailenaaQ11
namespace Go.Proofs.Ytiogdfliailenaa
set_option maxRecDepth 100000
set_option linter.unusedSimpArgs false
set_option linter.unusedVariables false
set_option linter.unnecessarySimpa false
open Go Go.Abs Go.Proofs
structure Ch.Fits (c : Ch) : Prop where
  rev : fits c.rev
  ob : c.ob.Fits
structure St.Fits (s : St) : Prop where
  rev : fits s.rev
  obs : ∀ o ∈ s.obs, o.Fits
  hist : ∀ c ∈ s.hist, c.Fits
  lo : s.obs.length ≤ 9223372036854775807
  lh : s.hist.length ≤ 9223372036854775807
theorem okCs_ch {ds : List DC} (h : OkCs [.int .i64, .bool, .int .i64, .int .i64, .int .i64, .int .i64, .int .i64, .int .i64, .int .i64] ds) : ∃ c : Ch, ds = c.dcs ∧ c.Fits := by
  obtain ⟨e0, t0, rfl, c0, h⟩ := okCs_cons h
  obtain ⟨e1, t1, rfl, c1, h⟩ := okCs_cons h
  obtain ⟨o, rfl, hf⟩ := okCs_ob h
  obtain ⟨n0, rfl, w0⟩ := okC_int c0
  obtain ⟨g, rfl⟩ := okC_bool c1
  exact ⟨⟨n0, g, o⟩, rfl, ⟨fits_of w0, hf⟩⟩
/-- A slice of rows. -/
theorem okC_rows {α : Type} [Row α] {ks : List CK} {d : DC} {F : α → Prop} (h1 : ∀ ds, OkCs ks ds → ∃ a : α, ds = Row.dcs a ∧ F a) (h : OkC (.slice ks) d) : ∃ l : List α, d = .list l.length (rds l) ∧ (∀ a ∈ l, F a) ∧ l.length ≤ 9223372036854775807 := by
  obtain ⟨rows, rfl, hl, hr⟩ := okC_slice h
  obtain ⟨l, rfl, hp⟩ := rows_mapP (f := (Row.dcs : α → List DC)) (p := F) fun r hr' => h1 r (hr r hr')
  exact ⟨l, by rw [rds, List.flatMap_def, List.length_map], hp, by rw [List.length_map] at hl; exact hl⟩
theorem av_st {x : AV} (h : OkAV true [.int .i64, .slice [.int .i64, .int .i64, .int .i64, .int .i64, .int .i64, .int .i64, .int .i64], .slice [.int .i64, .bool, .int .i64, .int .i64, .int .i64, .int .i64, .int .i64, .int .i64, .int .i64]] x) : ∃ s : St, x = s.av ∧ s.Fits := by
  obtain ⟨ds, hd, rfl⟩ := h
  obtain ⟨e0, t0, rfl, c0, h⟩ := okCs_cons hd
  obtain ⟨e1, t1, rfl, c1, h⟩ := okCs_cons h
  obtain ⟨e2, t2, rfl, c2, h⟩ := okCs_cons h
  cases okCs_nil h
  obtain ⟨n0, rfl, w0⟩ := okC_int c0
  obtain ⟨os, rfl, ho, hol⟩ := okC_rows (fun ds h => okCs_ob h) c1
  obtain ⟨cs, rfl, hc, hcl⟩ := okC_rows (fun ds h => okCs_ch h) c2
  exact ⟨⟨n0, os, cs⟩, rfl, ⟨fits_of w0, ho, hc, hol, hcl⟩⟩
def szSt (s : St) (n : Int) : Int := if (s.obs.length : Int) ≤ n then (if (s.hist.length : Int) ≤ n - s.obs.length then n - s.obs.length - s.hist.length else -1) else -1
theorem szSt_le {s : St} {n : Int} (h : ¬ szSt s n < 0) (h1 : n ≤ 1048576) : s.obs.length ≤ 1048576 ∧ s.hist.length ≤ 1048576 ∧ 0 ≤ szSt s n ∧ szSt s n ≤ 1048576 := by
  unfold szSt at h ⊢
  split at h
  · split at h
    · rename_i g1 g2
      rw [if_pos g1, if_pos g2]
      omega
    · omega
  · omega
end Go.Proofs.Ytiogdfliailenaa
namespace Go.Proofs.Ytiogdfliailenaa
set_option maxRecDepth 100000
set_option linter.unusedSimpArgs false
set_option linter.unusedVariables false
set_option linter.unnecessarySimpa false
open Go Go.Abs Go.Proofs
theorem av_key {x : AV} (h : OkAV true [.int .i64, .int .i64] x) : ∃ a b, x = kav a b := by
  obtain ⟨ds, hd, rfl⟩ := h
  obtain ⟨e0, t0, rfl, c0, h⟩ := okCs_cons hd
  obtain ⟨e1, t1, rfl, c1, h⟩ := okCs_cons h
  cases okCs_nil h
  obtain ⟨n0, rfl, _⟩ := okC_int c0
  obtain ⟨n1, rfl, _⟩ := okC_int c1
  exact ⟨n0, n1, rfl⟩
end Go.Proofs.Ytiogdfliailenaa
namespace Go.Proofs.Ytiogdfliailenaa
set_option maxRecDepth 100000
set_option linter.unusedSimpArgs false
set_option linter.unusedVariables false
set_option linter.unnecessarySimpa false
open Go Go.Abs Go.Proofs
def chFault (rev : Int) (c : Ch) : Int := if obFault c.ob = 0 ∧ c.ob.rev = c.rev then (if c.rev = rev then 0 else 8) else 1
theorem chFault_ok {rev : Int} {c : Ch} (h : 1 ≤ rev) : chFault rev c = 0 ↔ chOk 1 rev c := by
  unfold chFault chOk
  constructor
  · intro h1
    split at h1
    · rename_i h2
      split at h1
      · rename_i h3; exact ⟨h2.1, h2.2, h3, by omega⟩
      · omega
    · omega
  · rintro ⟨h1, h2, h3, h4⟩
    rw [if_pos ⟨h1, h2⟩, if_pos h3]
theorem histOk_len {l : List Ch} {rev : Int} (hr : 0 ≤ rev) (hl : l.length ≤ 12) (h : ¬ (l.length : Int) = min rev 12) : histOk rev l = false := by
  rw [Bool.eq_false_iff]
  intro hk
  rw [histOk, Bool.and_eq_true, decide_eq_true_eq, histAll_iff] at hk
  obtain ⟨h1, h2⟩ := hk
  have h3 : l.length = 12 ∧ rev < 12 := by omega
  have h4 : 0 < l.length := by omega
  obtain ⟨_, _, h5, h6⟩ := h2 0 l[0] (List.getElem?_eq_getElem h4)
  have h7 : (l.length : Int) = 12 := by rw [h3.1]; rfl
  rw [h7] at h5
  simp at h5
  omega
end Go.Proofs.Ytiogdfliailenaa
