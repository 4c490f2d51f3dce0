/-
  Arguments that are stores; the law of SameStores.
-/
import Derived.Test.YtadhojoalpkabaaS2
namespace Go.Proofs.Ytadhojoalpkabaa
set_option maxRecDepth 100000
set_option linter.unusedSimpArgs false
set_option linter.unusedVariables false
set_option linter.unnecessarySimpa false
open Go Go.Abs Go.Proofs
structure Ch.Fits (c : Ch) : Prop where
  rev : fits c.rev
  ob : c.ob.Fits
structure St.Fits (s : St) : Prop where
  rev : fits s.rev
  obs : ∀ o ∈ s.obs, o.Fits
  hist : ∀ c ∈ s.hist, c.Fits
  lo : s.obs.length ≤ 9223372036854775807
  lh : s.hist.length ≤ 9223372036854775807
theorem okCs_ch {ds : List DC} (h : OkCs [.int .i64, .bool, .int .i64, .int .i64, .int .i64, .int .i64, .int .i64, .int .i64, .int .i64] ds) : ∃ c : Ch, ds = c.dcs ∧ c.Fits := by
  obtain ⟨e0, t0, rfl, c0, h⟩ := okCs_cons h
  obtain ⟨e1, t1, rfl, c1, h⟩ := okCs_cons h
  obtain ⟨o, rfl, hf⟩ := okCs_ob h
  obtain ⟨n0, rfl, w0⟩ := okC_int c0
  obtain ⟨g, rfl⟩ := okC_bool c1
  exact ⟨⟨n0, g, o⟩, rfl, ⟨fits_of w0, hf⟩⟩
/-- A slice of rows. -/
theorem okC_rows {α : Type} [Row α] {ks : List CK} {d : DC} {F : α → Prop} (h1 : ∀ ds, OkCs ks ds → ∃ a : α, ds = Row.dcs a ∧ F a) (h : OkC (.slice ks) d) : ∃ l : List α, d = .list l.length (rds l) ∧ (∀ a ∈ l, F a) ∧ l.length ≤ 9223372036854775807 := by
  obtain ⟨rows, rfl, hl, hr⟩ := okC_slice h
  obtain ⟨l, rfl, hp⟩ := rows_mapP (f := (Row.dcs : α → List DC)) (p := F) fun r hr' => h1 r (hr r hr')
  exact ⟨l, by rw [rds, List.flatMap_def, List.length_map], hp, by rw [List.length_map] at hl; exact hl⟩
theorem av_st {x : AV} (h : OkAV true [.int .i64, .slice [.int .i64, .int .i64, .int .i64, .int .i64, .int .i64, .int .i64, .int .i64], .slice [.int .i64, .bool, .int .i64, .int .i64, .int .i64, .int .i64, .int .i64, .int .i64, .int .i64]] x) : ∃ s : St, x = s.av ∧ s.Fits := by
  obtain ⟨ds, hd, rfl⟩ := h
  obtain ⟨e0, t0, rfl, c0, h⟩ := okCs_cons hd
  obtain ⟨e1, t1, rfl, c1, h⟩ := okCs_cons h
  obtain ⟨e2, t2, rfl, c2, h⟩ := okCs_cons h
  cases okCs_nil h
  obtain ⟨n0, rfl, w0⟩ := okC_int c0
  obtain ⟨os, rfl, ho, hol⟩ := okC_rows (fun ds h => okCs_ob h) c1
  obtain ⟨cs, rfl, hc, hcl⟩ := okC_rows (fun ds h => okCs_ch h) c2
  exact ⟨⟨n0, os, cs⟩, rfl, ⟨fits_of w0, ho, hc, hol, hcl⟩⟩
def szSt (s : St) (n : Int) : Int := if (s.obs.length : Int) ≤ n then (if (s.hist.length : Int) ≤ n - s.obs.length then n - s.obs.length - s.hist.length else -1) else -1
theorem szSt_le {s : St} {n : Int} (h : ¬ szSt s n < 0) (h1 : n ≤ 1048576) : s.obs.length ≤ 1048576 ∧ s.hist.length ≤ 1048576 ∧ 0 ≤ szSt s n ∧ szSt s n ≤ 1048576 := by
  unfold szSt at h ⊢
  split at h
  · split at h
    · rename_i g1 g2
      rw [if_pos g1, if_pos g2]
      omega
    · omega
  · omega
end Go.Proofs.Ytadhojoalpkabaa
