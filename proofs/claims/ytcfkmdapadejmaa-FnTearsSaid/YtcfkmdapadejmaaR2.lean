/-
  Frames on a disk: the model's reading.
-/
import Derived.Test.YtcfkmdapadejmaaR1
import Derived.Test.YtcfkmdapadejmaaW13
namespace Go.Proofs.Ytcfkmdapadejmaa
set_option maxRecDepth 100000
set_option linter.unusedSimpArgs false
set_option linter.unusedVariables false
set_option linter.unnecessarySimpa false
open Go Go.Abs Go.Proofs
theorem flatL_any (n : Nat) : flatL (List.replicate n AC.any) := by
  intro c hc
  rw [List.eq_of_mem_replicate hc]; rfl
set_option maxRecDepth 100000 in
set_option maxHeartbeats 1000000 in

theorem c_l1Frames (d : List UInt8) (hd : d.length ≤ 4000) : FCall Try.prog 31 [blist d] fun r H => ∃ n g, ∃ z : Nat, r = .tup [.one (.own 0 g 0 n), iv .i64 z] ∧ H = [some ⟨g, 22, 1, List.replicate n .any⟩] := by
  refine fcall_gather [0] id fun clk => acall_of_aw Try.func31 rfl ?_
  simp
  refine codeOk_loopW [true, false, true, true, true, true] (fun s => ∃ n g z c : Nat, n ≤ z ∧ z ≤ d.length ∧
     s = ⟨[blist d, unknown, .one (.d .nil), iv .i64 0, .one (.own 0 g 0 n), iv .i64 z] ++ List.replicate 61 unknown, [some ⟨g, 22, 1, List.replicate n .any⟩], c⟩)
    (fun s => match s.tmps.getD 5 unknown with | .one (.d (.s (.int _ i))) => d.length - i.toNat | _ => 0) ?_ ?_
  · refine ⟨[some ⟨clk, 22, 1, []⟩], by simp, ?_⟩
    simp
    exact ⟨0, clk, 0, by omega, by omega, ⟨⟨rfl, rfl⟩, rfl⟩, rfl, rfl⟩
  · rintro s ⟨n, g, z, c, hn, hz, rfl⟩
    by_cases hlt : z < d.length
    · obtain ⟨x, hx⟩ : ∃ x, x = d[z] := ⟨_, rfl⟩
      have hxl := x.toNat_lt
      have hdz : d[z]? = some x := by rw [hx]; exact List.getElem?_eq_getElem hlt
      have hw : IntKind.i64.wrap (x.toNat : Int) = (x.toNat : Int) := wrap_i64 (by omega) (by omega)
      have w1 : IntKind.i64.wrap ((z : Int) + x.toNat) = z + x.toNat := wrap_i64 (by omega) (by omega)
      have w2 : IntKind.i64.wrap ((z : Int) + x.toNat + 3) = z + x.toNat + 3 := wrap_i64 (by omega) (by omega)
      have w3 : IntKind.i64.wrap ((z : Int) + x.toNat + 1) = z + x.toNat + 1 := wrap_i64 (by omega) (by omega)
      have w4 : IntKind.i64.wrap ((z : Int) + 1) = z + 1 := wrap_i64 (by omega) (by omega)
      simp [hlt, ← hx, hw]
      refine codeOk_drawA mixed (by kernel_rfl) ?_
      by_cases h1 : (x.toNat : Int) < 1
      · simp [h1, bodyA, ressA]
        exact flatL_any n
      by_cases h2 : (100 : Int) < x.toNat
      · simp [h1, h2, bodyA, ressA]
        exact flatL_any n
      by_cases h3 : (d.length : Int) < z + x.toNat + 3
      · simp [h1, h2, w1, w2, h3, bodyA, ressA]
        exact flatL_any n
      obtain ⟨rv, hrv⟩ : ∃ rv, rv = rdN ((d.drop (z + x.toNat + 1)).take 2) := ⟨_, rfl⟩
      obtain ⟨cv, hcv⟩ : ∃ cv, cv = crc ((d.drop z).take (x.toNat + 1)) := ⟨_, rfl⟩
      have hsl : ((d.drop z).take (x.toNat + 1)).length = x.toNat + 1 := by rw [List.length_take, List.length_drop]; omega
      simp [h1, h2, w1, w2, w3, h3]
      refine qcall_val (c_l1Read d (z + x.toNat + 1) 2 (by omega) (by omega) (by omega)) (by simp) (by simp) ?_
      rw [← hrv]
      simp [w1, w3]
      refine ⟨by omega, ?_⟩
      rw [show ((z : Int) + x.toNat + 1).toNat - z = x.toNat + 1 by omega]
      refine qcall_val (c_l1Sum ((d.drop z).take (x.toNat + 1)) (by omega)) (by simp [hsl]) (by simp) ?_
      rw [← hcv]
      by_cases h4 : rv = cv
      · obtain ⟨b, hb⟩ : ∃ b, b = (d.drop (z + 1)).take x.toNat := ⟨_, rfl⟩
        have hbl : b.length = x.toNat := by rw [hb, List.length_take, List.length_drop]; omega
        simp [h4, w1, w3, w4]
        refine ⟨by omega, ?_⟩
        rw [show ((z : Int) + x.toNat + 1).toNat - (z + 1) = x.toNat by omega, ← hb, ← hbl]
        refine acall_pure (c_l1Copy b (by omega)) (by simp) ?_
        rintro r Hn c' ⟨g', rfl, rfl⟩ _
        have w5 : IntKind.i64.wrap (IntKind.i64.wrap ((z : Int) + b.length) + 3) = ((z + b.length + 3 : Nat) : Int) := by
          rw [wrap_i64 (n := (z : Int) + b.length) (by omega) (by omega), wrap_i64 (by omega) (by omega)]; omega
        simp
        rw [w5]
        refine ⟨⟨by omega, by show n + 1 ≤ 9223372036854775807; omega⟩, [some ⟨c' + 1, 22, 1, List.replicate (n + 1) .any⟩], ?_, ⟨n + 1, c' + 1, z + b.length + 3, by omega, by omega, ⟨⟨rfl, rfl⟩, rfl⟩, rfl⟩, by omega⟩
        simp only [WkH_cons]
        exact ⟨WkB_any (by decide) (by simp), WkH_nil _⟩
      · simp [h4, bodyA, ressA]
        exact flatL_any n
    · simp [hlt, bodyA, ressA]
      exact flatL_any n
theorem c_sReadFrames (d : List UInt8) (hd : d.length ≤ 4000) : FCall Try.prog 17 [blist d] fun r H => ∃ n g, ∃ z : Nat, r = .agg [jc 0, .own 0 g 0 n, jc z] ∧ H = [some ⟨g, 22, 1, List.replicate n .any⟩] := by
  have hd' : ¬ (4000 : Int) < d.length := by omega
  refine fcall_gather [1] (fun j => j - 1) fun clk => acall_of_aw Try.func17 rfl ?_
  simp [hd']
  refine acall_pure (c_l1Frames d hd) (by simp) ?_
  rintro r Hn c ⟨n, g, z, rfl, rfl⟩ _
  simp
  exact ⟨flatL_any n, n, g, ⟨rfl, ⟨rfl, rfl⟩, z, rfl⟩, rfl, rfl⟩
theorem c_sReadFramesM (d : List UInt8) (hd : 4000 < d.length) : FCall Try.prog 17 [blist d] fun r H => r = .agg [jc 2, .d .nil, jc 0] ∧ H = [] := by
  have hd' : (4000 : Int) < d.length := by omega
  refine fcall_gather [] id fun clk => acall_of_aw Try.func17 rfl ?_
  simp [hd']
  exact ⟨rfl, rfl⟩
end Go.Proofs.Ytcfkmdapadejmaa
