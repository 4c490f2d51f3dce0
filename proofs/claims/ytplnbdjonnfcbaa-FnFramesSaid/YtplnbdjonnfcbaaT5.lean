/-
  What the law of frames draws; a place that is drawn.
-/
import Derived.Test.YtplnbdjonnfcbaaT4
import Derived.Test.YtplnbdjonnfcbaaK6
namespace Go.Proofs.Ytplnbdjonnfcbaa
set_option maxRecDepth 100000
set_option linter.unusedSimpArgs false
set_option linter.unusedVariables false
set_option linter.unnecessarySimpa false
open Go Go.Abs Go.Proofs
set_option maxRecDepth 100000 in
theorem c_DrawPackFrame (code : List UInt8) (hc : code.length ≤ 1048576) : FCall Try.prog 16 [blist code] fun r H => ∃ (g : Nat) (b : List UInt8), r = .one (.own 0 g 0 b.length) ∧ b.length ≤ 101 ∧ H = [some ⟨g, 5, 1, bcs b⟩] := by
  refine fcall_gather [2] (fun j => j - 2) fun clk => acall_of_aw Try.func16 rfl ?_
  simp
  refine (c_l1Source code clk).mono ?_
  rintro r H c ⟨g, rfl, rfl, _⟩
  simp
  refine acall_give 1 (dargs := [.one (.ptr 0 g 0), .one (.d (.list 6 (ids [1, 5, 100, 101, 0, 12])))]) (by simp [giveV, giveC, AC.dc?, ids]) ?_
  refine acall_ref (k := 0) (c_l1Pick code g 0 [1, 5, 100, 101, 0, 12] hc (by omega) (by simp) (by simp)) (by simp) (by simp [srcB]) ?_
  rintro r B Hn c ⟨⟨x, hx, rfl⟩, rfl, rfl⟩ _
  obtain ⟨n, rfl, hn⟩ : ∃ n : Nat, x = n ∧ n ≤ 101 := ⟨x.toNat, by simp at hx; omega, by simp at hx; omega⟩
  clear hx
  simp
  refine acall_ref (k := 0) (c_l1Some code g 1 n hc (by omega) (by omega)) (by simp) (by simp [srcB]) ?_
  rintro r B Hn c ⟨g2, b, hb, rfl, rfl, rfl⟩ _
  subst hb
  simp [bodyA, ressA]
  exact ⟨g2, b, ⟨rfl, rfl⟩, hn, rfl, rfl⟩
set_option maxRecDepth 100000 in
theorem c_DrawSumOf (code : List UInt8) (hc : code.length ≤ 1048576) : FCall Try.prog 18 [blist code] fun r H => ∃ (g : Nat) (b : List UInt8), r = .one (.own 0 g 0 b.length) ∧ b.length ≤ 4001 ∧ H = [some ⟨g, 5, 1, bcs b⟩] := by
  refine fcall_gatherE fun clk => acall_of_aw Try.func18 rfl ?_
  simp
  refine (c_l1Source code clk).mono ?_
  rintro r H c ⟨g, rfl, rfl, _⟩
  simp
  refine acall_ref (k := 0) (c_l1Chance code g 0 30 hc (by omega) (by omega)) (by simp) (by simp [srcB]) ?_
  rintro r B Hn c ⟨⟨b, rfl⟩, rfl, rfl⟩ _
  cases b with
  | true =>
    simp
    refine acall_give 1 (dargs := [.one (.ptr 0 g 0), .one (.d (.list 2 (ids [4000, 4001])))]) (by simp [giveV, giveC, AC.dc?, ids]) ?_
    refine acall_ref (k := 0) (c_l1Pick code g 1 [4000, 4001] hc (by omega) (by simp) (by simp)) (by simp) (by simp [srcB]) ?_
    rintro r B Hn c ⟨⟨x, hx, rfl⟩, rfl, rfl⟩ _
    obtain ⟨n, rfl, hn⟩ : ∃ n : Nat, x = n ∧ n ≤ 4001 := ⟨x.toNat, by simp at hx; omega, by simp at hx; omega⟩
    clear hx
    simp [bodyA, ressA]
    refine ⟨⟨by omega, by omega⟩, [2], fun j => j - 2, ?_⟩
    simp
    exact ⟨c, List.replicate n 0, ⟨rfl, by simp⟩, by simpa using hn, rfl, rfl⟩
  | false =>
    simp
    refine acall_ref (k := 0) (c_l1Next code g 1 12 hc (by omega) (by omega)) (by simp) (by simp [srcB]) ?_
    rintro r B Hn c ⟨⟨v, rfl, hv, _⟩, rfl, rfl⟩ _
    simp
    refine acall_ref (k := 0) (c_l1Some code g 2 v hc (by omega) (by omega)) (by simp) (by simp [srcB]) ?_
    rintro r B Hn c ⟨g2, b, hb, rfl, rfl, rfl⟩ _
    subst hb
    simp [bodyA, ressA]
    refine ⟨[1], fun j => j - 1, ?_⟩
    simp
    exact ⟨g2, b, ⟨rfl, rfl⟩, by omega, rfl, rfl⟩
/-- The place that is drawn. -/
def lwV (code : List UInt8) (p n : Nat) : Nat :=
  if n ≤ 1 then 0 else if code = [] then (p * 7) % n else
    if n ≤ 200 then ((code.getD (p % code.length) 0).toNat + p / code.length * 3) % n
    else (((code.getD (p % code.length) 0).toNat + p / code.length * 3) * 251 + (code.getD ((p + 1) % code.length) 0).toNat) % n
theorem lwV_lt {code : List UInt8} {p n : Nat} (h : 1 ≤ n) : lwV code p n < n := by
  unfold lwV
  split
  · omega
  · split
    · exact Nat.mod_lt _ (by omega)
    · split <;> exact Nat.mod_lt _ (by omega)
set_option maxRecDepth 100000 in
set_option maxHeartbeats 1000000 in
/-- A place below n. -/
theorem c_lwAt (code : List UInt8) (p n : Nat) (hc : code.length ≤ 1048576) (hp : p ≤ 1000) (hn : 1 ≤ n ∧ n ≤ 1099511627776) : FCall Try.prog 24 [blist code, iv .i64 p, iv .i64 n] fun r H => r = iv .i64 (lwV code p n : Nat) ∧ H = [] := by
  by_cases h1 : n ≤ 1
  · have h1' : (n : Int) ≤ 1 := by omega
    intro clk
    refine acall_of_aw Try.func24 rfl ?_
    simp [h1', lwV, h1]
  · have h1' : ¬ (n : Int) ≤ 1 := by omega
    have hn0 : ¬ n = 0 := by omega
    have hs : IntKind.i64.wrap (p : Int) = (p : Int) := wrap_i64 (by omega) (by omega)
    by_cases hne : code = []
    · subst hne
      have h7 : IntKind.i64.wrap ((p : Int) * 7) = ((p * 7 : Nat) : Int) := by rw [wrap_i64 (by omega) (by omega)]; omega
      intro clk
      refine acall_of_aw Try.func24 rfl ?_
      simp [h1', hs, hn0]
      rw [h7, tmod_nat]
      simp [lwV, h1]
    · have hl0 : 0 < code.length := List.length_pos_iff.2 hne
      obtain ⟨q, hq⟩ : ∃ q, q = p % code.length := ⟨_, rfl⟩
      obtain ⟨d, hd⟩ : ∃ d, d = p / code.length := ⟨_, rfl⟩
      have hql : q < code.length := by rw [hq]; exact Nat.mod_lt _ hl0
      have hdl : d ≤ p := by rw [hd]; exact Nat.div_le_self _ _
      have hqm : (p : Int).tmod (code.length : Int) = (q : Int) := by rw [tmod_nat, hq]
      have hdv : (p : Int) / (code.length : Int) = (d : Int) := by rw [tdiv_nat, hd]
      obtain ⟨b, hb⟩ : ∃ b, b = code[q] := ⟨_, rfl⟩
      have hbl := b.toNat_lt
      have hwb : IntKind.i64.wrap (b.toNat : Int) = (b.toNat : Int) := wrap_i64 (by omega) (by omega)
      have hwd : IntKind.i64.wrap (d : Int) = (d : Int) := wrap_i64 (by omega) (by omega)
      have hwm : IntKind.i64.wrap ((d : Int) * 3) = ((d * 3 : Nat) : Int) := by rw [wrap_i64 (by omega) (by omega)]; omega
      obtain ⟨V, hV⟩ : ∃ V, V = b.toNat + d * 3 := ⟨_, rfl⟩
      have hwV : IntKind.i64.wrap ((b.toNat : Int) + (d : Int) * 3) = (V : Int) := by rw [wrap_i64 (by omega) (by omega)]; omega
      by_cases h200 : n ≤ 200
      · have h200' : ¬ (200 : Int) < n := by omega
        intro clk
        refine acall_of_aw Try.func24 rfl ?_
        simp [h1', hs, hne]
        refine codeOk_drawA mixed (by kernel_rfl) ?_
        have hv : lwV code p n = V % n := by
          unfold lwV
          rw [if_neg h1, if_neg hne, if_pos h200, ← hq, ← hd, List.getD_eq_getElem?_getD, List.getElem?_eq_getElem hql, hV, hb]; rfl
        rw [hv]
        simp [hqm, hdv, hql, ← hb, hwb, hwd, hwm, hwV, hs, hne, h200', hn0]
        exact tmod_nat _ _
      · have h200' : (200 : Int) < n := by omega
        obtain ⟨q2, hq2⟩ : ∃ q, q = (p + 1) % code.length := ⟨_, rfl⟩
        have hql2 : q2 < code.length := by rw [hq2]; exact Nat.mod_lt _ hl0
        have hp1 : IntKind.i64.wrap ((p : Int) + 1) = (p : Int) + 1 := wrap_i64 (by omega) (by omega)
        have hqm2 : ((p : Int) + 1).tmod (code.length : Int) = (q2 : Int) := by rw [hq2]; exact tmod_nat (p + 1) code.length
        have hw2 : IntKind.i64.wrap (q2 : Int) = (q2 : Int) := wrap_i64 (by omega) (by omega)
        obtain ⟨b2, hb2⟩ : ∃ b, b = code[q2] := ⟨_, rfl⟩
        have hbl2 := b2.toNat_lt
        have hwb2 : IntKind.i64.wrap (b2.toNat : Int) = (b2.toNat : Int) := wrap_i64 (by omega) (by omega)
        have hV251 : IntKind.i64.wrap ((V : Int) * 251) = ((V * 251 : Nat) : Int) := by rw [wrap_i64 (by omega) (by omega)]; omega
        obtain ⟨Y, hY⟩ : ∃ Y, Y = V * 251 + b2.toNat := ⟨_, rfl⟩
        have hwY : IntKind.i64.wrap ((V : Int) * 251 + (b2.toNat : Int)) = (Y : Int) := by rw [wrap_i64 (by omega) (by omega)]; omega
        intro clk
        refine acall_of_aw Try.func24 rfl ?_
        simp [h1', hs, hne]
        refine codeOk_drawA mixed (by kernel_rfl) ?_
        have hv : lwV code p n = Y % n := by
          unfold lwV
          rw [if_neg h1, if_neg hne, if_neg h200, ← hq, ← hd, ← hq2, List.getD_eq_getElem?_getD, List.getElem?_eq_getElem hql, List.getD_eq_getElem?_getD, List.getElem?_eq_getElem hql2, hY, hV, hb, hb2]; rfl
        rw [hv]
        simp [hqm, hdv, hql, ← hb, hwb, hwd, hwm, hwV, hs, hne, h200', hn0, hp1, hqm2, hw2, hql2, ← hb2, hwb2, hV251, hwY]
        exact tmod_nat _ _
end Go.Proofs.Ytplnbdjonnfcbaa
