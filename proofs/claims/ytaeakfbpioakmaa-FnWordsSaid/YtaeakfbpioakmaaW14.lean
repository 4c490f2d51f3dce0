/-
  What the law of words draws.
-/
import Derived.Test.YtaeakfbpioakmaaW13
namespace Go.Proofs.Ytaeakfbpioakmaa
open Go Go.Abs Go.Proofs

theorem u8_some (m : Nat) : ∃ b : UInt8, IntKind.u8.wrap (m : Int) = (b.toNat : Int) := ⟨UInt8.ofNat (m % 256), by rw [wrap_u8, UInt8.toNat_ofNat']; omega⟩

set_option maxRecDepth 100000 in
theorem c14 (code : List UInt8) (hc : code.length ≤ 1048576) : FCall Try.prog 14 [blist code] fun r H => ∃ a b : Int, r = .tup [iv .i64 a, iv .i64 b] ∧ a ≤ 9223372036854775807 ∧ H = [] := by
  refine fcall_gather [] id fun clk => acall_of_aw Try.func14 rfl ?_
  simp
  refine (c47 code clk).mono ?_
  rintro r H c ⟨g, rfl, rfl, _⟩
  simp
  refine acall_give 1 (dargs := [.one (.ptr 0 g 0), .one (.d (.list 9 (ids [0, 1, 255, 256, 65535, 65536, 281474976710655, 281474976710656, -1])))]) (by simp [giveV, giveC, AC.dc?, ids]) ?_
  refine acall_ref (k := 0) (c48 code g 0 [0, 1, 255, 256, 65535, 65536, 281474976710655, 281474976710656, -1] hc (by omega) (by simp) (by simp)) (by simp) (by simp [srcB]) ?_
  rintro r B Hn c ⟨⟨x, hx, rfl⟩, rfl, rfl⟩ _
  have hxl : x ≤ 9223372036854775807 := by simp at hx; omega
  clear hx
  simp
  refine acall_give 2 (dargs := [.one (.ptr 0 g 0), .one (.d (.list 6 (ids [1, 2, 4, 6, 0, 7])))]) (by simp [giveV, giveC, AC.dc?, ids]) ?_
  refine acall_ref (k := 0) (c48 code g 1 [1, 2, 4, 6, 0, 7] hc (by omega) (by simp) (by simp)) (by simp) (by simp [srcB]) ?_
  rintro r B Hn c ⟨⟨y, hy, rfl⟩, rfl, rfl⟩ _
  clear hy
  simp [bodyA, ressA, hxl]

set_option maxRecDepth 100000 in
theorem c16 (code : List UInt8) (hc : code.length ≤ 1048576) : FCall Try.prog 16 [blist code] fun r H => ∃ (g : Nat) (bs : List UInt8) (p k : Int), r = .tup [.one (.own 0 g 0 bs.length), iv .i64 p, iv .i64 k] ∧ bs.length ≤ 12 ∧ H = [some ⟨g, 5, 1, bcs bs⟩] := by
  refine fcall_gather [2] (fun j => j - 2) fun clk => acall_of_aw Try.func16 rfl ?_
  simp
  refine (c47 code clk).mono ?_
  rintro r H c ⟨g, rfl, rfl, _⟩
  simp
  refine acall_give 1 (dargs := [.one (.ptr 0 g 0), .one (.d (.list 5 (ids [0, 1, 4, 8, 12])))]) (by simp [giveV, giveC, AC.dc?, ids]) ?_
  refine acall_ref (k := 0) (c48 code g 0 [0, 1, 4, 8, 12] hc (by omega) (by simp) (by simp)) (by simp) (by simp [srcB]) ?_
  rintro r B Hn c ⟨⟨x, hx, rfl⟩, rfl, rfl⟩ _
  obtain ⟨n, rfl, hn⟩ : ∃ n : Nat, x = n ∧ n ≤ 12 := ⟨x.toNat, by simp at hx; omega, by simp at hx; omega⟩
  clear hx
  simp
  refine acall_ref (k := 0) (c51 code g 1 n hc (by omega) (by omega)) (by simp) (by simp [srcB]) ?_
  rintro r B Hn c ⟨g2, bs, hbs, rfl, rfl, rfl⟩ _
  simp
  refine acall_give 3 (dargs := [.one (.ptr 0 g 0), .one (.d (.list 6 (ids [0, 0, 1, 4, -1, 9223372036854775807])))]) (by simp [giveV, giveC, AC.dc?, ids]) ?_
  refine acall_ref (k := 0) (c48 code g (1 + n) [0, 0, 1, 4, -1, 9223372036854775807] hc (by omega) (by simp) (by simp)) (by simp) (by simp [srcB]) ?_
  rintro r B Hn c ⟨⟨y, hy, rfl⟩, rfl, rfl⟩ _
  clear hy
  simp
  refine acall_give 4 (dargs := [.one (.ptr 0 g 0), .one (.d (.list 6 (ids [1, 2, 4, 6, 0, 7])))]) (by simp [giveV, giveC, AC.dc?, ids]) ?_
  refine acall_ref (k := 0) (c48 code g (1 + n + 1) [1, 2, 4, 6, 0, 7] hc (by omega) (by simp) (by simp)) (by simp) (by simp [srcB]) ?_
  rintro r B Hn c ⟨⟨z, hz, rfl⟩, rfl, rfl⟩ _
  clear hz
  subst hbs
  simp [bodyA, ressA, hn]
  exact ⟨g2, bs, ⟨rfl, rfl⟩, hn, rfl, rfl⟩

set_option maxRecDepth 100000 in
theorem c18 (code : List UInt8) (hc : code.length ≤ 1048576) : FCall Try.prog 18 [blist code] fun r H => ∃ (g1 g2 : Nat) (a b : List UInt8), r = .tup [.one (.own 0 g1 0 a.length), .one (.own 1 g2 0 b.length)] ∧ a.length ≤ 9 ∧ b.length ≤ 9 ∧
    H = [some ⟨g1, 5, 1, bcs a⟩, some ⟨g2, 5, 1, bcs b⟩] := by
  refine fcall_gather [1, 2] (fun j => j - 1) fun clk => acall_of_aw Try.func18 rfl ?_
  simp
  refine (c47 code clk).mono ?_
  rintro r H c ⟨g, rfl, rfl, _⟩
  simp
  refine acall_ref (k := 0) (c52 code g 0 9 hc (by omega) (by omega)) (by simp) (by simp [srcB]) ?_
  rintro r B Hn c ⟨⟨v, rfl, hv, _⟩, rfl, rfl⟩ _
  have hv9 : v ≤ 9 := by omega
  simp
  refine acall_ref (k := 0) (c51 code g 1 v hc (by omega) (by omega)) (by simp) (by simp [srcB]) ?_
  rintro r B Hn c ⟨g2, bs, hbs, rfl, rfl, rfl⟩ _
  subst hbs
  simp
  refine acall_pure (c53 bs (by omega)) (by simp) ?_
  rintro r Hn c ⟨g3, rfl, rfl⟩ _
  by_cases hne : bs = []
  · subst hne
    simp [bodyA, ressA]
    exact ⟨g2, g3, [], [], ⟨⟨rfl, rfl⟩, rfl, rfl⟩, by simp, by simp, ⟨rfl, rfl⟩, rfl, rfl⟩
  · have hl0 : 0 < bs.length := List.length_pos_iff.2 hne
    simp [hne, hl0]
    refine acall_ref (k := 0) (c54 code g (1 + bs.length) 2 hc (by omega) (by omega)) (by simp) (by simp [srcB]) ?_
    rintro r B Hn c ⟨⟨b, rfl⟩, rfl, rfl⟩ _
    cases b with
    | false =>
      simp [hne, hl0, bodyA, ressA]
      exact ⟨g2, g3, bs, bs, ⟨⟨rfl, rfl⟩, rfl, rfl⟩, hv9, hv9, ⟨rfl, rfl⟩, rfl, rfl⟩
    | true =>
      simp [hne, hl0]
      refine acall_ref (k := 0) (c52 code g (1 + bs.length + 1) bs.length hc (by omega) (by omega)) (by simp) (by simp [srcB]) ?_
      rintro r B Hn c ⟨⟨w, rfl, hw, _⟩, rfl, rfl⟩ _
      have hwl := hw hl0
      simp [hwl, bodyA, ressA]
      obtain ⟨b2, hb2⟩ := u8_some (bs[w].toNat % 2 ^ IntKind.u8.bits ^^^ 1 % 2 ^ IntKind.u8.bits)
      rw [hb2, bcs_set]
      exact ⟨hwl, flatL_bcs _, g2, g3, bs, bs.set w b2, ⟨⟨rfl, rfl⟩, rfl, by simp⟩, hv9, by simpa using hv9, ⟨rfl, rfl⟩, rfl, rfl⟩
end Go.Proofs.Ytaeakfbpioakmaa
