/-
  The law of what was made.
-/
import Derived.Test.YtceafhcjiichfaaL2
import Derived.Test.YtceafhcjiichfaaW13
namespace Go.Proofs.Ytceafhcjiichfaa
set_option linter.unusedSimpArgs false
set_option linter.unusedVariables false
open Go Go.Abs Go.Proofs
set_option maxRecDepth 100000 in
theorem c_DrawNewSet (code : List UInt8) (hc : code.length ≤ 1048576) : FCall Try.prog 12 [blist code] fun r H => ∃ a b : Int, r = .tup [iv .i64 a, iv .i64 b] ∧ H = [] := by
  refine fcall_gather [] id fun clk => acall_of_aw Try.func12 rfl ?_
  simp
  refine (c_l1Source code clk).mono ?_
  rintro r H c ⟨g, rfl, rfl, _⟩
  simp
  refine acall_give 1 (dargs := [.one (.ptr 0 g 0), .one (.d (.list 4 (ids [0, 1, 19, -1])))]) (by simp [giveV, giveC, AC.dc?, ids]) ?_
  refine acall_ref (k := 0) (c_l1Pick code g 0 [0, 1, 19, -1] hc (by omega) (by simp) (by simp)) (by simp) (by simp [srcB]) ?_
  rintro r B Hn c ⟨⟨x, hx, rfl⟩, rfl, rfl⟩ _
  clear hx
  simp
  refine acall_give 2 (dargs := [.one (.ptr 0 g 0), .one (.d (.list 4 (ids [0, 1, 8, 99])))]) (by simp [giveV, giveC, AC.dc?, ids]) ?_
  refine acall_ref (k := 0) (c_l1Pick code g 1 [0, 1, 8, 99] hc (by omega) (by simp) (by simp)) (by simp) (by simp [srcB]) ?_
  rintro r B Hn c ⟨⟨y, hy, rfl⟩, rfl, rfl⟩ _
  clear hy
  simp [bodyA, ressA]
set_option maxRecDepth 100000 in
theorem c_DrawNewLease (code : List UInt8) (hc : code.length ≤ 1048576) : FCall Try.prog 14 [blist code] fun r H => ∃ a b : Int, r = .tup [iv .i64 a, iv .i64 b] ∧ H = [] := by
  refine fcall_gather [] id fun clk => acall_of_aw Try.func14 rfl ?_
  simp
  refine (c_l1Source code clk).mono ?_
  rintro r H c ⟨g, rfl, rfl, _⟩
  simp
  refine acall_give 1 (dargs := [.one (.ptr 0 g 0), .one (.d (.list 4 (ids [0, 1, 2, 3])))]) (by simp [giveV, giveC, AC.dc?, ids]) ?_
  refine acall_ref (k := 0) (c_l1Pick code g 0 [0, 1, 2, 3] hc (by omega) (by simp) (by simp)) (by simp) (by simp [srcB]) ?_
  rintro r B Hn c ⟨⟨x, hx, rfl⟩, rfl, rfl⟩ _
  clear hx
  simp
  refine acall_give 2 (dargs := [.one (.ptr 0 g 0), .one (.d (.list 4 (ids [1, 2, 9999, 0])))]) (by simp [giveV, giveC, AC.dc?, ids]) ?_
  refine acall_ref (k := 0) (c_l1Pick code g 1 [1, 2, 9999, 0] hc (by omega) (by simp) (by simp)) (by simp) (by simp [srcB]) ?_
  rintro r B Hn c ⟨⟨y, hy, rfl⟩, rfl, rfl⟩ _
  clear hy
  simp [bodyA, ressA]
set_option maxRecDepth 100000 in
theorem c_DrawNewJob (code : List UInt8) (hc : code.length ≤ 1048576) : FCall Try.prog 13 [blist code] fun r H => ∃ a b d : Int, r = .tup [iv .i64 a, iv .i64 b, iv .i64 d] ∧ H = [] := by
  refine fcall_gather [] id fun clk => acall_of_aw Try.func13 rfl ?_
  simp
  refine (c_l1Source code clk).mono ?_
  rintro r H c ⟨g, rfl, rfl, _⟩
  simp
  refine acall_give 1 (dargs := [.one (.ptr 0 g 0), .one (.d (.list 4 (ids [0, 1, 19, -1])))]) (by simp [giveV, giveC, AC.dc?, ids]) ?_
  refine acall_ref (k := 0) (c_l1Pick code g 0 [0, 1, 19, -1] hc (by omega) (by simp) (by simp)) (by simp) (by simp [srcB]) ?_
  rintro r B Hn c ⟨⟨x, hx, rfl⟩, rfl, rfl⟩ _
  clear hx
  simp
  refine acall_give 2 (dargs := [.one (.ptr 0 g 0), .one (.d (.list 4 (ids [0, 1, 8, 99])))]) (by simp [giveV, giveC, AC.dc?, ids]) ?_
  refine acall_ref (k := 0) (c_l1Pick code g 1 [0, 1, 8, 99] hc (by omega) (by simp) (by simp)) (by simp) (by simp [srcB]) ?_
  rintro r B Hn c ⟨⟨y, hy, rfl⟩, rfl, rfl⟩ _
  clear hy
  simp
  refine acall_give 3 (dargs := [.one (.ptr 0 g 0), .one (.d (.list 3 (ids [0, 1, 8])))]) (by simp [giveV, giveC, AC.dc?, ids]) ?_
  refine acall_ref (k := 0) (c_l1Pick code g 2 [0, 1, 8] hc (by omega) (by simp) (by simp)) (by simp) (by simp [srcB]) ?_
  rintro r B Hn c ⟨⟨z, hz, rfl⟩, rfl, rfl⟩ _
  clear hz
  simp [bodyA, ressA]
set_option maxRecDepth 100000 in
theorem law_FnMakes (code : List UInt8) : FCall Try.prog 3 [blist code] TT := by
  by_cases hc : code.length ≤ 1048576
  · have hc' : ¬ (1048576 : Int) < code.length := by omega
    refine fcall_gather [] id fun clk => acall_of_aw Try.func3 rfl ?_
    simp
    refine acall_pure (c_lwBig code) (by simp) ?_
    rintro r Hn c ⟨rfl, rfl⟩ _
    simp [hc']
    refine acall_pure (c_DrawNewSet code hc) (by simp) ?_
    rintro r Hn c ⟨a1, b1, rfl, rfl⟩ _
    simp
    refine acall_pure (c_DrawNewJob code hc) (by simp) ?_
    rintro r Hn c ⟨a2, b2, d2, rfl, rfl⟩ _
    simp
    refine acall_pure (c_DrawNewLease code hc) (by simp) ?_
    rintro r Hn c ⟨a3, b3, rfl, rfl⟩ _
    simp
    refine acall_val (c_NewSet a1 b1) (by simp) (by simp) ?_
    simp
    refine acall_val (c_NewJob a2 b2 d2) (by simp) (by simp) ?_
    simp
    refine acall_val (c_NewLease a3 b3) (by simp) (by simp) ?_
    simp
    refine codeOk_drawA mixed (by kernel_rfl) ?_
    simp
    refine qcall_val (c_sNewSet a1 b1) (by simp) (by simp) ?_
    simp [mkSet]
    refine qcall_val (c_sNewJob a2 b2 d2) (by simp) (by simp) ?_
    simp [mkJob]
    refine qcall_val (c_sNewLease a3 b3) (by simp) (by simp) ?_
    simp [mkLease]
  · have hc' : (1048576 : Int) < code.length := by omega
    refine fcall_gather [] id fun clk => acall_of_aw Try.func3 rfl ?_
    simp
    refine acall_pure (c_lwBig code) (by simp) ?_
    rintro r Hn c ⟨rfl, rfl⟩ _
    simp [hc']
theorem av_bytes {x : AV} (h : OkAV false [.slice [.int .u8]] x) : ∃ bs : List UInt8, x = blist bs := by
  obtain ⟨d, hd, rfl⟩ := h
  obtain ⟨_, _, h1, c0, _⟩ := okCs_cons hd
  cases h1
  obtain ⟨rows, rfl, _, hr⟩ := okC_slice c0
  obtain ⟨bs, rfl⟩ := rows_map (f := fun b : UInt8 => [bd b]) (rows := rows) fun r hr' => by
    obtain ⟨d, ds, rfl, c1, h2⟩ := okCs_cons (hr r hr')
    cases okCs_nil h2
    obtain ⟨n, rfl, hw⟩ := okC_int c1
    have h1 : IntKind.u8.min = 0 := by decide
    have h2 : IntKind.u8.max = 255 := by decide
    simp only [Lit.wf, Bool.and_eq_true, decide_eq_true_eq, h1, h2] at hw
    refine ⟨UInt8.ofNat n.toNat, ?_⟩
    have : ((UInt8.ofNat n.toNat).toNat : Int) = n := by rw [UInt8.toNat_ofNat']; omega
    rw [bd, this]
  refine ⟨bs, ?_⟩
  have e : (bs.map fun b : UInt8 => [bd b]).flatten = bds bs := by
    clear hr c0 hd
    induction bs with
    | nil => rfl
    | cons b bs ih => simpa [bds] using ih (by simp at *; omega)
  simp [e]
theorem walk_FnMakes {x : AV} (h : OkAV false [.slice [.int .u8]] x) : FCall Try.prog 3 [x] TT := by
  obtain ⟨bs, rfl⟩ := av_bytes h; exact law_FnMakes bs
end Go.Proofs.Ytceafhcjiichfaa
