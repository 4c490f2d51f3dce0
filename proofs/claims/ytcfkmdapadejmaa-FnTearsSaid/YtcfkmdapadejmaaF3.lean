/-
  Frames on a disk, read whole: the model's reading.
-/
import Derived.Test.YtcfkmdapadejmaaF2
namespace Go.Proofs.Ytcfkmdapadejmaa
set_option maxRecDepth 100000
set_option linter.unusedSimpArgs false
set_option linter.unusedVariables false
set_option linter.unnecessarySimpa false
open Go Go.Abs Go.Proofs
def ixm (n : Nat) : List Nat := (List.range n).map fun i => 2 * i + 1
theorem ixm_succ (n : Nat) : ixm (n + 1) = ixm n ++ [2 * n + 1] := by simp [ixm, List.range_succ]
@[simp] theorem ixm_len (n : Nat) : (ixm n).length = n := by simp [ixm]
def tauM (j : Nat) : Nat := (j + 1) / 2
theorem ixm_tau (n : Nat) : (ixm n).map tauM = List.range' 1 n := by
  induction n with
  | zero => rfl
  | succ n ih =>
    rw [ixm_succ, List.map_append, ih, List.range'_concat]
    congr 1
    simp [tauM]; omega
theorem ixm_nodup (n : Nat) : (0 :: ixm n).Nodup := by
  rw [List.nodup_cons]
  refine ⟨by simp [ixm], ?_⟩
  rw [ixm, List.Nodup, List.pairwise_map]
  exact (List.nodup_range (n := n)).imp (fun h e => h (by omega))
theorem ixm_at {n k i : Nat} (h : (ixm n)[k]? = some i) : i = 2 * k + 1 := by
  rw [ixm, List.getElem?_map] at h
  cases hk : (List.range n)[k]? with
  | none => simp [hk] at h
  | some j => simp [hk] at h; rw [List.getElem?_eq_some_iff] at hk; obtain ⟨h1, h2⟩ := hk; simp at h2; omega
def NestPost (bs : List (List UInt8)) (p : AC → AV) (r : AV) (H : AHeap) : Prop := ∃ (g : Nat) (ps : List BB), ps.map (·.2) = bs ∧ r = p (.own 0 g 0 bs.length) ∧ H = nest g ps
abbrev nc (n : Int) : AC := .d (.s (.int .i64 n))
abbrev frAV (z : Int) (x : AC) : AV := .agg [nc 0, x, nc z]
set_option maxRecDepth 100000 in
set_option maxHeartbeats 1000000 in
theorem c_l1FramesX (d : List UInt8) (hd : d.length ≤ 4000) : FCall Try.prog 31 [blist d] (NestPost (readF d).1 fun x => .tup [.one x, iv .i64 (readF d).2]) := by
  refine fcall_gather (0 :: ixm (readF d).1.length) tauM fun clk => acall_of_aw Try.func31 rfl ?_
  have done : ∀ (ps : List BB) (g z c : Nat), Reads d (ps.map (·.2)) z → firstB (d.drop z) = none →
      GPost (0 :: ixm (readF d).1.length) tauM (NestPost (readF d).1 fun x => .tup [.one x, iv .i64 (readF d).2]) (.tup [.one (.own 0 g 0 ps.length), iv .i64 z]) (some ⟨g, 22, 1, outsL (ixm ps.length) ps⟩ :: innX ps) c := by
    intro ps g z c hR hfm
    rw [reads_end hR hfm]
    simp only [List.length_map]
    refine gather_nest (ps := ps) (g := g) (by simp) rfl (by rw [ixm_tau, ixm_len]) ?_ ?_ (ixm_nodup _) rfl ?_ ?_
    · simp [tauM, sig]
    · simp
    · intro k i p hk hp
      obtain rfl := ixm_at hk
      rw [List.getElem?_cons_succ]
      have := innX_at hp []
      simpa using this
    · exact ⟨g, ps, rfl, by simp [tauM], rfl⟩
  generalize hQ : GPost (0 :: ixm (readF d).1.length) tauM (NestPost (readF d).1 fun x => .tup [.one x, iv .i64 (readF d).2]) = Q at done ⊢
  simp
  refine codeOk_loopW [true, false, false, false, true, true] (fun s => ∃ (ps : List BB) (g z c : Nat), Reads d (ps.map (·.2)) z ∧
     s = ⟨[blist d, unknown, unknown, unknown, .one (.own 0 g 0 ps.length), iv .i64 z] ++ List.replicate 61 unknown, some ⟨g, 22, 1, outsL (ixm ps.length) ps⟩ :: innX ps, c⟩)
    (fun s => match s.tmps.getD 5 unknown with | .one (.d (.s (.int _ i))) => d.length - i.toNat | _ => 0) ?_ ?_
  · refine ⟨[some ⟨clk, 22, 1, []⟩], by simp, ?_⟩
    simp
    exact ⟨[], clk, 0, .nil, ⟨⟨rfl, rfl⟩, rfl⟩, ⟨rfl, rfl⟩, rfl⟩
  · rintro s ⟨ps, g, z, c, hR, rfl⟩
    obtain ⟨hz, hn⟩ := hR.size
    rw [List.length_map] at hn
    by_cases hlt : z < d.length
    · obtain ⟨x, hx⟩ : ∃ x, x = d[z] := ⟨_, rfl⟩
      have hxl := x.toNat_lt
      have hdz : d[z]? = some x := by rw [hx]; exact List.getElem?_eq_getElem hlt
      have hfm := firstB_model hdz
      have hw : IntKind.i64.wrap (x.toNat : Int) = (x.toNat : Int) := wrap_i64 (by omega) (by omega)
      have w1 : IntKind.i64.wrap ((z : Int) + x.toNat) = z + x.toNat := wrap_i64 (by omega) (by omega)
      have w2 : IntKind.i64.wrap ((z : Int) + x.toNat + 3) = z + x.toNat + 3 := wrap_i64 (by omega) (by omega)
      have w3 : IntKind.i64.wrap ((z : Int) + x.toNat + 1) = z + x.toNat + 1 := wrap_i64 (by omega) (by omega)
      have w4 : IntKind.i64.wrap ((z : Int) + 1) = z + 1 := wrap_i64 (by omega) (by omega)
      simp [hlt, ← hx, hw]
      refine codeOk_drawA mixed (by kernel_rfl) ?_
      by_cases h1 : (x.toNat : Int) < 1
      · rw [if_neg (fun h => by omega)] at hfm
        simp [h1, bodyA, ressA]
        exact done ps g z c hR hfm
      by_cases h2 : (100 : Int) < x.toNat
      · rw [if_neg (fun h => by omega)] at hfm
        simp [h1, h2, bodyA, ressA]
        exact done ps g z c hR hfm
      by_cases h3 : (d.length : Int) < z + x.toNat + 3
      · rw [if_neg (fun h => by omega)] at hfm
        simp [h1, h2, w1, w2, h3, bodyA, ressA]
        exact done ps g z c hR hfm
      obtain ⟨rv, hrv⟩ : ∃ rv, rv = rdN ((d.drop (z + x.toNat + 1)).take 2) := ⟨_, rfl⟩
      obtain ⟨cv, hcv⟩ : ∃ cv, cv = crc ((d.drop z).take (x.toNat + 1)) := ⟨_, rfl⟩
      rw [← hrv, ← hcv] at hfm
      have hsl : ((d.drop z).take (x.toNat + 1)).length = x.toNat + 1 := by rw [List.length_take, List.length_drop]; omega
      simp [h1, h2, w1, w2, w3, h3]
      refine qcall_val (c_l1Read d (z + x.toNat + 1) 2 (by omega) (by omega) (by omega)) (by simp) (by simp) ?_
      rw [← hrv]
      simp [w1, w3]
      refine ⟨by omega, ?_⟩
      rw [show ((z : Int) + x.toNat + 1).toNat - z = x.toNat + 1 by omega]
      refine qcall_val (c_l1Sum ((d.drop z).take (x.toNat + 1)) (by omega)) (by simp [hsl]) (by simp) ?_
      rw [← hcv]
      by_cases h4 : rv = cv
      · obtain ⟨b, hb⟩ : ∃ b, b = (d.drop (z + 1)).take x.toNat := ⟨_, rfl⟩
        have hbl : b.length = x.toNat := by rw [hb, List.length_take, List.length_drop]; omega
        rw [if_pos ⟨by omega, by omega, by omega, h4⟩, ← hb] at hfm
        have hR' := hR.snoc hfm
        simp [h4, w1, w3, w4]
        refine ⟨by omega, ?_⟩
        rw [show ((z : Int) + x.toNat + 1).toNat - (z + 1) = x.toNat by omega, ← hb, ← hbl]
        refine acall_pure (c_l1Copy b (by omega)) (by simp) ?_
        rintro r Hn c' ⟨g', rfl, rfl⟩ _
        have w5 : IntKind.i64.wrap (IntKind.i64.wrap ((z : Int) + b.length) + 3) = ((z + b.length + 3 : Nat) : Int) := by
          rw [wrap_i64 (n := (z : Int) + b.length) (by omega) (by omega), wrap_i64 (by omega) (by omega)]; omega
        simp
        rw [w5]
        have htk : (outsL (ixm ps.length) ps).take ps.length = outsL (ixm ps.length) ps := List.take_of_length_le (by simp)
        rw [htk]
        refine ⟨⟨by omega, by show ps.length + 1 ≤ 9223372036854775807; omega⟩, some ⟨c' + 1, 22, 1, outsL (ixm (ps.length + 1)) (ps ++ [(g', b)])⟩ :: innX (ps ++ [(g', b)]), ?_, ⟨ps ++ [(g', b)], c' + 1, z + b.length + 3, by simpa using hR', ?_⟩, ?_⟩
        · rw [ixm_succ, outsL_snoc _ _ (by simp), innX_snoc]
          simp only [WkH_cons]
          exact ⟨WkB_refl _, WkH_app (by simp [bblk])⟩
        · simp
        · omega
      · rw [if_neg (fun h => h4 h.2.2.2)] at hfm
        simp [h4, bodyA, ressA]
        exact done ps g z c hR hfm
    · have hfm : firstB (d.drop z) = none := by rw [List.drop_eq_nil_of_le (by omega)]; rfl
      simp [hlt, bodyA, ressA]
      exact done ps g z c hR hfm
end Go.Proofs.Ytcfkmdapadejmaa
