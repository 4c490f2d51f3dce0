/-
  Frames on a disk, read whole: the model's answer; the program's reading.
-/
import Derived.Test.YtcfkmdapadejmaaF3
namespace Go.Proofs.Ytcfkmdapadejmaa
set_option maxRecDepth 100000
set_option linter.unusedSimpArgs false
set_option linter.unusedVariables false
set_option linter.unnecessarySimpa false
open Go Go.Abs Go.Proofs
set_option maxRecDepth 100000 in
theorem c_sReadFramesX (d : List UInt8) (hd : d.length ≤ 4000) : FCall Try.prog 17 [blist d] (NestPost (readF d).1 (frAV (readF d).2)) := by
  have hd' : ¬ (4000 : Int) < d.length := by omega
  refine fcall_gather (1 :: (List.range' 2 (readF d).1.length)) (fun j => j - 1) fun clk => acall_of_aw Try.func17 rfl ?_
  have done : ∀ (X : ABlk) (ps : List BB) (g c : Nat), ps.map (·.2) = (readF d).1 →
      GPost (1 :: (List.range' 2 (readF d).1.length)) (fun j => j - 1) (NestPost (readF d).1 (frAV (readF d).2)) (frAV (readF d).2 (.own 1 g 0 ps.length)) (some X :: some ⟨g, 22, 1, outsL (List.range' 2 ps.length) ps⟩ :: ps.map fun p => some (bblk p)) c := by
    intro X ps g c hps
    have hl : (readF d).1.length = ps.length := by rw [← hps, List.length_map]
    rw [hl]
    refine gather_nest (ps := ps) (g := g) (by simp) rfl ?_ ?_ ?_ ?_ rfl ?_ ?_
    · rw [List.length_range', ← List.map_add_range' (a := 1) (s := 1) (n := ps.length) (step := 1), List.map_map]
      simp [Function.comp_def]
    · simp [sig]
    · simp
    · rw [List.nodup_cons]
      exact ⟨by simp [List.mem_range'_1], List.nodup_range'⟩
    · intro k i p hk hp
      have hkl := (List.getElem?_eq_some_iff.1 hk).1
      rw [List.getElem?_eq_getElem hkl] at hk
      simp at hk
      subst hk
      rw [show 2 + k = k + 1 + 1 by omega, List.getElem?_cons_succ, List.getElem?_cons_succ, List.getElem?_map, hp]; rfl
    · exact ⟨g, ps, hps, by rw [hl]; simp, rfl⟩
  generalize hQ : GPost (1 :: (List.range' 2 (readF d).1.length)) (fun j => j - 1) (NestPost (readF d).1 (frAV (readF d).2)) = Q at done ⊢
  simp [hd']
  refine acall_pure (c_l1FramesX d hd) (by simp) ?_
  rintro r Hn c ⟨g, ps, hps, rfl, rfl⟩ _
  have hl : (readF d).1.length = ps.length := by rw [← hps, List.length_map]
  simp
  have := done ⟨clk, 37, 3, [nc 0, .own 1 g 0 ps.length, nc (readF d).2]⟩ ps g c hps
  rw [← hl] at this ⊢
  exact this
theorem c_sReadFramesM' (d : List UInt8) (hd : 4000 < d.length) : FCall Try.prog 17 [blist d] fun r H => r = .agg [nc 2, .d .nil, nc 0] ∧ H = [] := c_sReadFramesM d hd
def ixr (n : Nat) : List Nat := (List.range n).map fun i => 2 * i + 5
theorem ixr_succ (n : Nat) : ixr (n + 1) = ixr n ++ [2 * n + 5] := by simp [ixr, List.range_succ]
@[simp] theorem ixr_len (n : Nat) : (ixr n).length = n := by simp [ixr]
def tauI (j : Nat) : Nat := if j = 4 then 0 else if j = 2 then 1 else (j - 1) / 2
theorem ixr_tau (n : Nat) : (2 :: ixr n).map tauI = List.range' 1 (n + 1) := by
  induction n with
  | zero => rfl
  | succ n ih =>
    rw [ixr_succ, ← List.cons_append, List.map_append, ih]
    conv => rhs; rw [List.range'_concat]
    congr 1
    show [tauI (2 * n + 5)] = _
    rw [tauI, if_neg (by omega), if_neg (by omega)]
    congr 1; omega
theorem ixr_nodup (n : Nat) : (4 :: 2 :: ixr n).Nodup := by
  rw [List.nodup_cons, List.nodup_cons]
  refine ⟨by simp [ixr], by simp [ixr], ?_⟩
  rw [ixr, List.Nodup, List.pairwise_map]
  exact (List.nodup_range (n := n)).imp (fun h e => h (by omega))
theorem ixr_at {n k i : Nat} (h : (ixr n)[k]? = some i) : i = 2 * k + 5 := by
  rw [ixr, List.getElem?_map] at h
  cases hk : (List.range n)[k]? with
  | none => simp [hk] at h
  | some j => simp [hk] at h; rw [List.getElem?_eq_some_iff] at hk; obtain ⟨h1, h2⟩ := hk; simp at h2; omega
def rfHeap (X Y : ABlk) (g : Nat) (p0 : BB) (rest : List BB) : AHeap := some X :: some Y :: some (bblk p0) :: none :: some ⟨g, 22, 1, outsL (2 :: ixr rest.length) (p0 :: rest)⟩ :: innX rest
def RfX (d : List UInt8) (clk : Nat) (s : ASt) : Prop := ∃ (z c : Nat), 
  ((z = 0 ∧ s = ⟨rfTmps d clk, [some (rfRes clk), some (rfCell clk 0 (.d .nil))], c⟩) ∨
   (∃ p0 rest g, Reads d ((p0 :: rest).map (·.2)) z ∧ s = ⟨rfTmps d clk, rfHeap (rfRes clk) (rfCell clk z (.own 4 g 0 (rest.length + 1))) g p0 rest, c⟩))
set_option maxRecDepth 100000 in
set_option maxHeartbeats 1000000 in
theorem c_ReadFramesX (d : List UInt8) (hd : d.length ≤ 4000) {b0 : List UInt8} (h0 : firstB d = some b0) : FCall Try.prog 16 [blist d] (NestPost (readF d).1 (frAV (readF d).2)) := by
  have hd' : ¬ (4000 : Int) < d.length := by omega
  have hn1 : (readF d).1.length = ((readF d).1.length - 1) + 1 := by rw [readF_step h0]; simp
  refine fcall_gather (4 :: 2 :: ixr ((readF d).1.length - 1)) tauI fun clk => acall_of_aw Try.func16 rfl ?_
  have done : ∀ (X Y : ABlk) (p0 : BB) (rest : List BB) (g z c : Nat), Reads d ((p0 :: rest).map (·.2)) z → firstB (d.drop z) = none →
      GPost (4 :: 2 :: ixr ((readF d).1.length - 1)) tauI (NestPost (readF d).1 (frAV (readF d).2)) (frAV z (.own 4 g 0 (rest.length + 1))) (rfHeap X Y g p0 rest) c := by
    intro X Y p0 rest g z c hR hfm
    rw [reads_end hR hfm]
    simp only [List.length_map, List.length_cons, Nat.add_sub_cancel]
    refine gather_nest (ps := p0 :: rest) (g := g) (is := 2 :: ixr rest.length) (by simp) rfl (by rw [ixr_tau, List.length_cons, ixr_len]) ?_ ?_ (ixr_nodup _) rfl ?_ ?_
    · simp [tauI, sig]
    · simp
    · intro k i p hk hp
      match k with
      | 0 => simp at hk hp; subst hk; subst hp; rfl
      | k + 1 =>
        rw [List.getElem?_cons_succ] at hk hp
        obtain rfl := ixr_at hk
        show (innX rest)[2 * k]? = _
        have := innX_at hp []
        simpa using this
    · exact ⟨g, p0 :: rest, rfl, by simp [tauI], rfl⟩
  generalize hQ : GPost (4 :: 2 :: ixr ((readF d).1.length - 1)) tauI (NestPost (readF d).1 (frAV (readF d).2)) = Q at done ⊢
  simp [hd']
  refine codeOk_loopW [true, false, true, true] (RfX d clk) (fun s => d.length - rfHead s) ?_ ?_
  · refine ⟨[some (rfRes clk), some (rfCell clk 0 (.d .nil))], by simp [rfRes, rfCell], ?_⟩
    simp [rfTmps, rfRes, rfCell]
    exact ⟨0, clk + 2, .inl ⟨rfl, by simp [rfTmps, rfRes, rfCell]⟩⟩
  · rintro s ⟨z, c, ⟨rfl, rfl⟩ | ⟨p0, rest, g, hR, rfl⟩⟩
    · simp [rfTmps, rfRes, rfCell]
      refine acall_pure (c_firstBody d hd) (by simp) ?_
      rintro r Hn c (⟨h1, rfl, rfl⟩ | ⟨b, g, h1, rfl, rfl⟩) _
      · rw [h0] at h1; cases h1
      have hb := firstB_some h1
      have hw := wrap_step0 b.length hb.2.1
      simp
      rw [hw]
      refine ⟨by show 1 ≤ 9223372036854775807; omega, rfHeap (rfRes clk) (rfCell clk (b.length + 3) (.own 4 (c + 1 + 1) 0 1)) (c + 1 + 1) (g, b) [], ?_, ⟨b.length + 3, c + 1 + 2, .inr ⟨(g, b), [], c + 1 + 1, ?_, rfl⟩⟩, ?_⟩
      · simp only [rfHeap, WkH_cons]
        exact ⟨WkB_refl _, WkB_refl _, WkB_refl _, trivial, WkB_refl _, WkH_nil _⟩
      · have := (Reads.nil (d := d)).snoc h1
        simpa using this
      · simp [rfHead, rfCell, rfHeap]
        omega
    · obtain ⟨hz, hn⟩ := hR.size
      simp only [List.map_cons, List.length_cons, List.length_map] at hn
      simp [rfTmps, rfRes, rfCell, rfHeap]
      refine ⟨hz, ?_⟩
      have hl : (d.drop z).length = d.length - z := List.length_drop
      rw [← hl, List.take_length]
      refine acall_pure (c_firstBody (d.drop z) (by omega)) (by simp) ?_
      rintro r Hn c (⟨h1, rfl, rfl⟩ | ⟨b, g', h1, rfl, rfl⟩) _
      · simp [bodyA, ressA]
        exact done _ _ p0 rest g z c hR h1
      · have hb := firstB_some h1
        have hw := wrap_step b.length (z := z) hb.2.1 (by omega)
        simp
        rw [hw]
        have htk : (outsL (2 :: ixr rest.length) (p0 :: rest)).take (rest.length + 1) = outsL (2 :: ixr rest.length) (p0 :: rest) := List.take_of_length_le (by simp)
        rw [htk]
        refine ⟨⟨by omega, by show rest.length + 1 + 1 ≤ 9223372036854775807; omega⟩, rfHeap (rfRes clk) (rfCell clk (z + b.length + 3) (.own 4 (c + 1) 0 ((rest ++ [(g', b)]).length + 1))) (c + 1) p0 (rest ++ [(g', b)]), ?_, ⟨z + b.length + 3, c + 1 + 1, .inr ⟨p0, rest ++ [(g', b)], c + 1, by have := hR.snoc h1; simpa using this, rfl⟩⟩, ?_⟩
        · have e1 : outsL (2 :: ixr (rest ++ [(g', b)]).length) (p0 :: (rest ++ [(g', b)])) = outsL (2 :: ixr rest.length) (p0 :: rest) ++ [.own (2 * rest.length + 5) g' 0 b.length] := by
            rw [List.length_append, List.length_cons, List.length_nil, ixr_succ, ← List.cons_append, ← List.cons_append, outsL_snoc _ _ (by simp)]
          rw [rfHeap, e1, innX_snoc]
          simp only [WkH_cons]
          exact ⟨WkB_refl _, by simp [rfCell], WkB_refl _, trivial, WkB_refl _, WkH_app (by simp [bblk])⟩
        · simp [rfHead, rfCell, rfHeap]
          omega
end Go.Proofs.Ytcfkmdapadejmaa
