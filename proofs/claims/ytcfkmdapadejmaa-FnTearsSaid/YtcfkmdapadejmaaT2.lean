/-
  What the laws of frames draw: disks.
-/
import Derived.Test.YtcfkmdapadejmaaT1
import Derived.Test.YtcfkmdapadejmaaW14
import Derived.Test.YtcfkmdapadejmaaK5
namespace Go.Proofs.Ytcfkmdapadejmaa
set_option maxRecDepth 100000
set_option linter.unusedSimpArgs false
set_option linter.unusedVariables false
set_option linter.unnecessarySimpa false
open Go Go.Abs Go.Proofs
def ldTmps (g g3 n : Nat) (k : AV) : List AV := [.one (.ptr 0 g 0), unknown, unknown, .one (.own 1 g3 0 n), k] ++ List.replicate 66 unknown
def ldHeap (code : List UInt8) (g q g3 : Nat) (bs : List UInt8) : AHeap := [some (srcB g code q), some ⟨g3, 5, 1, bcs bs⟩]
def LdI (code : List UInt8) (g p : Nat) (s : ASt) : Prop := ∃ (k q g3 c : Nat) (bs : List UInt8), k ≤ 4 ∧ bs.length ≤ 20 * (4 - k) ∧ q ≤ p + 1 + 20 * (4 - k) ∧ s = ⟨ldTmps g g3 bs.length (iv .i64 k), ldHeap code g q g3 bs, c⟩
def lpTmps (g g3 n : Nat) (x : AV) : List AV := [.one (.ptr 0 g 0), unknown, unknown, .one (.own 1 g3 0 n), unknown, x] ++ List.replicate 65 unknown
def LpI (code : List UInt8) (g q m : Nat) (s : ASt) : Prop := ∃ (n g3 c : Nat) (bs : List UInt8), n ≤ bs.length ∧ bs.length ≤ 5000 ∧ s = ⟨lpTmps g g3 n (iv .i64 m), ldHeap code g q g3 bs, c⟩
theorem ld_end {code : List UInt8} {g p q g3 n c : Nat} {bs : List UInt8} {R : AHeap} (h1 : n ≤ bs.length) (h2 : bs.length ≤ 5000) (h3 : q ≤ p + 1000) :
    GPostR [0, 1] id (fun r H => ∃ B' Hn, H = some B' :: Hn ∧ ∃ (g2 n q : Nat) (bs : List UInt8), n ≤ bs.length ∧ bs.length ≤ 5000 ∧ q ≤ p + 1000 ∧ r = .one (.own 1 g2 0 n) ∧ B' = srcB g code q ∧ Hn = [some ⟨g2, 5, 1, bcs bs⟩])
      (.one (.own 1 g3 0 n)) (some (srcB g code q) :: some ⟨g3, 5, 1, bcs bs⟩ :: R) c := by
  refine ⟨rfl, ?_, by decide, srcB g code q, [some ⟨g3, 5, 1, bcs bs⟩], ?_, g3, n, q, bs, h1, h2, h3, rfl, rfl, rfl⟩
  · intro i hi
    simp at hi
    rcases hi with rfl | rfl
    · exact ⟨_, rfl, by rw [srcB_ren, srcB_ren]⟩
    · exact ⟨_, rfl, by simp⟩
  · show [some ((srcB g code q).ren id), some (ABlk.ren id ⟨g3, 5, 1, bcs bs⟩)] = _
    rw [srcB_ren]
    simp
set_option maxRecDepth 100000 in
set_option maxHeartbeats 1000000 in
theorem c_l1Disk (code : List UInt8) (g p : Nat) (hc : code.length ≤ 1048576) (hp : p ≤ 1000000) :
    RCall Try.prog 27 [.one (.ptr 0 g 0)] (srcB g code p) fun r B Hn => ∃ (g2 n q : Nat) (bs : List UInt8), n ≤ bs.length ∧ bs.length ≤ 5000 ∧ q ≤ p + 1000 ∧ r = .one (.own 1 g2 0 n) ∧ B = srcB g code q ∧ Hn = [some ⟨g2, 5, 1, bcs bs⟩] := by
  refine rcall_gather [1] id fun clk => acall_of_aw Try.func27 rfl ?_
  simp
  refine acall_ref (k := 0) (c_l1Next code g p 5 hc (by omega) (by omega)) (by simp) (by simp [srcB]) ?_
  rintro r B Hn c ⟨⟨v, rfl, hv, _⟩, rfl, rfl⟩ _
  have hv5 := hv (by omega)
  clear hv
  simp
  refine codeOk_loopW [true, false, false, true, true] (LdI code g p) (fun s => match s.tmps.getD 4 unknown with | .one (.d (.s (.int _ i))) => i.toNat | _ => 0) ?_ ?_
  · refine ⟨ldHeap code g (p + 1) clk [], by simp [ldHeap, srcB], ?_⟩
    refine ⟨v, p + 1, clk, c, [], by omega, by simp, by omega, ?_⟩
    simp [ldTmps, ldHeap]
  · rintro s ⟨k, q, g3, c, bs, hk, hbs, hq, rfl⟩
    simp [ldTmps, ldHeap]
    by_cases hk0 : k = 0
    · subst hk0
      simp
      refine acall_ref (k := 0) (c_l1Next code g q 4 hc (by omega) (by omega)) (by simp) (by simp [srcB]) ?_
      rintro r B Hn c ⟨⟨v, rfl, hv, _⟩, rfl, rfl⟩ _
      have hv4 := hv (by omega)
      clear hv
      by_cases e0 : v = 0
      · subst e0
        simp
        refine acall_ref (k := 0) (c_l1Next code g (q + 1) 6 hc (by omega) (by omega)) (by simp) (by simp [srcB]) ?_
        rintro r B Hn c ⟨⟨v, rfl, hv, _⟩, rfl, rfl⟩ _
        have hv6 := hv (by omega)
        clear hv
        simp
        refine acall_ref (k := 0) (c_l1Some code g (q + 1 + 1) v hc (by omega) (by omega)) (by simp) (by simp [srcB]) ?_
        rintro r B Hn c6 ⟨g4, b, hb, rfl, rfl, rfl⟩ _
        subst hb
        simp
        refine ⟨⟨by omega, by show bs.length + b.length ≤ 9223372036854775807; omega⟩, ?_⟩
        refine acall_ref (k := 0) (c_l1Chance code g (q + 1 + 1 + b.length) 30 hc (by omega) (by omega)) (by simp) (by simp [srcB]) ?_
        rintro r B Hn c ⟨⟨b9, rfl⟩, rfl, rfl⟩ _
        cases b9 with
        | false =>
          simp [bodyA, ressA]
          exact ld_end (p := p) (q := q + 1 + 1 + b.length + 1) (bs := bs ++ b) (by first | omega | (simp <;> omega)) (by first | omega | (simp <;> omega)) (by first | omega | (simp <;> omega))
        | true =>
          simp
          refine acall_give 3 (dargs := [.one (.ptr 0 g 0), .one (.d (.list 3 (ids [3990, 4000, 4001])))]) (by simp [giveV, giveC, AC.dc?, ids]) ?_
          refine acall_ref (k := 0) (c_l1Pick code g (q + 1 + 1 + b.length + 1) [3990, 4000, 4001] hc (by omega) (by simp) (by simp)) (by simp) (by simp [srcB]) ?_
          rintro r B Hn c ⟨⟨x, hx, rfl⟩, rfl, rfl⟩ _
          obtain ⟨m, rfl, hm⟩ : ∃ m : Nat, x = m ∧ m ≤ 4001 := ⟨x.toNat, by simp at hx; omega, by simp at hx; omega⟩
          clear hx
          simp
          refine codeOk_loopW [true, false, false, true, false, true] (LpI code g (q + 1 + 1 + b.length + 1 + 1) m) (fun s => match s.tmps.getD 3 unknown with | .one (.own _ _ _ i) => m - i | _ => 0) ?_ ?_
          · refine ⟨ldHeap code g (q + 1 + 1 + b.length + 1 + 1) c6 (bs ++ b), by simp [ldHeap, srcB], ?_⟩
            refine ⟨bs.length + b.length, c6, c, bs ++ b, by first | omega | (simp <;> omega), by first | omega | (simp <;> omega), ?_⟩
            simp [lpTmps, ldHeap]
          · rintro s ⟨n, g9, c, bs9, hn9, hb9, rfl⟩
            simp [lpTmps, ldHeap]
            by_cases hlt : n < m
            · have hlt' : (n : Int) < m := by omega
              have hle : ¬ m ≤ n := by omega
              simp [hlt, hlt', hle]
              refine ⟨⟨hn9, by omega, by show n + 1 ≤ 9223372036854775807; omega⟩, ldHeap code g (q + 1 + 1 + b.length + 1 + 1) (c + 1) (bs9.take n ++ [0]), ?_, ⟨n + 1, c + 1, c + 1 + 1, bs9.take n ++ [0], by simp; omega, by simp; omega, ?_⟩, by omega⟩
              · simp [ldHeap, bcs]
                exact WkB_refl _
              · simp [lpTmps, ldHeap]
            · have hlt' : ¬ (n : Int) < m := by omega
              simp [hlt, hlt', bodyA, ressA]
              exact fun _ => ld_end (p := p) (q := q + 1 + 1 + b.length + 1 + 1) (bs := bs9) (by omega) (by omega) (by first | omega | (simp <;> omega))
      by_cases e1 : v = 1
      · subst e1
        simp
        by_cases hne : bs = []
        · subst hne
          simp
          refine acall_ref (k := 0) (c_l1Chance code g (q + 1) 30 hc (by omega) (by omega)) (by simp) (by simp [srcB]) ?_
          rintro r B Hn c ⟨⟨b9, rfl⟩, rfl, rfl⟩ _
          cases b9 with
          | false =>
            simp [bodyA, ressA]
            exact ld_end (p := p) (q := q + 1 + 1) (bs := []) (by first | omega | (simp <;> omega)) (by first | omega | (simp <;> omega)) (by first | omega | (simp <;> omega))
          | true =>
            simp
            refine acall_give 2 (dargs := [.one (.ptr 0 g 0), .one (.d (.list 3 (ids [3990, 4000, 4001])))]) (by simp [giveV, giveC, AC.dc?, ids]) ?_
            refine acall_ref (k := 0) (c_l1Pick code g (q + 1 + 1) [3990, 4000, 4001] hc (by omega) (by simp) (by simp)) (by simp) (by simp [srcB]) ?_
            rintro r B Hn c ⟨⟨x, hx, rfl⟩, rfl, rfl⟩ _
            obtain ⟨m, rfl, hm⟩ : ∃ m : Nat, x = m ∧ m ≤ 4001 := ⟨x.toNat, by simp at hx; omega, by simp at hx; omega⟩
            clear hx
            simp
            refine codeOk_loopW [true, false, false, true, false, true] (LpI code g (q + 1 + 1 + 1) m) (fun s => match s.tmps.getD 3 unknown with | .one (.own _ _ _ i) => m - i | _ => 0) ?_ ?_
            · refine ⟨ldHeap code g (q + 1 + 1 + 1) g3 ([]), by simp [ldHeap, srcB], ?_⟩
              refine ⟨0, g3, c, [], by first | omega | (simp <;> omega), by first | omega | (simp <;> omega), ?_⟩
              simp [lpTmps, ldHeap]
            · rintro s ⟨n, g9, c, bs9, hn9, hb9, rfl⟩
              simp [lpTmps, ldHeap]
              by_cases hlt : n < m
              · have hlt' : (n : Int) < m := by omega
                have hle : ¬ m ≤ n := by omega
                simp [hlt, hlt', hle]
                refine ⟨⟨hn9, by omega, by show n + 1 ≤ 9223372036854775807; omega⟩, ldHeap code g (q + 1 + 1 + 1) (c + 1) (bs9.take n ++ [0]), ?_, ⟨n + 1, c + 1, c + 1 + 1, bs9.take n ++ [0], by simp; omega, by simp; omega, ?_⟩, by omega⟩
                · simp [ldHeap, bcs]
                  exact WkB_refl _
                · simp [lpTmps, ldHeap]
              · have hlt' : ¬ (n : Int) < m := by omega
                simp [hlt, hlt', bodyA, ressA]
                exact fun _ => ld_end (p := p) (q := q + 1 + 1 + 1) (bs := bs9) (by omega) (by omega) (by first | omega | (simp <;> omega))
        · have hl0 : 0 < bs.length := List.length_pos_iff.2 hne
          simp [hne, hl0]
          refine codeOk_drawW (.still 0 (.still 1 (.still 2 (.still 7 (.next 3 (.next 4
            (.two 5 (.two 6 (.next 8 (.next 9 (.next 10 (.next 11 (.next 12 (.next 13 .nil)))))) 8 (.still 9 (.still 10 (.next 6 (.next 11 (.next 12 (.next 13 .nil)))))))
              8 (.still 9 (.still 10 (.next 5 (.next 6 (.next 11 (.next 12 (.next 13 .nil))))))))))))))
            mixed rfl (by kernel_rfl) ?_
          simp
          refine acall_ref (k := 0) (c_l1Next code g (q + 1) bs.length hc (by omega) (by omega)) (by simp) (by simp [srcB]) ?_
          rintro r B Hn c ⟨⟨w, rfl, hv, _⟩, rfl, rfl⟩ _
          have hwl := hv hl0
          clear hv
          simp [hwl]
          refine ⟨⟨?_, ?_⟩, ?_⟩
          · refine acall_ref (k := 0) (c_l1Next code g (q + 1 + 1) 255 hc (by omega) (by omega)) (by simp) (by simp [srcB]) ?_
            rintro r B Hn c ⟨⟨u, rfl, hv, _⟩, rfl, rfl⟩ _
            clear hv
            simp [hwl]
            refine ⟨by omega, ?_⟩
            obtain ⟨b2, hb2⟩ := u8_some (bs[w].toNat % 2 ^ IntKind.u8.bits ^^^ (IntKind.u8.wrap (IntKind.i64.wrap (1 + (u : Int))) % 2 ^ IntKind.u8.bits).toNat)
            rw [hb2, bcs_set]
            refine acall_ref (k := 0) (c_l1Chance code g (q + 1 + 1 + 1) 30 hc (by omega) (by omega)) (by simp) (by simp [srcB]) ?_
            rintro r B Hn c ⟨⟨b9, rfl⟩, rfl, rfl⟩ _
            cases b9 with
            | false =>
              simp [bodyA, ressA]
              exact ld_end (p := p) (q := q + 1 + 1 + 1 + 1) (bs := bs.set w b2) (by first | omega | (simp <;> omega)) (by first | omega | (simp <;> omega)) (by first | omega | (simp <;> omega))
            | true =>
              simp
              refine acall_give 2 (dargs := [.one (.ptr 0 g 0), .one (.d (.list 3 (ids [3990, 4000, 4001])))]) (by simp [giveV, giveC, AC.dc?, ids]) ?_
              refine acall_ref (k := 0) (c_l1Pick code g (q + 1 + 1 + 1 + 1) [3990, 4000, 4001] hc (by omega) (by simp) (by simp)) (by simp) (by simp [srcB]) ?_
              rintro r B Hn c ⟨⟨x, hx, rfl⟩, rfl, rfl⟩ _
              obtain ⟨m, rfl, hm⟩ : ∃ m : Nat, x = m ∧ m ≤ 4001 := ⟨x.toNat, by simp at hx; omega, by simp at hx; omega⟩
              clear hx
              simp
              refine codeOk_loopW [true, false, false, true, false, true] (LpI code g (q + 1 + 1 + 1 + 1 + 1) m) (fun s => match s.tmps.getD 3 unknown with | .one (.own _ _ _ i) => m - i | _ => 0) ?_ ?_
              · refine ⟨ldHeap code g (q + 1 + 1 + 1 + 1 + 1) g3 (bs.set w b2), by simp [ldHeap, srcB], ?_⟩
                refine ⟨bs.length, g3, c, bs.set w b2, by first | omega | (simp <;> omega), by first | omega | (simp <;> omega), ?_⟩
                simp [lpTmps, ldHeap]
              · rintro s ⟨n, g9, c, bs9, hn9, hb9, rfl⟩
                simp [lpTmps, ldHeap]
                by_cases hlt : n < m
                · have hlt' : (n : Int) < m := by omega
                  have hle : ¬ m ≤ n := by omega
                  simp [hlt, hlt', hle]
                  refine ⟨⟨hn9, by omega, by show n + 1 ≤ 9223372036854775807; omega⟩, ldHeap code g (q + 1 + 1 + 1 + 1 + 1) (c + 1) (bs9.take n ++ [0]), ?_, ⟨n + 1, c + 1, c + 1 + 1, bs9.take n ++ [0], by simp; omega, by simp; omega, ?_⟩, by omega⟩
                  · simp [ldHeap, bcs]
                    exact WkB_refl _
                  · simp [lpTmps, ldHeap]
                · have hlt' : ¬ (n : Int) < m := by omega
                  simp [hlt, hlt', bodyA, ressA]
                  exact fun _ => ld_end (p := p) (q := q + 1 + 1 + 1 + 1 + 1) (bs := bs9) (by omega) (by omega) (by first | omega | (simp <;> omega))
          · refine acall_ref (k := 0) (c_l1Next code g (q + 1 + 1) 255 hc (by omega) (by omega)) (by simp) (by simp [srcB]) ?_
            rintro r B Hn c ⟨⟨u, rfl, hv, _⟩, rfl, rfl⟩ _
            clear hv
            simp [hwl]
            refine ⟨by omega, ?_⟩
            obtain ⟨b2, hb2⟩ := u8_some (bs[w].toNat % 2 ^ IntKind.u8.bits ^^^ (IntKind.u8.wrap (IntKind.i64.wrap (1 + (u : Int))) % 2 ^ IntKind.u8.bits).toNat)
            rw [hb2, bcs_set]
            refine acall_ref (k := 0) (c_l1Chance code g (q + 1 + 1 + 1) 30 hc (by omega) (by omega)) (by simp) (by simp [srcB]) ?_
            rintro r B Hn c ⟨⟨b9, rfl⟩, rfl, rfl⟩ _
            cases b9 with
            | false =>
              simp [bodyA, ressA]
              exact ld_end (p := p) (q := q + 1 + 1 + 1 + 1) (bs := bs.set w b2) (by first | omega | (simp <;> omega)) (by first | omega | (simp <;> omega)) (by first | omega | (simp <;> omega))
            | true =>
              simp
              refine acall_give 2 (dargs := [.one (.ptr 0 g 0), .one (.d (.list 3 (ids [3990, 4000, 4001])))]) (by simp [giveV, giveC, AC.dc?, ids]) ?_
              refine acall_ref (k := 0) (c_l1Pick code g (q + 1 + 1 + 1 + 1) [3990, 4000, 4001] hc (by omega) (by simp) (by simp)) (by simp) (by simp [srcB]) ?_
              rintro r B Hn c ⟨⟨x, hx, rfl⟩, rfl, rfl⟩ _
              obtain ⟨m, rfl, hm⟩ : ∃ m : Nat, x = m ∧ m ≤ 4001 := ⟨x.toNat, by simp at hx; omega, by simp at hx; omega⟩
              clear hx
              simp
              refine codeOk_loopW [true, false, false, true, false, true] (LpI code g (q + 1 + 1 + 1 + 1 + 1) m) (fun s => match s.tmps.getD 3 unknown with | .one (.own _ _ _ i) => m - i | _ => 0) ?_ ?_
              · refine ⟨ldHeap code g (q + 1 + 1 + 1 + 1 + 1) g3 (bs.set w b2), by simp [ldHeap, srcB], ?_⟩
                refine ⟨bs.length, g3, c, bs.set w b2, by first | omega | (simp <;> omega), by first | omega | (simp <;> omega), ?_⟩
                simp [lpTmps, ldHeap]
              · rintro s ⟨n, g9, c, bs9, hn9, hb9, rfl⟩
                simp [lpTmps, ldHeap]
                by_cases hlt : n < m
                · have hlt' : (n : Int) < m := by omega
                  have hle : ¬ m ≤ n := by omega
                  simp [hlt, hlt', hle]
                  refine ⟨⟨hn9, by omega, by show n + 1 ≤ 9223372036854775807; omega⟩, ldHeap code g (q + 1 + 1 + 1 + 1 + 1) (c + 1) (bs9.take n ++ [0]), ?_, ⟨n + 1, c + 1, c + 1 + 1, bs9.take n ++ [0], by simp; omega, by simp; omega, ?_⟩, by omega⟩
                  · simp [ldHeap, bcs]
                    exact WkB_refl _
                  · simp [lpTmps, ldHeap]
                · have hlt' : ¬ (n : Int) < m := by omega
                  simp [hlt, hlt', bodyA, ressA]
                  exact fun _ => ld_end (p := p) (q := q + 1 + 1 + 1 + 1 + 1) (bs := bs9) (by omega) (by omega) (by first | omega | (simp <;> omega))
          · refine acall_ref (k := 0) (c_l1Next code g (q + 1 + 1) 255 hc (by omega) (by omega)) (by simp) (by simp [srcB]) ?_
            rintro r B Hn c ⟨⟨u, rfl, hv, _⟩, rfl, rfl⟩ _
            clear hv
            simp [hwl]
            refine ⟨by omega, ?_⟩
            obtain ⟨b2, hb2⟩ := u8_some (bs[w].toNat % 2 ^ IntKind.u8.bits ^^^ (IntKind.u8.wrap (IntKind.i64.wrap (1 + (u : Int))) % 2 ^ IntKind.u8.bits).toNat)
            rw [hb2, bcs_set]
            refine acall_ref (k := 0) (c_l1Chance code g (q + 1 + 1 + 1) 30 hc (by omega) (by omega)) (by simp) (by simp [srcB]) ?_
            rintro r B Hn c ⟨⟨b9, rfl⟩, rfl, rfl⟩ _
            cases b9 with
            | false =>
              simp [bodyA, ressA]
              exact ld_end (p := p) (q := q + 1 + 1 + 1 + 1) (bs := bs.set w b2) (by first | omega | (simp <;> omega)) (by first | omega | (simp <;> omega)) (by first | omega | (simp <;> omega))
            | true =>
              simp
              refine acall_give 2 (dargs := [.one (.ptr 0 g 0), .one (.d (.list 3 (ids [3990, 4000, 4001])))]) (by simp [giveV, giveC, AC.dc?, ids]) ?_
              refine acall_ref (k := 0) (c_l1Pick code g (q + 1 + 1 + 1 + 1) [3990, 4000, 4001] hc (by omega) (by simp) (by simp)) (by simp) (by simp [srcB]) ?_
              rintro r B Hn c ⟨⟨x, hx, rfl⟩, rfl, rfl⟩ _
              obtain ⟨m, rfl, hm⟩ : ∃ m : Nat, x = m ∧ m ≤ 4001 := ⟨x.toNat, by simp at hx; omega, by simp at hx; omega⟩
              clear hx
              simp
              refine codeOk_loopW [true, false, false, true, false, true] (LpI code g (q + 1 + 1 + 1 + 1 + 1) m) (fun s => match s.tmps.getD 3 unknown with | .one (.own _ _ _ i) => m - i | _ => 0) ?_ ?_
              · refine ⟨ldHeap code g (q + 1 + 1 + 1 + 1 + 1) g3 (bs.set w b2), by simp [ldHeap, srcB], ?_⟩
                refine ⟨bs.length, g3, c, bs.set w b2, by first | omega | (simp <;> omega), by first | omega | (simp <;> omega), ?_⟩
                simp [lpTmps, ldHeap]
              · rintro s ⟨n, g9, c, bs9, hn9, hb9, rfl⟩
                simp [lpTmps, ldHeap]
                by_cases hlt : n < m
                · have hlt' : (n : Int) < m := by omega
                  have hle : ¬ m ≤ n := by omega
                  simp [hlt, hlt', hle]
                  refine ⟨⟨hn9, by omega, by show n + 1 ≤ 9223372036854775807; omega⟩, ldHeap code g (q + 1 + 1 + 1 + 1 + 1) (c + 1) (bs9.take n ++ [0]), ?_, ⟨n + 1, c + 1, c + 1 + 1, bs9.take n ++ [0], by simp; omega, by simp; omega, ?_⟩, by omega⟩
                  · simp [ldHeap, bcs]
                    exact WkB_refl _
                  · simp [lpTmps, ldHeap]
                · have hlt' : ¬ (n : Int) < m := by omega
                  simp [hlt, hlt', bodyA, ressA]
                  exact fun _ => ld_end (p := p) (q := q + 1 + 1 + 1 + 1 + 1) (bs := bs9) (by omega) (by omega) (by first | omega | (simp <;> omega))
      by_cases e2 : v = 2
      · subst e2
        simp
        rw [show IntKind.i64.wrap ((bs.length : Int) + 1) = ((bs.length + 1 : Nat) : Int) by rw [wrap_i64 (by omega) (by omega)]; omega]
        refine acall_ref (k := 0) (c_l1Next code g (q + 1) (bs.length + 1) hc (by omega) (by omega)) (by simp) (by simp [srcB]) ?_
        rintro r B Hn c ⟨⟨u, rfl, hv, _⟩, rfl, rfl⟩ _
        have hul := hv (by omega)
        clear hv
        simp
        refine ⟨by omega, ?_⟩
        refine acall_ref (k := 0) (c_l1Chance code g (q + 1 + 1) 30 hc (by omega) (by omega)) (by simp) (by simp [srcB]) ?_
        rintro r B Hn c ⟨⟨b9, rfl⟩, rfl, rfl⟩ _
        cases b9 with
        | false =>
          simp [bodyA, ressA]
          exact ld_end (p := p) (q := q + 1 + 1 + 1) (bs := bs) (by first | omega | (simp <;> omega)) (by first | omega | (simp <;> omega)) (by first | omega | (simp <;> omega))
        | true =>
          simp
          refine acall_give 2 (dargs := [.one (.ptr 0 g 0), .one (.d (.list 3 (ids [3990, 4000, 4001])))]) (by simp [giveV, giveC, AC.dc?, ids]) ?_
          refine acall_ref (k := 0) (c_l1Pick code g (q + 1 + 1 + 1) [3990, 4000, 4001] hc (by omega) (by simp) (by simp)) (by simp) (by simp [srcB]) ?_
          rintro r B Hn c ⟨⟨x, hx, rfl⟩, rfl, rfl⟩ _
          obtain ⟨m, rfl, hm⟩ : ∃ m : Nat, x = m ∧ m ≤ 4001 := ⟨x.toNat, by simp at hx; omega, by simp at hx; omega⟩
          clear hx
          simp
          refine codeOk_loopW [true, false, false, true, false, true] (LpI code g (q + 1 + 1 + 1 + 1) m) (fun s => match s.tmps.getD 3 unknown with | .one (.own _ _ _ i) => m - i | _ => 0) ?_ ?_
          · refine ⟨ldHeap code g (q + 1 + 1 + 1 + 1) g3 (bs), by simp [ldHeap, srcB], ?_⟩
            refine ⟨u, g3, c, bs, by first | omega | (simp <;> omega), by first | omega | (simp <;> omega), ?_⟩
            simp [lpTmps, ldHeap]
          · rintro s ⟨n, g9, c, bs9, hn9, hb9, rfl⟩
            simp [lpTmps, ldHeap]
            by_cases hlt : n < m
            · have hlt' : (n : Int) < m := by omega
              have hle : ¬ m ≤ n := by omega
              simp [hlt, hlt', hle]
              refine ⟨⟨hn9, by omega, by show n + 1 ≤ 9223372036854775807; omega⟩, ldHeap code g (q + 1 + 1 + 1 + 1) (c + 1) (bs9.take n ++ [0]), ?_, ⟨n + 1, c + 1, c + 1 + 1, bs9.take n ++ [0], by simp; omega, by simp; omega, ?_⟩, by omega⟩
              · simp [ldHeap, bcs]
                exact WkB_refl _
              · simp [lpTmps, ldHeap]
            · have hlt' : ¬ (n : Int) < m := by omega
              simp [hlt, hlt', bodyA, ressA]
              exact fun _ => ld_end (p := p) (q := q + 1 + 1 + 1 + 1) (bs := bs9) (by omega) (by omega) (by first | omega | (simp <;> omega))
      have f0 : ¬ (v : Int) = 0 := by omega
      have f1 : ¬ (v : Int) = 1 := by omega
      have f2 : ¬ (v : Int) = 2 := by omega
      simp [e0, e1, e2, f0, f1, f2]
      refine acall_ref (k := 0) (c_l1Chance code g (q + 1) 30 hc (by omega) (by omega)) (by simp) (by simp [srcB]) ?_
      rintro r B Hn c ⟨⟨b9, rfl⟩, rfl, rfl⟩ _
      cases b9 with
      | false =>
        simp [bodyA, ressA]
        exact ld_end (p := p) (q := q + 1 + 1) (bs := bs) (by first | omega | (simp <;> omega)) (by first | omega | (simp <;> omega)) (by first | omega | (simp <;> omega))
      | true =>
        simp
        refine acall_give 2 (dargs := [.one (.ptr 0 g 0), .one (.d (.list 3 (ids [3990, 4000, 4001])))]) (by simp [giveV, giveC, AC.dc?, ids]) ?_
        refine acall_ref (k := 0) (c_l1Pick code g (q + 1 + 1) [3990, 4000, 4001] hc (by omega) (by simp) (by simp)) (by simp) (by simp [srcB]) ?_
        rintro r B Hn c ⟨⟨x, hx, rfl⟩, rfl, rfl⟩ _
        obtain ⟨m, rfl, hm⟩ : ∃ m : Nat, x = m ∧ m ≤ 4001 := ⟨x.toNat, by simp at hx; omega, by simp at hx; omega⟩
        clear hx
        simp
        refine codeOk_loopW [true, false, false, true, false, true] (LpI code g (q + 1 + 1 + 1) m) (fun s => match s.tmps.getD 3 unknown with | .one (.own _ _ _ i) => m - i | _ => 0) ?_ ?_
        · refine ⟨ldHeap code g (q + 1 + 1 + 1) g3 (bs), by simp [ldHeap, srcB], ?_⟩
          refine ⟨bs.length, g3, c, bs, by first | omega | (simp <;> omega), by first | omega | (simp <;> omega), ?_⟩
          simp [lpTmps, ldHeap]
        · rintro s ⟨n, g9, c, bs9, hn9, hb9, rfl⟩
          simp [lpTmps, ldHeap]
          by_cases hlt : n < m
          · have hlt' : (n : Int) < m := by omega
            have hle : ¬ m ≤ n := by omega
            simp [hlt, hlt', hle]
            refine ⟨⟨hn9, by omega, by show n + 1 ≤ 9223372036854775807; omega⟩, ldHeap code g (q + 1 + 1 + 1) (c + 1) (bs9.take n ++ [0]), ?_, ⟨n + 1, c + 1, c + 1 + 1, bs9.take n ++ [0], by simp; omega, by simp; omega, ?_⟩, by omega⟩
            · simp [ldHeap, bcs]
              exact WkB_refl _
            · simp [lpTmps, ldHeap]
          · have hlt' : ¬ (n : Int) < m := by omega
            simp [hlt, hlt', bodyA, ressA]
            exact fun _ => ld_end (p := p) (q := q + 1 + 1 + 1) (bs := bs9) (by omega) (by omega) (by first | omega | (simp <;> omega))
    · have hk0' : 0 < k := by omega
      have hk1 : (0 : Int) < k := by omega
      have hk2 : ¬ (k : Int) ≤ 0 := by omega
      simp [hk0, hk0', hk1, hk2]
      refine acall_ref (k := 0) (c_l1Next code g q 9 hc (by omega) (by omega)) ?_ ?_ ?_
      · simp
      · simp [srcB]
      rintro r B Hn c ⟨⟨v, rfl, hv, _⟩, rfl, rfl⟩ _
      have hv9 := hv (by omega)
      clear hv
      simp
      have hw : IntKind.i64.wrap (1 + (v : Int)) = ((v + 1 : Nat) : Int) := by rw [wrap_i64 (by omega) (by omega)]; omega
      rw [hw]
      refine acall_ref (k := 0) (c_l1Some code g (q + 1) (v + 1) hc (by omega) (by omega)) (by simp) (by simp [srcB]) ?_
      rintro r B Hn c ⟨g4, b, hb, rfl, rfl, rfl⟩ _
      simp
      rw [← hb]
      refine acall_froze (c_l1Frame b (by omega)) (by simp) ?_
      rintro r Hn ⟨g5, rfl, rfl⟩
      refine ⟨blist (frame b), by simp, ?_⟩
      have hfl := frame_length b
      simp
      have hw2 : IntKind.i64.wrap ((k : Int) - 1) = ((k - 1 : Nat) : Int) := by rw [wrap_i64 (by omega) (by omega)]; omega
      refine ⟨⟨by omega, by show bs.length + (frame b).length ≤ 9223372036854775807; omega⟩, ldHeap code g (q + 1 + b.length) c (bs ++ frame b), ?_, ?_, ?_⟩
      · simp [ldHeap, srcB, bcs]
      · refine ⟨k - 1, q + 1 + b.length, c, c + 1, bs ++ frame b, by omega, by rw [List.length_append]; omega, by omega, ?_⟩
        simp [ldTmps, ldHeap, hw2, sv]
      · rw [hw2]; omega
end Go.Proofs.Ytcfkmdapadejmaa
