/-
  Draws: a number, one of a list, taken wherever the source lies.
  Numbers out of bytes: what the program and the model read.
-/
import Derived.Test.YtiogdfliailenaaQ25
import Derived.Test.YtiogdfliailenaaQ5
import Derived.Test.YtiogdfliailenaaQ1
namespace Go.Proofs.Ytiogdfliailenaa
set_option maxRecDepth 100000
set_option linter.unusedSimpArgs false
set_option linter.unusedVariables false
set_option linter.unnecessarySimpa false
open Go Go.Abs Go.Proofs
theorem all_dc : ∀ ds : List DC, ds.mapM (AC.dc? ∘ AC.d) = some ds
  | [] => rfl
  | d :: ds => by simp [AC.dc?, all_dc ds]
theorem a_l1Next {code : List UInt8} {k g p clk : Nat} {H : AHeap} {K : AV → AHeap → Nat → Prop} (n : Nat) (hc : code.length ≤ 1048576) (hp : p ≤ 1099511627776) (hn : 1 ≤ n ∧ n ≤ 1099511627776)
    (hk : H[k]? = some (some (srcB g code p))) (hK : ∀ v, v < n → ∀ c, clk ≤ c → K (iv .i64 v) (H.set k (some (srcB g code (p + 1)))) c) :
    ACall Try.prog 70 [.one (.ptr k g 0), iv .i64 n] H clk K := by
  refine acall_ref (k := k) (c_l1Next code g p n hc hp hn.2) (by simp) (by rw [srcB_ren]; exact hk) ?_
  rintro r B Hn c ⟨⟨v, rfl, hv, _⟩, rfl, rfl⟩ hc
  rw [srcB_ren]
  simpa [-ABlk.ren] using hK v (hv hn.1) c hc
theorem a_l1Pick {code : List UInt8} {k j g gj n clk e p : Nat} {H : AHeap} {K : AV → AHeap → Nat → Prop} (xs : List Int) (hc : code.length ≤ 1048576) (hp : p ≤ 1099511627776) (hx : 1 ≤ xs.length ∧ xs.length ≤ 1000) (hn : n = xs.length)
    (hk : H[k]? = some (some (srcB g code p))) (hj : H[j]? = some (some ⟨gj, e, 1, (ids xs).map .d⟩)) (hkj : k ≠ j)
    (hK : ∀ x ∈ xs, ∀ c, clk ≤ c → K (iv .i64 x) ((H.set j none).set k (some (srcB g code (p + 1)))) c) :
    ACall Try.prog 47 [.one (.ptr k g 0), .one (.own j gj 0 n)] H clk K := by
  subst hn
  refine acall_give j (dargs := [.one (.ptr k g 0), .one (.d (.list xs.length (ids xs)))]) ?_ ?_
  · have hb : blkAt H j gj = some ⟨gj, e, 1, (ids xs).map .d⟩ := by simp [blkAt, hj]
    have h1 : ((ids xs).map AC.d).take xs.length = (ids xs).map AC.d := List.take_of_length_le (by simp)
    simp only [List.mapM_cons, List.mapM_nil, giveV, giveC, if_true, Option.map_some, Option.bind_eq_bind, Option.bind_some, Option.pure_def, snap1, hb]
    simp [-List.map_take, h1, all_dc]
  · refine acall_ref (k := k) (c_l1Pick code g p xs hc hp hx.1 hx.2) (by simp) (by rw [List.getElem?_set_ne (fun h => hkj h.symm), srcB_ren]; exact hk) ?_
    rintro r B Hn c ⟨⟨x, hx', rfl⟩, rfl, rfl⟩ hc
    rw [srcB_ren]
    simpa [-ABlk.ren] using hK x hx' c hc
/-- Numbers that fit into a write. -/
def ObS (o : Ob) : Prop := (0 ≤ o.kind ∧ o.kind ≤ 255) ∧ (0 ≤ o.id ∧ o.id ≤ 65535) ∧ (0 ≤ o.a ∧ o.a ≤ 65535) ∧ (0 ≤ o.b ∧ o.b ≤ 65535) ∧ (0 ≤ o.c ∧ o.c ≤ 65535) ∧ (0 ≤ o.d ∧ o.d ≤ 65535) ∧ o.rev = 0
theorem podVal_small {k w i : Int} : 0 ≤ podVal k w i ∧ podVal k w i ≤ 65535 := by
  unfold podVal
  split
  · rename_i h
    unfold podCode at h
    split at h
    · rename_i hk
      split at h
      · rename_i hb
        have : podMost k ≤ 23 := by unfold podMost; split <;> omega
        unfold podNum
        omega
      · omega
    · omega
  · omega
set_option maxRecDepth 100000 in
theorem c_l2Draw (code : List UInt8) (g p : Nat) (hc : code.length ≤ 1048576) (hp : p ≤ 1000000) : RCall Try.prog 91 [.one (.ptr 0 g 0)] (srcB g code p) fun r B Hn =>
    (∃ o : Ob, r = o.av ∧ ObS o) ∧ (∃ q, q ≤ p + 5 ∧ B = srcB g code q) ∧ Hn = [] := by
  refine rcall_take fun clk => acall_of_aw Try.func91 rfl ?_
  simp
  refine a_l1Next (code := code) (p := p) 6 hc (by omega) (by omega) (by simp) ?_
  intro v hv c _
  by_cases h0 : v = 0
  · subst h0
    simp
    refine a_l1Pick (code := code) (e := 2) (p := p + 1) [0, 1, 19] hc (by omega) (by simp) rfl (by simp) (by simp [ids]) (by simp) ?_
    intro x hx c _
    simp
    refine a_l1Pick (code := code) (e := 2) (p := p + 2) [0, 1, 3, 8] hc (by omega) (by simp) rfl (by simp) (by simp [ids]) (by simp) ?_
    intro y hy c _
    simp
    refine acall_val (c_sNewSet x y) (by simp) (by simp) ?_
    simp at hx hy
    simp
    exact ⟨⟨mkSet x y, by simp, by simp [ObS, mkSet]; omega⟩, p + 3, by omega, rfl⟩
  by_cases h1 : v = 1
  · subst h1
    simp
    refine a_l1Pick (code := code) (e := 2) (p := p + 1) [0, 1, 19] hc (by omega) (by simp) rfl (by simp) (by simp [ids]) (by simp) ?_
    intro x hx c _
    simp
    refine a_l1Pick (code := code) (e := 2) (p := p + 2) [0, 2, 8] hc (by omega) (by simp) rfl (by simp) (by simp [ids]) (by simp) ?_
    intro y hy c _
    simp
    refine a_l1Pick (code := code) (e := 2) (p := p + 3) [0, 1, 8] hc (by omega) (by simp) rfl (by simp) (by simp [ids]) (by simp) ?_
    intro z hz c _
    simp
    refine acall_val (c_sNewJob x y z) (by simp) (by simp) ?_
    simp at hx hy hz
    simp
    exact ⟨⟨mkJob x y z, by simp, by simp [ObS, mkJob]; omega⟩, p + 4, by omega, rfl⟩
  by_cases h2 : v = 2
  · subst h2
    simp
    refine a_l1Next (code := code) (p := p + 1) 3 hc (by omega) (by omega) (by simp) ?_
    intro x hx c _
    simp
    refine a_l1Pick (code := code) (e := 2) (p := p + 2) [1, 2, 9999] hc (by omega) (by simp) rfl (by simp) (by simp [ids]) (by simp) ?_
    intro y hy c _
    simp
    refine acall_val (c_sNewLease x y) (by simp) (by simp) ?_
    simp at hy
    simp
    exact ⟨⟨mkLease x y, by simp, by simp [ObS, mkLease]; omega⟩, p + 3, by omega, rfl⟩
  have e0 : ¬ (v : Int) = 0 := by omega
  have e1 : ¬ (v : Int) = 1 := by omega
  have e2 : ¬ (v : Int) = 2 := by omega
  simp [h0, h1, h2, e0, e1, e2]
  refine a_l1Pick (code := code) (e := 2) (p := p + 1) [1, 1, 2] hc (by omega) (by simp) rfl (by simp) (by simp [ids]) (by simp) ?_
  intro x hx c _
  simp
  refine a_l1Pick (code := code) (e := 2) (p := p + 2) [0, 1, 19] hc (by omega) (by simp) rfl (by simp) (by simp [ids]) (by simp) ?_
  intro y hy c _
  simp
  refine a_l1Pick (code := code) (e := 2) (p := p + 3) [0, 1, 4, 15] hc (by omega) (by simp) rfl (by simp) (by simp [ids]) (by simp) ?_
  intro z hz c _
  simp
  refine acall_val (c_sNewPod x y z) (by simp) (by simp) ?_
  simp
  refine a_l1Pick (code := code) (e := 2) (p := p + 4) [0, 0, 1, 2] hc (by omega) (by simp) rfl (by simp) (by simp [ids]) (by simp) ?_
  intro u hu c _
  simp
  simp at hx hy hz hu
  have hpv := podVal_small (k := x) (w := y) (i := z)
  exact ⟨⟨⟨3, podVal x y z, x, y, z, u, 0⟩, by simp, by simp [ObS]; omega⟩, p + 5, by omega, rfl⟩
end Go.Proofs.Ytiogdfliailenaa
namespace Go.Proofs.Ytiogdfliailenaa
set_option maxRecDepth 100000
set_option linter.unusedSimpArgs false
set_option linter.unusedVariables false
set_option linter.unnecessarySimpa false
open Go Go.Abs Go.Proofs

def rdN (l : List UInt8) : Nat := l.foldl (fun n b => n * 256 + b.toNat) 0
theorem rdN_snoc (l : List UInt8) (b : UInt8) : rdN (l ++ [b]) = rdN l * 256 + b.toNat := by simp [rdN]
theorem rdN_lt (l : List UInt8) : rdN l < 256 ^ l.length := by
  suffices ∀ r : List UInt8, rdN r.reverse < 256 ^ r.length by simpa using this l.reverse
  intro r
  induction r with
  | nil => simp [rdN]
  | cons b r ih =>
    rw [List.reverse_cons, rdN_snoc, List.length_cons, Nat.pow_succ]
    have := b.toNat_lt
    omega

/-- The number in the first i bytes from a place on. -/
def IsRd (v : Nat) (bs : List UInt8) (at_ i : Nat) : Prop := v = rdN ((bs.drop at_).take i)
theorem IsRd.zero (bs : List UInt8) (p : Nat) : IsRd 0 bs p 0 := by simp [IsRd, rdN]
theorem IsRd.next {v : Nat} {bs : List UInt8} {p i : Nat} (h : IsRd v bs p i) (hi : p + i < bs.length) : IsRd (v * 256 + bs[p + i].toNat) bs p (i + 1) := by
  unfold IsRd at *
  rw [List.take_succ_eq_append_getElem (by simp; omega), rdN_snoc, ← h]
  simp
theorem IsRd.lt {v : Nat} {bs : List UInt8} {p i : Nat} (h : IsRd v bs p i) (hi : i ≤ 6) : v < 281474976710656 := by
  unfold IsRd at h
  have h1 := rdN_lt ((bs.drop p).take i)
  have h2 : ((bs.drop p).take i).length ≤ 6 := by rw [List.length_take]; omega
  have h3 : 256 ^ ((bs.drop p).take i).length ≤ 256 ^ 6 := Nat.pow_le_pow_right (by omega) h2
  have h4 : 256 ^ 6 = 281474976710656 := by decide
  omega


/-- What ReadWord tells: a code, and the number. -/
def rwOk (bs : List UInt8) (p k : Int) : Prop := (1 ≤ k ∧ k ≤ 6) ∧ 0 ≤ p ∧ p ≤ (bs.length : Int) - k
def RWPost (bs : List UInt8) (p k : Int) (r : AV) (H : AHeap) : Prop :=
  ((rwOk bs p k ∧ r = .agg [.d (.s (.int .i64 0)), .d (.s (.int .i64 ((rdN ((bs.drop p.toNat).take k.toNat) : Nat) : Int)))]) ∨ (¬ rwOk bs p k ∧ r = .agg [.d (.s (.int .i64 3)), .d (.s (.int .i64 0))])) ∧ H = []


theorem or_byte (n b : Nat) (hb : b < 256) : n * 256 ||| b = n * 256 + b := by
  have := Nat.two_pow_add_eq_or_of_lt (i := 8) (b := b) (by omega) n
  have e : 2 ^ 8 * n = n * 256 := by omega
  rw [e] at this
  exact this.symm
theorem i64_bits : IntKind.i64.bits = 64 := rfl
theorem or_step (v : Nat) (b : Nat) (hv : v < 281474976710656) (hb : b < 256) :
    IntKind.i64.wrap ((((IntKind.i64.wrap ((v : Int) * 2 ^ min 8 IntKind.i64.bits) % 2 ^ IntKind.i64.bits).toNat ||| b % 2 ^ IntKind.i64.bits) : Nat) : Int) = ((v * 256 + b : Nat) : Int) := by
  have h1 : IntKind.i64.wrap ((v : Int) * 2 ^ min 8 IntKind.i64.bits) = ((v * 256 : Nat) : Int) := by
    have e : (v : Int) * 2 ^ min 8 IntKind.i64.bits = v * 256 := rfl
    rw [e, wrap_i64 (by omega) (by omega)]; omega
  have h2 : (((v * 256 : Nat) : Int) % 2 ^ 64).toNat = v * 256 := by omega
  have h3 : b % 2 ^ 64 = b := Nat.mod_eq_of_lt (by omega)
  rw [h1, i64_bits, h2, h3, or_byte v b hb, wrap_i64 (by omega) (by omega)]

end Go.Proofs.Ytiogdfliailenaa
