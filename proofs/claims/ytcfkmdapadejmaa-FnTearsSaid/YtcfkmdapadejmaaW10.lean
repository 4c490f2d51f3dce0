/-
  Frames: what the program and the model lay.
-/
import Derived.Test.YtcfkmdapadejmaaW8
import Derived.Test.YtcfkmdapadejmaaW9
namespace Go.Proofs.Ytcfkmdapadejmaa
set_option maxRecDepth 100000
set_option linter.unusedSimpArgs false
set_option linter.unusedVariables false
set_option linter.unnecessarySimpa false
open Go Go.Abs Go.Proofs

def headOf (b : List UInt8) : UInt8 := UInt8.ofNat (b.length % 256)
theorem headOf_wrap (b : List UInt8) : IntKind.u8.wrap (b.length : Int) = ((headOf b).toNat : Int) := by
  rw [wrap_u8, headOf, UInt8.toNat_ofNat']; omega
def frame (b : List UInt8) : List UInt8 := (headOf b :: b) ++ be (crc (headOf b :: b)) 2
theorem frame_length (b : List UInt8) : (frame b).length = b.length + 3 := by simp [frame, be_length]

theorem frame_eq {b p : List UInt8} (h : p = headOf b :: b) : frame b = p ++ be (crc p) 2 := by rw [h]; rfl

theorem c_l1Frame (b : List UInt8) (hb : b.length ≤ 1000) : FCall Try.prog 32 [blist b] fun r H => ∃ g, r = .one (.own 0 g 0 (frame b).length) ∧ H = [some ⟨g, 5, 1, bcs (frame b)⟩] := by
  have hh := headOf_wrap b
  obtain ⟨p, hp⟩ : ∃ p, p = headOf b :: b := ⟨_, rfl⟩
  have hc : AC.d (.s (.int .u8 ((headOf b).toNat : Int))) :: bcs b = bcs p := by rw [hp]; rfl
  have hpl : 1 + b.length = p.length := by rw [hp, List.length_cons]; omega
  have hfe := frame_eq hp
  clear hp
  have hcl := crc_lt p
  refine fcall_gather [0] id fun clk => acall_of_aw Try.func32 rfl ?_
  simp [hh, hc, hpl]
  refine ⟨⟨by omega, by show p.length ≤ 9223372036854775807; omega⟩, ?_⟩
  refine acall_pure (c_l1Sum p (by omega)) (by simp) ?_
  rintro r Hn c ⟨rfl, rfl⟩ _
  simp
  refine acall_pure (c_l1Pack (crc p) 2 (by omega) (by omega)) (by simp) ?_
  rintro r Hn c ⟨g, rfl, rfl⟩ _
  simp [be_length, hfe]
  exact ⟨⟨by omega, by show p.length + 2 ≤ 9223372036854775807; omega⟩, List.take_of_length_le (by rw [be_length]; omega)⟩

def frameCode (b : List UInt8) : Int := if 1 ≤ b.length ∧ b.length ≤ 100 then 0 else 2

theorem c_sPackFrame (b : List UInt8) (hb : b.length ≤ 1048576) : FCall Try.prog 18 [blist b] (PackPost (frameCode b) (frame b)) := by
  by_cases h1 : 1 ≤ b.length
  · have h1' : ¬ ((b.length : Int) < 1) := by omega
    by_cases h2 : b.length ≤ 100
    · have h2' : ¬ ((100 : Int) < b.length) := by omega
      have hfc : frameCode b = 0 := if_pos ⟨h1, h2⟩
      refine fcall_gather [1] (fun j => j - 1) fun clk => acall_of_aw Try.func18 rfl ?_
      simp [h1', h2']
      refine acall_pure (c_l1Frame b (by omega)) (by simp) ?_
      rintro r Hn c ⟨g, rfl, rfl⟩ _
      simp [hfc]
      exact .inr ⟨rfl, g, rfl, rfl⟩
    · have h2' : ((100 : Int) < b.length) := by omega
      have hfc : frameCode b = 2 := if_neg (fun h => h2 h.2)
      refine fcall_gather [] id fun clk => acall_of_aw Try.func18 rfl ?_
      simp [h1', h2', hfc]
      exact .inl ⟨by omega, rfl, rfl⟩
  · have h1' : ((b.length : Int) < 1) := by omega
    have hfc : frameCode b = 2 := if_neg (fun h => h1 h.1)
    refine fcall_gather [] id fun clk => acall_of_aw Try.func18 rfl ?_
    simp [h1', hfc]
    exact .inl ⟨by omega, rfl, rfl⟩

theorem c_PackFrame (b : List UInt8) (hb : b.length ≤ 1048576) : FCall Try.prog 22 [blist b] (PackPost (frameCode b) (frame b)) := by
  by_cases h1 : 1 ≤ b.length ∧ b.length ≤ 100
  · have hfc : frameCode b = 0 := if_pos h1
    have hall : OkAll [⟨b.length, 1, 100⟩] = true := by simp [OkAll, Sp.ok]; omega
    have hh := headOf_wrap b
    obtain ⟨p, hp⟩ : ∃ p, p = headOf b :: b := ⟨_, rfl⟩
    have hc : AC.d (.s (.int .u8 ((headOf b).toNat : Int))) :: bcs b = bcs p := by rw [hp]; rfl
    have hpl : 1 + b.length = p.length := by rw [hp, List.length_cons]; omega
    have hfe := frame_eq hp
    clear hp
    have hcl := crc_lt p
    have hpc : packCode (crc p : Nat) 2 = 0 := by unfold packCode; rw [if_pos ⟨by omega, by omega, by omega, by show crc p < 65536; exact hcl⟩]
    refine fcall_gather [2] (fun j => j - 2) fun clk => acall_of_aw Try.func22 rfl ?_
    simp
    refine acall_pure (c_inBounds [⟨b.length, 1, 100⟩] (by simp)) (by simp [sps, AC.dc?]) ?_
    rintro r Hn c ⟨rfl, rfl⟩ _
    simp [hall, hh, hc, hpl]
    refine ⟨⟨by omega, by show p.length ≤ 9223372036854775807; omega⟩, ?_⟩
    refine acall_pure (c_SumOf p) (by simp) ?_
    rintro r Hn c (⟨⟨_, rfl⟩ | ⟨h, _⟩, rfl⟩) _
    rotate_left
    · exact absurd (by omega) h
    simp
    refine acall_pure (c_PackWord (crc p : Nat) 2 (by omega)) (by simp) ?_
    rintro r Hn c h _
    rw [hpc] at h
    rcases h with ⟨h, _⟩ | ⟨_, g, rfl, rfl⟩
    · exact absurd rfl h
    simp [be_length, hfc, hfe]
    refine ⟨⟨by omega, by show p.length + 2 ≤ 9223372036854775807; omega⟩, .inr ⟨rfl, c + 1, ?_, ?_⟩⟩
    · simp [be_length]
    · rw [List.take_of_length_le (by rw [be_length]; omega)]
  · have hfc : frameCode b = 2 := if_neg h1
    have hall : OkAll [⟨b.length, 1, 100⟩] = false := by simp [OkAll, Sp.ok]; omega
    refine fcall_gather [] id fun clk => acall_of_aw Try.func22 rfl ?_
    simp
    refine acall_pure (c_inBounds [⟨b.length, 1, 100⟩] (by simp)) (by simp [sps, AC.dc?]) ?_
    rintro r Hn c ⟨rfl, rfl⟩ _
    simp [hall, hfc]
    exact .inl ⟨by omega, rfl, rfl⟩
end Go.Proofs.Ytcfkmdapadejmaa
