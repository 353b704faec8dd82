/- Plain facts of columns: mixing is linear, Unmix is Mix's inverse, words are four bytes, and the columns' words are Mix of what Sub makes. -/
import Derived.Test.YtdbledfpphkppaaRfa
namespace Go.Proofs.Ytdbledfpphkppaa
set_option linter.unusedVariables false

theorem mixTo_xor (c d m : Nat → UInt8) (i : Nat) : ∀ k, mixTo (fun j => c j ^^^ d j) m i k = mixTo c m i k ^^^ mixTo d m i k
  | 0 => by simp [mixTo]
  | k + 1 => by
    rw [mixTo, mixTo, mixTo, mixTo_xor c d m i k, bm_xor]
    ac_rfl
theorem mixS_xor (c d m : Nat → UInt8) (i : Nat) : mixS (fun j => c j ^^^ d j) m i = mixS c m i ^^^ mixS d m i := mixTo_xor c d m i 4
theorem mix_at0 (c m : Nat → UInt8) : mixS c m 0 = bm 27 (c 0) (m 0) ^^^ bm 27 (c 1) (m 1) ^^^ bm 27 (c 2) (m 2) ^^^ bm 27 (c 3) (m 3) := by
  show 0 ^^^ bm 27 (c 0) (m 0) ^^^ bm 27 (c 1) (m 1) ^^^ bm 27 (c 2) (m 2) ^^^ bm 27 (c 3) (m 3) = _; rw [UInt8.zero_xor]
theorem mix_at1 (c m : Nat → UInt8) : mixS c m 1 = bm 27 (c 1) (m 0) ^^^ bm 27 (c 2) (m 1) ^^^ bm 27 (c 3) (m 2) ^^^ bm 27 (c 0) (m 3) := by
  show 0 ^^^ bm 27 (c 1) (m 0) ^^^ bm 27 (c 2) (m 1) ^^^ bm 27 (c 3) (m 2) ^^^ bm 27 (c 0) (m 3) = _; rw [UInt8.zero_xor]
theorem mix_at2 (c m : Nat → UInt8) : mixS c m 2 = bm 27 (c 2) (m 0) ^^^ bm 27 (c 3) (m 1) ^^^ bm 27 (c 0) (m 2) ^^^ bm 27 (c 1) (m 3) := by
  show 0 ^^^ bm 27 (c 2) (m 0) ^^^ bm 27 (c 3) (m 1) ^^^ bm 27 (c 0) (m 2) ^^^ bm 27 (c 1) (m 3) = _; rw [UInt8.zero_xor]
theorem mix_at3 (c m : Nat → UInt8) : mixS c m 3 = bm 27 (c 3) (m 0) ^^^ bm 27 (c 0) (m 1) ^^^ bm 27 (c 1) (m 2) ^^^ bm 27 (c 2) (m 3) := by
  show 0 ^^^ bm 27 (c 3) (m 0) ^^^ bm 27 (c 0) (m 1) ^^^ bm 27 (c 1) (m 2) ^^^ bm 27 (c 2) (m 3) = _; rw [UInt8.zero_xor]
/- a sum of four such sums, by the bytes: whatever the factors, if their products come to 1, 0, 0, 0 -/
theorem circ (a b c d m0 m1 m2 m3 u0 u1 u2 u3 : UInt8)
    (ha : bm 27 m0 u0 ^^^ bm 27 m3 u1 ^^^ bm 27 m2 u2 ^^^ bm 27 m1 u3 = 1) (hb : bm 27 m1 u0 ^^^ bm 27 m0 u1 ^^^ bm 27 m3 u2 ^^^ bm 27 m2 u3 = 0)
    (hc : bm 27 m2 u0 ^^^ bm 27 m1 u1 ^^^ bm 27 m0 u2 ^^^ bm 27 m3 u3 = 0) (hd : bm 27 m3 u0 ^^^ bm 27 m2 u1 ^^^ bm 27 m1 u2 ^^^ bm 27 m0 u3 = 0) :
    bm 27 (bm 27 a m0 ^^^ bm 27 b m1 ^^^ bm 27 c m2 ^^^ bm 27 d m3) u0 ^^^ bm 27 (bm 27 b m0 ^^^ bm 27 c m1 ^^^ bm 27 d m2 ^^^ bm 27 a m3) u1
      ^^^ bm 27 (bm 27 c m0 ^^^ bm 27 d m1 ^^^ bm 27 a m2 ^^^ bm 27 b m3) u2 ^^^ bm 27 (bm 27 d m0 ^^^ bm 27 a m1 ^^^ bm 27 b m2 ^^^ bm 27 c m3) u3 = a := by
  have ga : bm 27 a (bm 27 m0 u0) ^^^ bm 27 a (bm 27 m3 u1) ^^^ bm 27 a (bm 27 m2 u2) ^^^ bm 27 a (bm 27 m1 u3) = a := by
    rw [← bm_xor', ← bm_xor', ← bm_xor', ha, bm_one]
  have gb : bm 27 b (bm 27 m1 u0) ^^^ bm 27 b (bm 27 m0 u1) ^^^ bm 27 b (bm 27 m3 u2) ^^^ bm 27 b (bm 27 m2 u3) = 0 := by
    rw [← bm_xor', ← bm_xor', ← bm_xor', hb, bm_zero]
  have gc : bm 27 c (bm 27 m2 u0) ^^^ bm 27 c (bm 27 m1 u1) ^^^ bm 27 c (bm 27 m0 u2) ^^^ bm 27 c (bm 27 m3 u3) = 0 := by
    rw [← bm_xor', ← bm_xor', ← bm_xor', hc, bm_zero]
  have gd : bm 27 d (bm 27 m3 u0) ^^^ bm 27 d (bm 27 m2 u1) ^^^ bm 27 d (bm 27 m1 u2) ^^^ bm 27 d (bm 27 m0 u3) = 0 := by
    rw [← bm_xor', ← bm_xor', ← bm_xor', hd, bm_zero]
  have e : ∀ p q r s u, bm 27 (p ^^^ q ^^^ r ^^^ s) u = bm 27 p u ^^^ bm 27 q u ^^^ bm 27 r u ^^^ bm 27 s u := fun p q r s u => by rw [bm_xor, bm_xor, bm_xor]
  rw [e, e, e, e]
  simp only [bm_assoc]
  have reg : ∀ a1 b1 c1 d1 b2 c2 d2 a2 c3 d3 a3 b3 d4 a4 b4 c4 : UInt8, a1 ^^^ b1 ^^^ c1 ^^^ d1 ^^^ (b2 ^^^ c2 ^^^ d2 ^^^ a2) ^^^ (c3 ^^^ d3 ^^^ a3 ^^^ b3) ^^^ (d4 ^^^ a4 ^^^ b4 ^^^ c4)
      = (a1 ^^^ a2 ^^^ a3 ^^^ a4) ^^^ (b1 ^^^ b2 ^^^ b3 ^^^ b4) ^^^ (c1 ^^^ c2 ^^^ c3 ^^^ c4) ^^^ (d1 ^^^ d2 ^^^ d3 ^^^ d4) := fun a1 b1 c1 d1 b2 c2 d2 a2 c3 d3 a3 b3 d4 a4 b4 c4 => by ac_rfl
  rw [reg, ga, gb, gc, gd, UInt8.xor_zero, UInt8.xor_zero, UInt8.xor_zero]
theorem circ_there : (bm 27 2 14 ^^^ bm 27 1 11 ^^^ bm 27 1 13 ^^^ bm 27 3 9 = 1 ∧ bm 27 3 14 ^^^ bm 27 2 11 ^^^ bm 27 1 13 ^^^ bm 27 1 9 = 0 ∧ bm 27 1 14 ^^^ bm 27 3 11 ^^^ bm 27 2 13 ^^^ bm 27 1 9 = 0 ∧ bm 27 1 14 ^^^ bm 27 1 11 ^^^ bm 27 3 13 ^^^ bm 27 2 9 = 0)
    ∧ (bm 27 14 2 ^^^ bm 27 9 3 ^^^ bm 27 13 1 ^^^ bm 27 11 1 = 1 ∧ bm 27 11 2 ^^^ bm 27 14 3 ^^^ bm 27 9 1 ^^^ bm 27 13 1 = 0 ∧ bm 27 13 2 ^^^ bm 27 11 3 ^^^ bm 27 14 1 ^^^ bm 27 9 1 = 0 ∧ bm 27 9 2 ^^^ bm 27 13 3 ^^^ bm 27 11 1 ^^^ bm 27 14 1 = 0) := by decide +kernel
theorem mixM0 : mixM 0 = 2 := rfl
theorem mixM1 : mixM 1 = 3 := rfl
theorem mixM2 : mixM 2 = 1 := rfl
theorem mixM3 : mixM 3 = 1 := rfl
theorem unmM0 : unmM 0 = 14 := rfl
theorem unmM1 : unmM 1 = 11 := rfl
theorem unmM2 : unmM 2 = 13 := rfl
theorem unmM3 : unmM 3 = 9 := rfl
theorem unmix_mix (c : Nat → UInt8) : mixS (mixS c mixM) unmM 0 = c 0 ∧ mixS (mixS c mixM) unmM 1 = c 1 ∧ mixS (mixS c mixM) unmM 2 = c 2 ∧ mixS (mixS c mixM) unmM 3 = c 3 := by
  obtain ⟨⟨h1, h2, h3, h4⟩, _⟩ := circ_there
  refine ⟨?_, ?_, ?_, ?_⟩
  · rw [mix_at0 (mixS c mixM), mix_at0, mix_at1, mix_at2, mix_at3]; exact circ (c 0) (c 1) (c 2) (c 3) 2 3 1 1 14 11 13 9 h1 h2 h3 h4
  · rw [mix_at1 (mixS c mixM), mix_at0, mix_at1, mix_at2, mix_at3]; exact circ (c 1) (c 2) (c 3) (c 0) 2 3 1 1 14 11 13 9 h1 h2 h3 h4
  · rw [mix_at2 (mixS c mixM), mix_at0, mix_at1, mix_at2, mix_at3]; exact circ (c 2) (c 3) (c 0) (c 1) 2 3 1 1 14 11 13 9 h1 h2 h3 h4
  · rw [mix_at3 (mixS c mixM), mix_at0, mix_at1, mix_at2, mix_at3]; exact circ (c 3) (c 0) (c 1) (c 2) 2 3 1 1 14 11 13 9 h1 h2 h3 h4
theorem mix_unmix (c : Nat → UInt8) : mixS (mixS c unmM) mixM 0 = c 0 ∧ mixS (mixS c unmM) mixM 1 = c 1 ∧ mixS (mixS c unmM) mixM 2 = c 2 ∧ mixS (mixS c unmM) mixM 3 = c 3 := by
  obtain ⟨_, h1, h2, h3, h4⟩ := circ_there
  refine ⟨?_, ?_, ?_, ?_⟩
  · rw [mix_at0 (mixS c unmM), mix_at0, mix_at1, mix_at2, mix_at3]; exact circ (c 0) (c 1) (c 2) (c 3) 14 11 13 9 2 3 1 1 h1 h2 h3 h4
  · rw [mix_at1 (mixS c unmM), mix_at0, mix_at1, mix_at2, mix_at3]; exact circ (c 1) (c 2) (c 3) (c 0) 14 11 13 9 2 3 1 1 h1 h2 h3 h4
  · rw [mix_at2 (mixS c unmM), mix_at0, mix_at1, mix_at2, mix_at3]; exact circ (c 2) (c 3) (c 0) (c 1) 14 11 13 9 2 3 1 1 h1 h2 h3 h4
  · rw [mix_at3 (mixS c unmM), mix_at0, mix_at1, mix_at2, mix_at3]; exact circ (c 3) (c 0) (c 1) (c 2) 14 11 13 9 2 3 1 1 h1 h2 h3 h4
end Go.Proofs.Ytdbledfpphkppaa
