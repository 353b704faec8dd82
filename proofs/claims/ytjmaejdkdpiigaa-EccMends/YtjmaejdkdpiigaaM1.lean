/- What the statements' own bits answers, and what words that are turned answer. -/
import Derived.Test.YtjmaejdkdpiigaaL1
import Derived.Test.YtjmaejdkdpiigaaE7
namespace Go.Proofs.Ytjmaejdkdpiigaa
open Go.RowKit
set_option linter.unusedVariables false

set_option maxRecDepth 100000 in
theorem bits_ok {W r : Nat} (h : Wid W r) (w : World) : Calls Try.prog 32 #[.int .i64 (W : Int)] w fun e w' => e = .returned (.int .i64 ((W + r + 1 : Nat) : Int)) ∧ w' = w := by
  have HC : Hid (∀ w, Calls Try.prog 8 #[.int .i64 (W : Int)] w fun e w' => e = .returned (.tuple #[.int .i64 (r : Int), .int .i64 0]) ∧ w' = w) := fun w => checks_ok h w
  have HN : Hid (∀ w, Calls Try.prog 10 #[.int .i64 0] w fun e w' => e = .returned (.int .i64 0) ∧ w' = w) := fun w => no_any 0 w
  have hr := h.le
  have h1 : ¬ (r : Int) < 4 := by omega
  have h2 : ¬ (7 : Int) < (r : Int) := by omega
  have h3 : ((W + r + 1 : Nat) : Int) = (W : Int) + (r : Int) + 1 := by omega
  rw [h3]
  go_enter Try.func32, Try.ntmps32
  go_wp2_with (first | (go_at_call 8; refine (HC.out _).mono ?_; rintro e w1 ⟨rfl, hb1⟩) | (go_at_call 10; refine (HN.out _).mono ?_; rintro e w3 ⟨rfl, hb3⟩))
  go_ret
  exact ⟨rfl, rfl⟩
set_option maxRecDepth 100000 in
theorem bits_no {x : Int} (h : NoWid x) (w : World) : Calls Try.prog 32 #[.int .i64 x] w fun e w' => e = .returned (.int .i64 0) ∧ w' = w := by
  have HC : Hid (∀ w, Calls Try.prog 8 #[.int .i64 x] w fun e w' => e = .returned (.tuple #[.int .i64 0, .int .i64 1]) ∧ w' = w) := fun w => checks_no h w
  have HN : Hid (∀ w, Calls Try.prog 10 #[.int .i64 1] w fun e w' => e = .returned (.int .i64 1) ∧ w' = w) := fun w => no_any 1 w
  go_enter Try.func32, Try.ntmps32
  go_wp2_with (first | (go_at_call 8; refine (HC.out _).mono ?_; rintro e w1 ⟨rfl, hb1⟩) | (go_at_call 10; refine (HN.out _).mono ?_; rintro e w3 ⟨rfl, hb3⟩))
  go_ret
  exact ⟨rfl, rfl⟩

theorem turD_back (W D a : Nat) (h : a < W) : turD W D a ^^^ 2 ^ a = D := by
  unfold turD; rw [if_pos h, Nat.xor_assoc, Nat.xor_self, Nat.xor_zero]
theorem turD_same (W D a : Nat) (h : ¬ a < W) : turD W D a = D := by unfold turD; rw [if_neg h]
theorem xor_ne {a b : Nat} (h : a ≠ b) : a ^^^ b ≠ 0 := fun e => h (by
  have : a ^^^ b ^^^ b = b := by rw [e, Nat.zero_xor]
  rw [Nat.xor_assoc, Nat.xor_self, Nat.xor_zero] at this; exact this)
/- one bit of a word is turned -/
theorem dec_one {W r : Nat} (h : Wid W r) (D a : Nat) (ha : a ≤ W + r) : DecIs W r (turD W D a) (turC W (encS W r D) a) D (if a < W then 1 else 2) (if a < W then a else a - W) 0 := by
  have hs := tur_syn h D (encS W r D) a (enc_lt h D) ha
  rw [enc_syn h, Nat.zero_xor] at hs
  have hp := tur_par h D (encS W r D) a ha
  rw [enc_par h] at hp
  by_cases hW : a < W
  · rw [if_pos hW, if_pos hW]
    have := DecIs.data (W := W) (r := r) (D := turD W D a) (C := turC W (encS W r D) a) a hW hs.symm hp
    rw [turD_back W D a hW] at this; exact this
  · rw [if_neg hW, if_neg hW]
    have := DecIs.check (W := W) (r := r) (D := turD W D a) (C := turC W (encS W r D) a) a (by omega) ha hs.symm hp
    rw [turD_same W D a hW] at this ⊢; exact this
/- two bits are turned -/
theorem dec_two {W r : Nat} (h : Wid W r) (D a b : Nat) (hd : D < 2 ^ W) (ha : a ≤ W + r) (hb : b ≤ W + r) (hab : a ≠ b) : DecIs W r (turD W (turD W D a) b) (turC W (turC W (encS W r D) a) b) 0 0 0 100 := by
  have hl := tur_lt h D (encS W r D) a hd (enc_lt h D) ha
  have hs := tur_syn h D (encS W r D) a (enc_lt h D) ha
  rw [enc_syn h, Nat.zero_xor] at hs
  have hp := tur_par h D (encS W r D) a ha
  rw [enc_par h] at hp
  have hs2 := tur_syn h (turD W D a) (turC W (encS W r D) a) b hl.2 hb
  have hp2 := tur_par h (turD W D a) (turC W (encS W r D) a) b hb
  rw [hs] at hs2
  rw [hp] at hp2
  refine DecIs.two ?_ hp2
  rw [hs2]
  exact xor_ne fun e => hab ((pat_ok h).1 a ha b hb e)
theorem dec_fine {W r : Nat} (h : Wid W r) (D : Nat) : DecIs W r D (encS W r D) D 0 0 0 := DecIs.fine (enc_syn h D) (enc_par h D)
/- the place that a number means -/
def plS (n : Nat) (a : Int) : Nat := (if a < 0 then -(a + 1) else a).toNat % n
theorem pl_neg (n : Nat) (a : Int) (h : a < 0) : (-(a + 1)).tmod n = ((plS n a : Nat) : Int) := by
  unfold plS
  rw [if_pos h]
  have h1 : -(a + 1) = (((-(a + 1)).toNat : Nat) : Int) := by omega
  generalize (-(a + 1)).toNat = k at *
  rw [h1]; rfl
theorem pl_pos (n : Nat) (a : Int) (h : ¬ a < 0) : a.tmod n = ((plS n a : Nat) : Int) := by
  unfold plS
  rw [if_neg h]
  have h1 : a = ((a.toNat : Nat) : Int) := by omega
  generalize a.toNat = k at *
  rw [h1]; rfl
def adjI (a : Int) : Int := if a < 0 then -(a + 1) else a
theorem adj_neg {a : Int} (h : a < 0) : adjI a = -(a + 1) := if_pos h
theorem adj_pos {a : Int} (h : ¬ a < 0) : adjI a = a := if_neg h
theorem pl_adj (n : Nat) (a : Int) : (adjI a).tmod n = ((plS n a : Nat) : Int) := by
  by_cases h : a < 0
  · rw [adj_neg h]; exact pl_neg n a h
  · rw [adj_pos h]; exact pl_pos n a h
theorem pl_lt (n : Nat) (a : Int) (h : 0 < n) : plS n a < n := Nat.mod_lt _ h
end Go.Proofs.Ytjmaejdkdpiigaa
