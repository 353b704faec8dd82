/- What the calls answer: bit by bit, shifts, one more and one less, compares: of the program and of the document, in the same words. -/
import Derived.Test.YtiipfljdkbdbbaaAlb
namespace Go.Proofs.Ytiipfljdkbdbbaa
open Go.RowKit
set_option linter.unusedVariables false

theorem and1_ne : ∀ v < 256, (bits .and .u8 ((v : Nat) : Int) 1 != 0) = decide (v % 2 = 1) := by decide +kernel
theorem and1_eq : ∀ v < 256, (bits .and .u8 ((v : Nat) : Int) 1 == 1) = decide (v % 2 = 1) := by decide +kernel
theorem and64_ne : ∀ v < 256, (bits .and .u8 ((v : Nat) : Int) 64 != 0) = decide (v / 64 % 2 = 1) := by decide +kernel
theorem is_ge2 (v : Nat) : decide (128 ≤ (v : Int)) = decide (128 ≤ v) := is_ge v
theorem and1 (p : Nat) (hp : p < 256) : bits .and .u8 (p : Int) 1 = ((p % 2 : Nat) : Int) := by rw [← Nat.and_one_is_mod]; exact u8_and_nat p 1 hp (by decide)
theorem rol_or : ∀ v < 256, ∀ c < 2, bits .or .u8 ((v * 2 % 256 : Nat) : Int) ((c : Nat) : Int) = ((v * 2 % 256 + c : Nat) : Int) := by decide +kernel
theorem ror_or : ∀ v < 256, ∀ c < 2, bits .or .u8 ((v / 2 : Nat) : Int) (((c : Nat) : Int) * 128) = ((v / 2 + c * 128 : Nat) : Int) := by decide +kernel

set_option maxRecDepth 100000 in
theorem and_any (a : Nat) (b : Nat) (p : Nat) (ha : a < 256) (hb : b < 256) (hp : p < 256) : W1 22 #[.int .u8 (a : Int), .int .u8 (b : Int), .int .u8 (p : Int)] (.tuple #[.int .u8 ((a &&& b : Nat) : Int), .int .u8 (fl (a &&& b) p : Int)]) := by
  intro w
  have e := u8_and_nat a b ha hb
  have hn : a &&& b < 256 := Nat.lt_of_le_of_lt Nat.and_le_left ha
  generalize a &&& b = n at *
  go_enter Try.func22, Try.ntmps22
  go_wp2_with ((go_at_call 56; refine (flagged_any _ _ (by repeat' (first | assumption | decide | apply wi_lt | apply fl_lt)) (by repeat' (first | assumption | decide | apply wi_lt | apply fl_lt)) _).mono ?_; rintro e w2 ⟨rfl, rfl⟩))
  go_ret2
  exact ⟨by rfl, rfl⟩

set_option maxRecDepth 100000 in
theorem or_any (a : Nat) (b : Nat) (p : Nat) (ha : a < 256) (hb : b < 256) (hp : p < 256) : W1 24 #[.int .u8 (a : Int), .int .u8 (b : Int), .int .u8 (p : Int)] (.tuple #[.int .u8 ((a ||| b : Nat) : Int), .int .u8 (fl (a ||| b) p : Int)]) := by
  intro w
  have e := u8_or_nat a b ha hb
  have hn : a ||| b < 256 := Nat.or_lt_two_pow (n := 8) ha hb
  generalize a ||| b = n at *
  go_enter Try.func24, Try.ntmps24
  go_wp2_with ((go_at_call 56; refine (flagged_any _ _ (by repeat' (first | assumption | decide | apply wi_lt | apply fl_lt)) (by repeat' (first | assumption | decide | apply wi_lt | apply fl_lt)) _).mono ?_; rintro e w2 ⟨rfl, rfl⟩))
  go_ret2
  exact ⟨by rfl, rfl⟩

set_option maxRecDepth 100000 in
theorem eor_any (a : Nat) (b : Nat) (p : Nat) (ha : a < 256) (hb : b < 256) (hp : p < 256) : W1 25 #[.int .u8 (a : Int), .int .u8 (b : Int), .int .u8 (p : Int)] (.tuple #[.int .u8 ((a ^^^ b : Nat) : Int), .int .u8 (fl (a ^^^ b) p : Int)]) := by
  intro w
  have e := u8_xor_nat a b ha hb
  have hn : a ^^^ b < 256 := Nat.xor_lt_two_pow (n := 8) ha hb
  generalize a ^^^ b = n at *
  go_enter Try.func25, Try.ntmps25
  go_wp2_with ((go_at_call 56; refine (flagged_any _ _ (by repeat' (first | assumption | decide | apply wi_lt | apply fl_lt)) (by repeat' (first | assumption | decide | apply wi_lt | apply fl_lt)) _).mono ?_; rintro e w2 ⟨rfl, rfl⟩))
  go_ret2
  exact ⟨by rfl, rfl⟩

set_option maxRecDepth 100000 in
theorem inc_any (a : Nat) (p : Nat) (ha : a < 256) (hp : p < 256) : W1 26 #[.int .u8 (a : Int), .int .u8 (p : Int)] (.tuple #[.int .u8 (((a + 1) % 256 : Nat) : Int), .int .u8 (fl ((a + 1) % 256) p : Int)]) := by
  intro w
  have e : ((a : Int) + 1) % 256 = (((a + 1) % 256 : Nat) : Int) := by omega
  have hn : (a + 1) % 256 < 256 := Nat.mod_lt _ (by decide)
  generalize (a + 1) % 256 = n at *
  go_enter Try.func26, Try.ntmps26
  go_wp2_with ((go_at_call 56; refine (flagged_any _ _ (by repeat' (first | assumption | decide | apply wi_lt | apply fl_lt)) (by repeat' (first | assumption | decide | apply wi_lt | apply fl_lt)) _).mono ?_; rintro e w2 ⟨rfl, rfl⟩))
  go_ret2
  exact ⟨by rfl, rfl⟩

set_option maxRecDepth 100000 in
theorem dec_any (a : Nat) (p : Nat) (ha : a < 256) (hp : p < 256) : W1 27 #[.int .u8 (a : Int), .int .u8 (p : Int)] (.tuple #[.int .u8 (((a + 255) % 256 : Nat) : Int), .int .u8 (fl ((a + 255) % 256) p : Int)]) := by
  intro w
  have e : ((a : Int) - 1) % 256 = (((a + 255) % 256 : Nat) : Int) := by omega
  have hn : (a + 255) % 256 < 256 := Nat.mod_lt _ (by decide)
  generalize (a + 255) % 256 = n at *
  go_enter Try.func27, Try.ntmps27
  go_wp2_with ((go_at_call 56; refine (flagged_any _ _ (by repeat' (first | assumption | decide | apply wi_lt | apply fl_lt)) (by repeat' (first | assumption | decide | apply wi_lt | apply fl_lt)) _).mono ?_; rintro e w2 ⟨rfl, rfl⟩))
  go_ret2
  exact ⟨by rfl, rfl⟩

set_option maxRecDepth 100000 in
theorem compare_any (a : Nat) (b : Nat) (p : Nat) (ha : a < 256) (hb : b < 256) (hp : p < 256) : W1 28 #[.int .u8 (a : Int), .int .u8 (b : Int), .int .u8 (p : Int)] (.int .u8 (fl ((a + (256 - b)) % 256) (wi p 1 (decide (b ≤ a))) : Int)) := by
  intro w
  have e : ((a : Int) - b) % 256 = (((a + (256 - b)) % 256 : Nat) : Int) := by omega
  have hn : (a + (256 - b)) % 256 < 256 := Nat.mod_lt _ (by decide)
  generalize (a + (256 - b)) % 256 = n at *
  go_enter Try.func28, Try.ntmps28
  go_wp2_with (first | (go_at_call 42; refine (with_any _ _ _ (by repeat' (first | assumption | decide | apply wi_lt | apply fl_lt)) (by repeat' (first | assumption | decide | apply wi_lt | apply fl_lt)) _).mono ?_; rintro e w2 ⟨rfl, rfl⟩) | (go_at_call 13; refine (flags_any _ _ (by repeat' (first | assumption | decide | apply wi_lt | apply fl_lt)) (by repeat' (first | assumption | decide | apply wi_lt | apply fl_lt)) _).mono ?_; rintro e w2 ⟨rfl, rfl⟩))
  go_ret
  exact ⟨by rfl, rfl⟩

set_option maxRecDepth 100000 in
theorem refCompare_any (a : Nat) (b : Nat) (p : Nat) (ha : a < 256) (hb : b < 256) (hp : p < 256) : W1 29 #[.int .u8 (a : Int), .int .u8 (b : Int), .int .u8 (p : Int)] (.int .u8 (fl ((a + (256 - b)) % 256) (wi p 1 (decide (b ≤ a))) : Int)) := by
  intro w
  have e : ((a : Int) - b) % 256 = (((a + (256 - b)) % 256 : Nat) : Int) := by omega
  have hn : (a + (256 - b)) % 256 < 256 := Nat.mod_lt _ (by decide)
  generalize (a + (256 - b)) % 256 = n at *
  go_enter Try.func29, Try.ntmps29
  go_wp2_with (first | (go_at_call 43; refine (refSet_any _ _ _ (by repeat' (first | assumption | decide | apply wi_lt | apply fl_lt)) (by repeat' (first | assumption | decide | apply wi_lt | apply fl_lt)) _).mono ?_; rintro e w2 ⟨rfl, rfl⟩) | (go_at_call 14; refine (refFlags_any _ _ (by repeat' (first | assumption | decide | apply wi_lt | apply fl_lt)) (by repeat' (first | assumption | decide | apply wi_lt | apply fl_lt)) _).mono ?_; rintro e w2 ⟨rfl, rfl⟩))
  go_ret
  exact ⟨by rfl, rfl⟩

set_option maxRecDepth 100000 in
theorem bit_any (a : Nat) (b : Nat) (p : Nat) (ha : a < 256) (hb : b < 256) (hp : p < 256) : W1 30 #[.int .u8 (a : Int), .int .u8 (b : Int), .int .u8 (p : Int)] (.int .u8 (wi (wi (wi p 128 (decide (128 ≤ b))) 64 (decide (b / 64 % 2 = 1))) 2 (decide (a &&& b = 0)) : Int)) := by
  intro w
  have e := u8_and_nat a b ha hb
  have hn : a &&& b < 256 := Nat.lt_of_le_of_lt Nat.and_le_left ha
  have hz := hidD (is_zero (a &&& b))
  generalize a &&& b = n at *
  go_enter Try.func30, Try.ntmps30
  go_wp2_with ((go_at_call 42; refine (with_any _ _ _ (by repeat' (first | assumption | decide | apply wi_lt | apply fl_lt)) (by repeat' (first | assumption | decide | apply wi_lt | apply fl_lt)) _).mono ?_; rintro e w2 ⟨rfl, rfl⟩))
  go_ret
  exact ⟨by (rw [and128_ne b hb, and64_ne b hb, hz.out]; rfl), rfl⟩

set_option maxRecDepth 100000 in
theorem refBit_any (a : Nat) (b : Nat) (p : Nat) (ha : a < 256) (hb : b < 256) (hp : p < 256) : W1 31 #[.int .u8 (a : Int), .int .u8 (b : Int), .int .u8 (p : Int)] (.int .u8 (wi (wi (wi p 128 (decide (128 ≤ b))) 64 (decide (b / 64 % 2 = 1))) 2 (decide (a &&& b = 0)) : Int)) := by
  intro w
  have e := u8_and_nat a b ha hb
  have hn : a &&& b < 256 := Nat.lt_of_le_of_lt Nat.and_le_left ha
  have hz := hidD (is_zero (a &&& b))
  generalize a &&& b = n at *
  go_enter Try.func31, Try.ntmps31
  go_wp2_with ((go_at_call 43; refine (refSet_any _ _ _ (by repeat' (first | assumption | decide | apply wi_lt | apply fl_lt)) (by repeat' (first | assumption | decide | apply wi_lt | apply fl_lt)) _).mono ?_; rintro e w2 ⟨rfl, rfl⟩))
  go_ret
  exact ⟨by (rw [and128_ne b hb, and64_ne b hb, hz.out]; rfl), rfl⟩

end Go.Proofs.Ytiipfljdkbdbbaa
