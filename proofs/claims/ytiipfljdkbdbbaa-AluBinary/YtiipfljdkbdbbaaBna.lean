/- AluBinary. -/
import Derived.Test.YtiipfljdkbdbbaaLiv
import Derived.Test.YtiipfljdkbdbbaaBnp
import Derived.Below
namespace Go.Proofs.Ytiipfljdkbdbbaa
open Go.RowKit
set_option linter.unusedVariables false

theorem and2_ne : ∀ v < 256, (bits .and .u8 ((v : Nat) : Int) 2 != 0) = decide (v / 2 % 2 = 1) := by decide +kernel
theorem andNot195 : ∀ v < 256, bits .andNot .u8 ((v : Nat) : Int) 195 = ((v &&& 60 : Nat) : Int) := by decide +kernel
theorem andNot8 : ∀ v < 256, bits .andNot .u8 ((v : Nat) : Int) 8 = ((v &&& 247 : Nat) : Int) := by decide +kernel
theorem noD : ∀ v < 256, dD (v &&& 247) = false ∧ v &&& 247 < 256 := by decide +kernel
theorem wrap_i8 : ∀ a < 256, IntKind.i8.wrap ((a : Nat) : Int) = s8 a := by decide +kernel
theorem max_xor : ∀ b < 256, bits .xor .u8 IntKind.u8.max ((b : Nat) : Int) = ((255 - b : Nat) : Int) := by decide +kernel
theorem ge_nat (s : Nat) : decide (128 ≤ (s : Int)) = decide (128 ≤ s) := is_ge s

/- the walk, of numbers that are met -/
set_option maxRecDepth 100000 in
set_option maxHeartbeats 1600000 in
theorem bin_lolo (a b p P n K : Nat) (av aq : Nat → Nat) (X Y : Int) (hp : p < 256) (ha : a < 256) (hb : b < 256) (hP : P < 256) (hn : n < 256) (hs : av b < 256) (hq : aq b < 256) (hd : av n < 256) (hr : aq n < 256)
    (H1 : ∀ m : Nat, m < 256 → W1 16 #[.int .u8 (a : Int), .int .u8 (m : Int), .int .u8 (P : Int)] (.tuple #[.int .u8 (av m : Int), .int .u8 (aq m : Int)]))
    (H3 : W1 18 #[.int .u8 (a : Int), .int .u8 (b : Int), .int .u8 (P : Int)] (.tuple #[.int .u8 (av n : Int), .int .u8 (aq n : Int)]))
    (e1 : bits .andNot .u8 (p : Int) 8 = (P : Int)) (e2 : bits .and .u8 (P : Int) 1 = (cyN P : Int)) (hc : cyN P < 2) (e3 : bits .and .u8 (aq b : Int) 1 = (cyN (aq b) : Int)) (hc2 : cyN (aq b) < 2)
    (e4 : (av b : Int) + 256 * (cyN (aq b) : Int) = (a : Int) + (b : Int) + (cyN P : Int)) (e5 : bits .xor .u8 IntKind.u8.max (b : Int) = (n : Int))
    (e6 : s8 a + s8 b + (cyN P : Int) = X) (e7 : s8 a - s8 b - 1 + (cyN P : Int) = Y) (w1 : IntKind.i8.wrap (a : Int) = s8 a) (w2 : IntKind.i8.wrap (b : Int) = s8 b) (b1 : -128 ≤ s8 a ∧ s8 a < 128) (b2 : -128 ≤ s8 b ∧ s8 b < 128)
    (f1 : (bits .and .u8 (aq b : Int) 64 != 0) = true) (f2 : (bits .and .u8 (aq n : Int) 64 != 0) = true) (hx : X < -128) (hy : Y < -128)
    (f3 : (bits .and .u8 (aq b : Int) 2 != 0) = ((av b : Int) == 0)) (f4 : (bits .and .u8 (aq b : Int) 128 != 0) = decide (128 ≤ (av b : Int)))
    (f5 : bits .andNot .u8 (aq b : Int) 195 = (K : Int)) (f6 : bits .andNot .u8 (P : Int) 195 = (K : Int)) (f7 : bits .andNot .u8 (aq n : Int) 195 = (K : Int)) (w : World) : Calls Try.prog 7 #[.int .u8 (a : Int), .int .u8 (b : Int), .int .u8 (p : Int)] w fun e w' => e = .returned (.bool true) ∧ Below w.heap.size w w' := by
  have sg : IntKind.u8.signed = false := rfl
  have H1 := hidD H1
  have H3 := hidD H3
  go_enter Try.func7, Try.ntmps7
  go_wp2_with (first | (go_at_call 15; refine (live_any _).mono ?_; rintro e w2 ⟨rfl, rfl⟩) | (go_at_call 18; refine (H3.out _).mono ?_; rintro e w2 ⟨rfl, rfl⟩) | (go_at_call 16; refine (H1.out _ (by assumption) _).mono ?_; rintro e w2 ⟨rfl, rfl⟩))
  go_ret
  exact ⟨by first | rfl | (simp; done), Below.refl _ _⟩

set_option maxRecDepth 100000 in
set_option maxHeartbeats 1600000 in
theorem bin_loup (a b p P n K : Nat) (av aq : Nat → Nat) (X Y : Int) (hp : p < 256) (ha : a < 256) (hb : b < 256) (hP : P < 256) (hn : n < 256) (hs : av b < 256) (hq : aq b < 256) (hd : av n < 256) (hr : aq n < 256)
    (H1 : ∀ m : Nat, m < 256 → W1 16 #[.int .u8 (a : Int), .int .u8 (m : Int), .int .u8 (P : Int)] (.tuple #[.int .u8 (av m : Int), .int .u8 (aq m : Int)]))
    (H3 : W1 18 #[.int .u8 (a : Int), .int .u8 (b : Int), .int .u8 (P : Int)] (.tuple #[.int .u8 (av n : Int), .int .u8 (aq n : Int)]))
    (e1 : bits .andNot .u8 (p : Int) 8 = (P : Int)) (e2 : bits .and .u8 (P : Int) 1 = (cyN P : Int)) (hc : cyN P < 2) (e3 : bits .and .u8 (aq b : Int) 1 = (cyN (aq b) : Int)) (hc2 : cyN (aq b) < 2)
    (e4 : (av b : Int) + 256 * (cyN (aq b) : Int) = (a : Int) + (b : Int) + (cyN P : Int)) (e5 : bits .xor .u8 IntKind.u8.max (b : Int) = (n : Int))
    (e6 : s8 a + s8 b + (cyN P : Int) = X) (e7 : s8 a - s8 b - 1 + (cyN P : Int) = Y) (w1 : IntKind.i8.wrap (a : Int) = s8 a) (w2 : IntKind.i8.wrap (b : Int) = s8 b) (b1 : -128 ≤ s8 a ∧ s8 a < 128) (b2 : -128 ≤ s8 b ∧ s8 b < 128)
    (f1 : (bits .and .u8 (aq b : Int) 64 != 0) = true) (f2 : (bits .and .u8 (aq n : Int) 64 != 0) = true) (hx : X < -128) (hy : ¬ Y < -128 ∧ 127 < Y)
    (f3 : (bits .and .u8 (aq b : Int) 2 != 0) = ((av b : Int) == 0)) (f4 : (bits .and .u8 (aq b : Int) 128 != 0) = decide (128 ≤ (av b : Int)))
    (f5 : bits .andNot .u8 (aq b : Int) 195 = (K : Int)) (f6 : bits .andNot .u8 (P : Int) 195 = (K : Int)) (f7 : bits .andNot .u8 (aq n : Int) 195 = (K : Int)) (w : World) : Calls Try.prog 7 #[.int .u8 (a : Int), .int .u8 (b : Int), .int .u8 (p : Int)] w fun e w' => e = .returned (.bool true) ∧ Below w.heap.size w w' := by
  have sg : IntKind.u8.signed = false := rfl
  have H1 := hidD H1
  have H3 := hidD H3
  go_enter Try.func7, Try.ntmps7
  go_wp2_with (first | (go_at_call 15; refine (live_any _).mono ?_; rintro e w2 ⟨rfl, rfl⟩) | (go_at_call 18; refine (H3.out _).mono ?_; rintro e w2 ⟨rfl, rfl⟩) | (go_at_call 16; refine (H1.out _ (by assumption) _).mono ?_; rintro e w2 ⟨rfl, rfl⟩))
  go_ret
  exact ⟨by first | rfl | (simp; done), Below.refl _ _⟩

set_option maxRecDepth 100000 in
set_option maxHeartbeats 1600000 in
theorem bin_loin (a b p P n K : Nat) (av aq : Nat → Nat) (X Y : Int) (hp : p < 256) (ha : a < 256) (hb : b < 256) (hP : P < 256) (hn : n < 256) (hs : av b < 256) (hq : aq b < 256) (hd : av n < 256) (hr : aq n < 256)
    (H1 : ∀ m : Nat, m < 256 → W1 16 #[.int .u8 (a : Int), .int .u8 (m : Int), .int .u8 (P : Int)] (.tuple #[.int .u8 (av m : Int), .int .u8 (aq m : Int)]))
    (H3 : W1 18 #[.int .u8 (a : Int), .int .u8 (b : Int), .int .u8 (P : Int)] (.tuple #[.int .u8 (av n : Int), .int .u8 (aq n : Int)]))
    (e1 : bits .andNot .u8 (p : Int) 8 = (P : Int)) (e2 : bits .and .u8 (P : Int) 1 = (cyN P : Int)) (hc : cyN P < 2) (e3 : bits .and .u8 (aq b : Int) 1 = (cyN (aq b) : Int)) (hc2 : cyN (aq b) < 2)
    (e4 : (av b : Int) + 256 * (cyN (aq b) : Int) = (a : Int) + (b : Int) + (cyN P : Int)) (e5 : bits .xor .u8 IntKind.u8.max (b : Int) = (n : Int))
    (e6 : s8 a + s8 b + (cyN P : Int) = X) (e7 : s8 a - s8 b - 1 + (cyN P : Int) = Y) (w1 : IntKind.i8.wrap (a : Int) = s8 a) (w2 : IntKind.i8.wrap (b : Int) = s8 b) (b1 : -128 ≤ s8 a ∧ s8 a < 128) (b2 : -128 ≤ s8 b ∧ s8 b < 128)
    (f1 : (bits .and .u8 (aq b : Int) 64 != 0) = true) (f2 : (bits .and .u8 (aq n : Int) 64 != 0) = false) (hx : X < -128) (hy : ¬ Y < -128 ∧ ¬ 127 < Y)
    (f3 : (bits .and .u8 (aq b : Int) 2 != 0) = ((av b : Int) == 0)) (f4 : (bits .and .u8 (aq b : Int) 128 != 0) = decide (128 ≤ (av b : Int)))
    (f5 : bits .andNot .u8 (aq b : Int) 195 = (K : Int)) (f6 : bits .andNot .u8 (P : Int) 195 = (K : Int)) (f7 : bits .andNot .u8 (aq n : Int) 195 = (K : Int)) (w : World) : Calls Try.prog 7 #[.int .u8 (a : Int), .int .u8 (b : Int), .int .u8 (p : Int)] w fun e w' => e = .returned (.bool true) ∧ Below w.heap.size w w' := by
  have sg : IntKind.u8.signed = false := rfl
  have H1 := hidD H1
  have H3 := hidD H3
  go_enter Try.func7, Try.ntmps7
  go_wp2_with (first | (go_at_call 15; refine (live_any _).mono ?_; rintro e w2 ⟨rfl, rfl⟩) | (go_at_call 18; refine (H3.out _).mono ?_; rintro e w2 ⟨rfl, rfl⟩) | (go_at_call 16; refine (H1.out _ (by assumption) _).mono ?_; rintro e w2 ⟨rfl, rfl⟩))
  go_ret
  exact ⟨by first | rfl | (simp; done), Below.refl _ _⟩

set_option maxRecDepth 100000 in
set_option maxHeartbeats 1600000 in
theorem bin_uplo (a b p P n K : Nat) (av aq : Nat → Nat) (X Y : Int) (hp : p < 256) (ha : a < 256) (hb : b < 256) (hP : P < 256) (hn : n < 256) (hs : av b < 256) (hq : aq b < 256) (hd : av n < 256) (hr : aq n < 256)
    (H1 : ∀ m : Nat, m < 256 → W1 16 #[.int .u8 (a : Int), .int .u8 (m : Int), .int .u8 (P : Int)] (.tuple #[.int .u8 (av m : Int), .int .u8 (aq m : Int)]))
    (H3 : W1 18 #[.int .u8 (a : Int), .int .u8 (b : Int), .int .u8 (P : Int)] (.tuple #[.int .u8 (av n : Int), .int .u8 (aq n : Int)]))
    (e1 : bits .andNot .u8 (p : Int) 8 = (P : Int)) (e2 : bits .and .u8 (P : Int) 1 = (cyN P : Int)) (hc : cyN P < 2) (e3 : bits .and .u8 (aq b : Int) 1 = (cyN (aq b) : Int)) (hc2 : cyN (aq b) < 2)
    (e4 : (av b : Int) + 256 * (cyN (aq b) : Int) = (a : Int) + (b : Int) + (cyN P : Int)) (e5 : bits .xor .u8 IntKind.u8.max (b : Int) = (n : Int))
    (e6 : s8 a + s8 b + (cyN P : Int) = X) (e7 : s8 a - s8 b - 1 + (cyN P : Int) = Y) (w1 : IntKind.i8.wrap (a : Int) = s8 a) (w2 : IntKind.i8.wrap (b : Int) = s8 b) (b1 : -128 ≤ s8 a ∧ s8 a < 128) (b2 : -128 ≤ s8 b ∧ s8 b < 128)
    (f1 : (bits .and .u8 (aq b : Int) 64 != 0) = true) (f2 : (bits .and .u8 (aq n : Int) 64 != 0) = true) (hx : ¬ X < -128 ∧ 127 < X) (hy : Y < -128)
    (f3 : (bits .and .u8 (aq b : Int) 2 != 0) = ((av b : Int) == 0)) (f4 : (bits .and .u8 (aq b : Int) 128 != 0) = decide (128 ≤ (av b : Int)))
    (f5 : bits .andNot .u8 (aq b : Int) 195 = (K : Int)) (f6 : bits .andNot .u8 (P : Int) 195 = (K : Int)) (f7 : bits .andNot .u8 (aq n : Int) 195 = (K : Int)) (w : World) : Calls Try.prog 7 #[.int .u8 (a : Int), .int .u8 (b : Int), .int .u8 (p : Int)] w fun e w' => e = .returned (.bool true) ∧ Below w.heap.size w w' := by
  have sg : IntKind.u8.signed = false := rfl
  have H1 := hidD H1
  have H3 := hidD H3
  go_enter Try.func7, Try.ntmps7
  go_wp2_with (first | (go_at_call 15; refine (live_any _).mono ?_; rintro e w2 ⟨rfl, rfl⟩) | (go_at_call 18; refine (H3.out _).mono ?_; rintro e w2 ⟨rfl, rfl⟩) | (go_at_call 16; refine (H1.out _ (by assumption) _).mono ?_; rintro e w2 ⟨rfl, rfl⟩))
  go_ret
  exact ⟨by first | rfl | (simp; done), Below.refl _ _⟩

set_option maxRecDepth 100000 in
set_option maxHeartbeats 1600000 in
theorem bin_upup (a b p P n K : Nat) (av aq : Nat → Nat) (X Y : Int) (hp : p < 256) (ha : a < 256) (hb : b < 256) (hP : P < 256) (hn : n < 256) (hs : av b < 256) (hq : aq b < 256) (hd : av n < 256) (hr : aq n < 256)
    (H1 : ∀ m : Nat, m < 256 → W1 16 #[.int .u8 (a : Int), .int .u8 (m : Int), .int .u8 (P : Int)] (.tuple #[.int .u8 (av m : Int), .int .u8 (aq m : Int)]))
    (H3 : W1 18 #[.int .u8 (a : Int), .int .u8 (b : Int), .int .u8 (P : Int)] (.tuple #[.int .u8 (av n : Int), .int .u8 (aq n : Int)]))
    (e1 : bits .andNot .u8 (p : Int) 8 = (P : Int)) (e2 : bits .and .u8 (P : Int) 1 = (cyN P : Int)) (hc : cyN P < 2) (e3 : bits .and .u8 (aq b : Int) 1 = (cyN (aq b) : Int)) (hc2 : cyN (aq b) < 2)
    (e4 : (av b : Int) + 256 * (cyN (aq b) : Int) = (a : Int) + (b : Int) + (cyN P : Int)) (e5 : bits .xor .u8 IntKind.u8.max (b : Int) = (n : Int))
    (e6 : s8 a + s8 b + (cyN P : Int) = X) (e7 : s8 a - s8 b - 1 + (cyN P : Int) = Y) (w1 : IntKind.i8.wrap (a : Int) = s8 a) (w2 : IntKind.i8.wrap (b : Int) = s8 b) (b1 : -128 ≤ s8 a ∧ s8 a < 128) (b2 : -128 ≤ s8 b ∧ s8 b < 128)
    (f1 : (bits .and .u8 (aq b : Int) 64 != 0) = true) (f2 : (bits .and .u8 (aq n : Int) 64 != 0) = true) (hx : ¬ X < -128 ∧ 127 < X) (hy : ¬ Y < -128 ∧ 127 < Y)
    (f3 : (bits .and .u8 (aq b : Int) 2 != 0) = ((av b : Int) == 0)) (f4 : (bits .and .u8 (aq b : Int) 128 != 0) = decide (128 ≤ (av b : Int)))
    (f5 : bits .andNot .u8 (aq b : Int) 195 = (K : Int)) (f6 : bits .andNot .u8 (P : Int) 195 = (K : Int)) (f7 : bits .andNot .u8 (aq n : Int) 195 = (K : Int)) (w : World) : Calls Try.prog 7 #[.int .u8 (a : Int), .int .u8 (b : Int), .int .u8 (p : Int)] w fun e w' => e = .returned (.bool true) ∧ Below w.heap.size w w' := by
  have sg : IntKind.u8.signed = false := rfl
  have H1 := hidD H1
  have H3 := hidD H3
  go_enter Try.func7, Try.ntmps7
  go_wp2_with (first | (go_at_call 15; refine (live_any _).mono ?_; rintro e w2 ⟨rfl, rfl⟩) | (go_at_call 18; refine (H3.out _).mono ?_; rintro e w2 ⟨rfl, rfl⟩) | (go_at_call 16; refine (H1.out _ (by assumption) _).mono ?_; rintro e w2 ⟨rfl, rfl⟩))
  go_ret
  exact ⟨by first | rfl | (simp; done), Below.refl _ _⟩

set_option maxRecDepth 100000 in
set_option maxHeartbeats 1600000 in
theorem bin_upin (a b p P n K : Nat) (av aq : Nat → Nat) (X Y : Int) (hp : p < 256) (ha : a < 256) (hb : b < 256) (hP : P < 256) (hn : n < 256) (hs : av b < 256) (hq : aq b < 256) (hd : av n < 256) (hr : aq n < 256)
    (H1 : ∀ m : Nat, m < 256 → W1 16 #[.int .u8 (a : Int), .int .u8 (m : Int), .int .u8 (P : Int)] (.tuple #[.int .u8 (av m : Int), .int .u8 (aq m : Int)]))
    (H3 : W1 18 #[.int .u8 (a : Int), .int .u8 (b : Int), .int .u8 (P : Int)] (.tuple #[.int .u8 (av n : Int), .int .u8 (aq n : Int)]))
    (e1 : bits .andNot .u8 (p : Int) 8 = (P : Int)) (e2 : bits .and .u8 (P : Int) 1 = (cyN P : Int)) (hc : cyN P < 2) (e3 : bits .and .u8 (aq b : Int) 1 = (cyN (aq b) : Int)) (hc2 : cyN (aq b) < 2)
    (e4 : (av b : Int) + 256 * (cyN (aq b) : Int) = (a : Int) + (b : Int) + (cyN P : Int)) (e5 : bits .xor .u8 IntKind.u8.max (b : Int) = (n : Int))
    (e6 : s8 a + s8 b + (cyN P : Int) = X) (e7 : s8 a - s8 b - 1 + (cyN P : Int) = Y) (w1 : IntKind.i8.wrap (a : Int) = s8 a) (w2 : IntKind.i8.wrap (b : Int) = s8 b) (b1 : -128 ≤ s8 a ∧ s8 a < 128) (b2 : -128 ≤ s8 b ∧ s8 b < 128)
    (f1 : (bits .and .u8 (aq b : Int) 64 != 0) = true) (f2 : (bits .and .u8 (aq n : Int) 64 != 0) = false) (hx : ¬ X < -128 ∧ 127 < X) (hy : ¬ Y < -128 ∧ ¬ 127 < Y)
    (f3 : (bits .and .u8 (aq b : Int) 2 != 0) = ((av b : Int) == 0)) (f4 : (bits .and .u8 (aq b : Int) 128 != 0) = decide (128 ≤ (av b : Int)))
    (f5 : bits .andNot .u8 (aq b : Int) 195 = (K : Int)) (f6 : bits .andNot .u8 (P : Int) 195 = (K : Int)) (f7 : bits .andNot .u8 (aq n : Int) 195 = (K : Int)) (w : World) : Calls Try.prog 7 #[.int .u8 (a : Int), .int .u8 (b : Int), .int .u8 (p : Int)] w fun e w' => e = .returned (.bool true) ∧ Below w.heap.size w w' := by
  have sg : IntKind.u8.signed = false := rfl
  have H1 := hidD H1
  have H3 := hidD H3
  go_enter Try.func7, Try.ntmps7
  go_wp2_with (first | (go_at_call 15; refine (live_any _).mono ?_; rintro e w2 ⟨rfl, rfl⟩) | (go_at_call 18; refine (H3.out _).mono ?_; rintro e w2 ⟨rfl, rfl⟩) | (go_at_call 16; refine (H1.out _ (by assumption) _).mono ?_; rintro e w2 ⟨rfl, rfl⟩))
  go_ret
  exact ⟨by first | rfl | (simp; done), Below.refl _ _⟩

set_option maxRecDepth 100000 in
set_option maxHeartbeats 1600000 in
theorem bin_inlo (a b p P n K : Nat) (av aq : Nat → Nat) (X Y : Int) (hp : p < 256) (ha : a < 256) (hb : b < 256) (hP : P < 256) (hn : n < 256) (hs : av b < 256) (hq : aq b < 256) (hd : av n < 256) (hr : aq n < 256)
    (H1 : ∀ m : Nat, m < 256 → W1 16 #[.int .u8 (a : Int), .int .u8 (m : Int), .int .u8 (P : Int)] (.tuple #[.int .u8 (av m : Int), .int .u8 (aq m : Int)]))
    (H3 : W1 18 #[.int .u8 (a : Int), .int .u8 (b : Int), .int .u8 (P : Int)] (.tuple #[.int .u8 (av n : Int), .int .u8 (aq n : Int)]))
    (e1 : bits .andNot .u8 (p : Int) 8 = (P : Int)) (e2 : bits .and .u8 (P : Int) 1 = (cyN P : Int)) (hc : cyN P < 2) (e3 : bits .and .u8 (aq b : Int) 1 = (cyN (aq b) : Int)) (hc2 : cyN (aq b) < 2)
    (e4 : (av b : Int) + 256 * (cyN (aq b) : Int) = (a : Int) + (b : Int) + (cyN P : Int)) (e5 : bits .xor .u8 IntKind.u8.max (b : Int) = (n : Int))
    (e6 : s8 a + s8 b + (cyN P : Int) = X) (e7 : s8 a - s8 b - 1 + (cyN P : Int) = Y) (w1 : IntKind.i8.wrap (a : Int) = s8 a) (w2 : IntKind.i8.wrap (b : Int) = s8 b) (b1 : -128 ≤ s8 a ∧ s8 a < 128) (b2 : -128 ≤ s8 b ∧ s8 b < 128)
    (f1 : (bits .and .u8 (aq b : Int) 64 != 0) = false) (f2 : (bits .and .u8 (aq n : Int) 64 != 0) = true) (hx : ¬ X < -128 ∧ ¬ 127 < X) (hy : Y < -128)
    (f3 : (bits .and .u8 (aq b : Int) 2 != 0) = ((av b : Int) == 0)) (f4 : (bits .and .u8 (aq b : Int) 128 != 0) = decide (128 ≤ (av b : Int)))
    (f5 : bits .andNot .u8 (aq b : Int) 195 = (K : Int)) (f6 : bits .andNot .u8 (P : Int) 195 = (K : Int)) (f7 : bits .andNot .u8 (aq n : Int) 195 = (K : Int)) (w : World) : Calls Try.prog 7 #[.int .u8 (a : Int), .int .u8 (b : Int), .int .u8 (p : Int)] w fun e w' => e = .returned (.bool true) ∧ Below w.heap.size w w' := by
  have sg : IntKind.u8.signed = false := rfl
  have H1 := hidD H1
  have H3 := hidD H3
  go_enter Try.func7, Try.ntmps7
  go_wp2_with (first | (go_at_call 15; refine (live_any _).mono ?_; rintro e w2 ⟨rfl, rfl⟩) | (go_at_call 18; refine (H3.out _).mono ?_; rintro e w2 ⟨rfl, rfl⟩) | (go_at_call 16; refine (H1.out _ (by assumption) _).mono ?_; rintro e w2 ⟨rfl, rfl⟩))
  go_ret
  exact ⟨by first | rfl | (simp; done), Below.refl _ _⟩

set_option maxRecDepth 100000 in
set_option maxHeartbeats 1600000 in
theorem bin_inup (a b p P n K : Nat) (av aq : Nat → Nat) (X Y : Int) (hp : p < 256) (ha : a < 256) (hb : b < 256) (hP : P < 256) (hn : n < 256) (hs : av b < 256) (hq : aq b < 256) (hd : av n < 256) (hr : aq n < 256)
    (H1 : ∀ m : Nat, m < 256 → W1 16 #[.int .u8 (a : Int), .int .u8 (m : Int), .int .u8 (P : Int)] (.tuple #[.int .u8 (av m : Int), .int .u8 (aq m : Int)]))
    (H3 : W1 18 #[.int .u8 (a : Int), .int .u8 (b : Int), .int .u8 (P : Int)] (.tuple #[.int .u8 (av n : Int), .int .u8 (aq n : Int)]))
    (e1 : bits .andNot .u8 (p : Int) 8 = (P : Int)) (e2 : bits .and .u8 (P : Int) 1 = (cyN P : Int)) (hc : cyN P < 2) (e3 : bits .and .u8 (aq b : Int) 1 = (cyN (aq b) : Int)) (hc2 : cyN (aq b) < 2)
    (e4 : (av b : Int) + 256 * (cyN (aq b) : Int) = (a : Int) + (b : Int) + (cyN P : Int)) (e5 : bits .xor .u8 IntKind.u8.max (b : Int) = (n : Int))
    (e6 : s8 a + s8 b + (cyN P : Int) = X) (e7 : s8 a - s8 b - 1 + (cyN P : Int) = Y) (w1 : IntKind.i8.wrap (a : Int) = s8 a) (w2 : IntKind.i8.wrap (b : Int) = s8 b) (b1 : -128 ≤ s8 a ∧ s8 a < 128) (b2 : -128 ≤ s8 b ∧ s8 b < 128)
    (f1 : (bits .and .u8 (aq b : Int) 64 != 0) = false) (f2 : (bits .and .u8 (aq n : Int) 64 != 0) = true) (hx : ¬ X < -128 ∧ ¬ 127 < X) (hy : ¬ Y < -128 ∧ 127 < Y)
    (f3 : (bits .and .u8 (aq b : Int) 2 != 0) = ((av b : Int) == 0)) (f4 : (bits .and .u8 (aq b : Int) 128 != 0) = decide (128 ≤ (av b : Int)))
    (f5 : bits .andNot .u8 (aq b : Int) 195 = (K : Int)) (f6 : bits .andNot .u8 (P : Int) 195 = (K : Int)) (f7 : bits .andNot .u8 (aq n : Int) 195 = (K : Int)) (w : World) : Calls Try.prog 7 #[.int .u8 (a : Int), .int .u8 (b : Int), .int .u8 (p : Int)] w fun e w' => e = .returned (.bool true) ∧ Below w.heap.size w w' := by
  have sg : IntKind.u8.signed = false := rfl
  have H1 := hidD H1
  have H3 := hidD H3
  go_enter Try.func7, Try.ntmps7
  go_wp2_with (first | (go_at_call 15; refine (live_any _).mono ?_; rintro e w2 ⟨rfl, rfl⟩) | (go_at_call 18; refine (H3.out _).mono ?_; rintro e w2 ⟨rfl, rfl⟩) | (go_at_call 16; refine (H1.out _ (by assumption) _).mono ?_; rintro e w2 ⟨rfl, rfl⟩))
  go_ret
  exact ⟨by first | rfl | (simp; done), Below.refl _ _⟩

set_option maxRecDepth 100000 in
set_option maxHeartbeats 1600000 in
theorem bin_inin (a b p P n K : Nat) (av aq : Nat → Nat) (X Y : Int) (hp : p < 256) (ha : a < 256) (hb : b < 256) (hP : P < 256) (hn : n < 256) (hs : av b < 256) (hq : aq b < 256) (hd : av n < 256) (hr : aq n < 256)
    (H1 : ∀ m : Nat, m < 256 → W1 16 #[.int .u8 (a : Int), .int .u8 (m : Int), .int .u8 (P : Int)] (.tuple #[.int .u8 (av m : Int), .int .u8 (aq m : Int)]))
    (H3 : W1 18 #[.int .u8 (a : Int), .int .u8 (b : Int), .int .u8 (P : Int)] (.tuple #[.int .u8 (av n : Int), .int .u8 (aq n : Int)]))
    (e1 : bits .andNot .u8 (p : Int) 8 = (P : Int)) (e2 : bits .and .u8 (P : Int) 1 = (cyN P : Int)) (hc : cyN P < 2) (e3 : bits .and .u8 (aq b : Int) 1 = (cyN (aq b) : Int)) (hc2 : cyN (aq b) < 2)
    (e4 : (av b : Int) + 256 * (cyN (aq b) : Int) = (a : Int) + (b : Int) + (cyN P : Int)) (e5 : bits .xor .u8 IntKind.u8.max (b : Int) = (n : Int))
    (e6 : s8 a + s8 b + (cyN P : Int) = X) (e7 : s8 a - s8 b - 1 + (cyN P : Int) = Y) (w1 : IntKind.i8.wrap (a : Int) = s8 a) (w2 : IntKind.i8.wrap (b : Int) = s8 b) (b1 : -128 ≤ s8 a ∧ s8 a < 128) (b2 : -128 ≤ s8 b ∧ s8 b < 128)
    (f1 : (bits .and .u8 (aq b : Int) 64 != 0) = false) (f2 : (bits .and .u8 (aq n : Int) 64 != 0) = false) (hx : ¬ X < -128 ∧ ¬ 127 < X) (hy : ¬ Y < -128 ∧ ¬ 127 < Y)
    (f3 : (bits .and .u8 (aq b : Int) 2 != 0) = ((av b : Int) == 0)) (f4 : (bits .and .u8 (aq b : Int) 128 != 0) = decide (128 ≤ (av b : Int)))
    (f5 : bits .andNot .u8 (aq b : Int) 195 = (K : Int)) (f6 : bits .andNot .u8 (P : Int) 195 = (K : Int)) (f7 : bits .andNot .u8 (aq n : Int) 195 = (K : Int)) (w : World) : Calls Try.prog 7 #[.int .u8 (a : Int), .int .u8 (b : Int), .int .u8 (p : Int)] w fun e w' => e = .returned (.bool true) ∧ Below w.heap.size w w' := by
  have sg : IntKind.u8.signed = false := rfl
  have H1 := hidD H1
  have H3 := hidD H3
  go_enter Try.func7, Try.ntmps7
  go_wp2_with (first | (go_at_call 15; refine (live_any _).mono ?_; rintro e w2 ⟨rfl, rfl⟩) | (go_at_call 18; refine (H3.out _).mono ?_; rintro e w2 ⟨rfl, rfl⟩) | (go_at_call 16; refine (H1.out _ (by assumption) _).mono ?_; rintro e w2 ⟨rfl, rfl⟩))
  go_ret
  exact ⟨by first | rfl | (simp; done), Below.refl _ _⟩

theorem aluBinary_any (a b p : Nat) (ha : a < 256) (hb : b < 256) (hp : p < 256) (w : World) : Calls Try.prog 7 #[.int .u8 (a : Int), .int .u8 (b : Int), .int .u8 (p : Int)] w fun e w' => e = .returned (.bool true) ∧ Below w.heap.size w w' := by
  have hD := (noD p hp).1
  have hP := (noD p hp).2
  have e1 := andNot8 p hp
  generalize p &&& 247 = P at *
  have hn : 255 - b < 256 := by omega
  have v1 : ∀ m, addV a m P = sB a m P % 256 := fun m => by unfold addV; rw [hD, if_neg (by decide)]
  have v2 : ∀ m, addF a m P = bf a m P := fun m => by unfold addF; rw [hD, if_neg (by decide)]
  have H1 : ∀ m : Nat, m < 256 → W1 16 #[.int .u8 (a : Int), .int .u8 (m : Int), .int .u8 (P : Int)] (.tuple #[.int .u8 ((sB a m P % 256 : Nat) : Int), .int .u8 (bf a m P : Int)]) := fun m hm => by rw [← v1, ← v2]; exact add_any a m P ha hm hP
  have H3 : W1 18 #[.int .u8 (a : Int), .int .u8 (b : Int), .int .u8 (P : Int)] (.tuple #[.int .u8 ((sB a (255 - b) P % 256 : Nat) : Int), .int .u8 (bf a (255 - b) P : Int)]) := by
    have h := sub_any a b P ha hb hP
    unfold subV subF at h
    rw [hD, if_neg (by decide)] at h
    exact h
  obtain ⟨g1, g2, g3, g4, g5⟩ := bf_is a b P hP
  obtain ⟨k1, k2, k3, k4, k5⟩ := bf_is a (255 - b) P hP
  have hq := bf_lt (a := a) (b := b) hP
  have hr := bf_lt (a := a) (b := 255 - b) hP
  have hc := cy_lt P
  have e4 : ((sB a b P % 256 : Nat) : Int) + 256 * (cyN (bf a b P) : Int) = (a : Int) + (b : Int) + (cyN P : Int) := by
    show _ + 256 * ((bf a b P % 2 : Nat) : Int) = _
    rw [g1]
    have hS := sB_lt (p := P) ha hb
    have hu : sB a b P = a + b + cyN P := rfl
    by_cases h : 255 < sB a b P
    · rw [decide_eq_true h, Bool.toNat_true]; omega
    · rw [decide_eq_false h, Bool.toNat_false]; omega
  have f3 : (bits .and .u8 (bf a b P : Int) 2 != 0) = (((sB a b P % 256 : Nat) : Int) == 0) := by rw [and2_ne _ hq, g4, is_zero]
  have f4 : (bits .and .u8 (bf a b P : Int) 128 != 0) = decide (128 ≤ ((sB a b P % 256 : Nat) : Int)) := by rw [and128_ne _ hq, g3, ge_nat]
  have f5 : bits .andNot .u8 (bf a b P : Int) 195 = ((P &&& 60 : Nat) : Int) := by rw [andNot195 _ hq, g5]
  have f6 := andNot195 P hP
  have f7 : bits .andNot .u8 (bf a (255 - b) P : Int) 195 = ((P &&& 60 : Nat) : Int) := by rw [andNot195 _ hr, k5]
  have f1 : (bits .and .u8 (bf a b P : Int) 64 != 0) = decide (s8 a + s8 b + (cyN P : Int) < -128 ∨ 127 < s8 a + s8 b + (cyN P : Int)) := by rw [and64_ne _ hq, g2, ov_signed a b P ha hb]
  have f2 : (bits .and .u8 (bf a (255 - b) P : Int) 64 != 0) = decide (s8 a - s8 b - 1 + (cyN P : Int) < -128 ∨ 127 < s8 a - s8 b - 1 + (cyN P : Int)) := by
    rw [and64_ne _ hr, k2, ov_signed a (255 - b) P ha hn, s8_not hb, show s8 a + (-1 - s8 b) + (cyN P : Int) = s8 a - s8 b - 1 + (cyN P : Int) by omega]
  have go : ∀ X Y : Int, s8 a + s8 b + (cyN P : Int) = X → s8 a - s8 b - 1 + (cyN P : Int) = Y → Calls Try.prog 7 #[.int .u8 (a : Int), .int .u8 (b : Int), .int .u8 (p : Int)] w fun e w' => e = .returned (.bool true) ∧ Below w.heap.size w w' := by
    intro X Y hX hY
    rw [hX] at f1
    rw [hY] at f2
    have hs1 : sB a b P % 256 < 256 := Nat.mod_lt _ (by decide)
    have hd1 : sB a (255 - b) P % 256 < 256 := Nat.mod_lt _ (by decide)
    have c2 := cy_lt (bf a b P)
    have e2 := and1N P hP
    have e3 := and1N _ hq
    have e5 := max_xor b hb
    have w1 := wrap_i8 a ha
    have w2 := wrap_i8 b hb
    have b1 := s8_lt ha
    have b2 := s8_lt hb
    rcases (by omega : X < -128 ∨ (¬ X < -128 ∧ 127 < X) ∨ (¬ X < -128 ∧ ¬ 127 < X)) with x | x | x <;> rcases (by omega : Y < -128 ∨ (¬ Y < -128 ∧ 127 < Y) ∨ (¬ Y < -128 ∧ ¬ 127 < Y)) with y | y | y
    · rw [decide_eq_true (by omega)] at f1; rw [decide_eq_true (by omega)] at f2; exact bin_lolo a b p P (255 - b) (P &&& 60) (fun m => sB a m P % 256) (fun m => bf a m P) X Y hp ha hb hP hn hs1 hq hd1 hr H1 H3 e1 e2 hc e3 c2 e4 e5 hX hY w1 w2 b1 b2 f1 f2 x y f3 f4 f5 f6 f7 w
    · rw [decide_eq_true (by omega)] at f1; rw [decide_eq_true (by omega)] at f2; exact bin_loup a b p P (255 - b) (P &&& 60) (fun m => sB a m P % 256) (fun m => bf a m P) X Y hp ha hb hP hn hs1 hq hd1 hr H1 H3 e1 e2 hc e3 c2 e4 e5 hX hY w1 w2 b1 b2 f1 f2 x y f3 f4 f5 f6 f7 w
    · rw [decide_eq_true (by omega)] at f1; rw [decide_eq_false (by omega)] at f2; exact bin_loin a b p P (255 - b) (P &&& 60) (fun m => sB a m P % 256) (fun m => bf a m P) X Y hp ha hb hP hn hs1 hq hd1 hr H1 H3 e1 e2 hc e3 c2 e4 e5 hX hY w1 w2 b1 b2 f1 f2 x y f3 f4 f5 f6 f7 w
    · rw [decide_eq_true (by omega)] at f1; rw [decide_eq_true (by omega)] at f2; exact bin_uplo a b p P (255 - b) (P &&& 60) (fun m => sB a m P % 256) (fun m => bf a m P) X Y hp ha hb hP hn hs1 hq hd1 hr H1 H3 e1 e2 hc e3 c2 e4 e5 hX hY w1 w2 b1 b2 f1 f2 x y f3 f4 f5 f6 f7 w
    · rw [decide_eq_true (by omega)] at f1; rw [decide_eq_true (by omega)] at f2; exact bin_upup a b p P (255 - b) (P &&& 60) (fun m => sB a m P % 256) (fun m => bf a m P) X Y hp ha hb hP hn hs1 hq hd1 hr H1 H3 e1 e2 hc e3 c2 e4 e5 hX hY w1 w2 b1 b2 f1 f2 x y f3 f4 f5 f6 f7 w
    · rw [decide_eq_true (by omega)] at f1; rw [decide_eq_false (by omega)] at f2; exact bin_upin a b p P (255 - b) (P &&& 60) (fun m => sB a m P % 256) (fun m => bf a m P) X Y hp ha hb hP hn hs1 hq hd1 hr H1 H3 e1 e2 hc e3 c2 e4 e5 hX hY w1 w2 b1 b2 f1 f2 x y f3 f4 f5 f6 f7 w
    · rw [decide_eq_false (by omega)] at f1; rw [decide_eq_true (by omega)] at f2; exact bin_inlo a b p P (255 - b) (P &&& 60) (fun m => sB a m P % 256) (fun m => bf a m P) X Y hp ha hb hP hn hs1 hq hd1 hr H1 H3 e1 e2 hc e3 c2 e4 e5 hX hY w1 w2 b1 b2 f1 f2 x y f3 f4 f5 f6 f7 w
    · rw [decide_eq_false (by omega)] at f1; rw [decide_eq_true (by omega)] at f2; exact bin_inup a b p P (255 - b) (P &&& 60) (fun m => sB a m P % 256) (fun m => bf a m P) X Y hp ha hb hP hn hs1 hq hd1 hr H1 H3 e1 e2 hc e3 c2 e4 e5 hX hY w1 w2 b1 b2 f1 f2 x y f3 f4 f5 f6 f7 w
    · rw [decide_eq_false (by omega)] at f1; rw [decide_eq_false (by omega)] at f2; exact bin_inin a b p P (255 - b) (P &&& 60) (fun m => sB a m P % 256) (fun m => bf a m P) X Y hp ha hb hP hn hs1 hq hd1 hr H1 H3 e1 e2 hc e3 c2 e4 e5 hX hY w1 w2 b1 b2 f1 f2 x y f3 f4 f5 f6 f7 w
  exact go _ _ rfl rfl
end Go.Proofs.Ytiipfljdkbdbbaa
