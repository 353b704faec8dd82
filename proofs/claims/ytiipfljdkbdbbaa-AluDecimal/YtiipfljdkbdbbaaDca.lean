/- AluDecimal. -/
import Derived.Test.YtiipfljdkbdbbaaLiv
import Derived.Test.YtiipfljdkbdbbaaAlu
import Derived.Test.YtiipfljdkbdbbaaDcp
import Derived.Below
namespace Go.Proofs.Ytiipfljdkbdbbaa
open Go.RowKit
set_option linter.unusedVariables false

theorem or8 : ∀ v < 256, bits .or .u8 ((v : Nat) : Int) 8 = ((v ||| 8 : Nat) : Int) := by decide +kernel
theorem and8_ne : ∀ v < 256, (bits .and .u8 ((v : Nat) : Int) 8 != 0) = decide (v / 8 % 2 = 1) := by decide +kernel
theorem pk_int (n : Nat) : Value.int .u8 ((n : Int) / 10 * 16 + (n : Int) % 10) = .int .u8 ((pk n : Nat) : Int) := by
  rw [show (n : Int) / 10 * 16 + (n : Int) % 10 = ((pk n : Nat) : Int) by unfold pk; omega]

set_option maxRecDepth 100000 in
set_option maxHeartbeats 1600000 in
theorem dec_00 (x y n k : Int) (p P X Y s r : Nat) (q f : Nat) (L : Int) (hx : ¬ x < 0) (ex : x = n) (hy : ¬ y < 0) (ey : y = k) (bx : -9223372036854775808 ≤ x ∧ x < 9223372036854775808) (by1 : -9223372036854775808 ≤ y ∧ y < 9223372036854775808) (hn : 0 ≤ n) (hk : 0 ≤ k)
    (e1 : Value.int .i64 (n % 100) = .int .i64 (X : Int)) (e2 : Value.int .i64 (k % 100) = .int .i64 (Y : Int)) (hX : X < 100) (hY : Y < 100) (a1 : Value.int .u8 ((X : Int) / 10 * 16 + (X : Int) % 10) = .int .u8 (pk X : Int)) (a2 : Value.int .u8 ((Y : Int) / 10 * 16 + (Y : Int) % 10) = .int .u8 (pk Y : Int))
    (e3 : bits .or .u8 (p : Int) 8 = (P : Int)) (e4 : bits .and .u8 (P : Int) 1 = (cyN P : Int)) (hc : cyN P < 2)
    (H1 : W1 16 #[.int .u8 (pk X : Int), .int .u8 (pk Y : Int), .int .u8 (P : Int)] (.tuple #[.int .u8 (pk s : Int), .int .u8 (q : Int)]))
    (H2 : W1 18 #[.int .u8 (pk X : Int), .int .u8 (pk Y : Int), .int .u8 (P : Int)] (.tuple #[.int .u8 (pk r : Int), .int .u8 (f : Int)]))
    (H3 : W1 20 #[.int .u8 (pk X : Int), .int .u8 (pk Y : Int), .int .u8 (P : Int)] (.tuple #[.int .u8 (pk s : Int), .int .u8 (pk r : Int), .bool true]))
    (T : Nat) (e5 : (X : Int) + (Y : Int) + (cyN P : Int) = (T : Int)) (e6 : (X : Int) - (Y : Int) - 1 + (cyN P : Int) = L) (hL : -101 < L ∧ L < 101) (hT : T < 300)
    (g1 : (bits .and .u8 (q : Int) 1 != 0) = decide ((99 : Int) < (T : Int))) (g2 : (bits .and .u8 (f : Int) 1 != 0) = decide (0 ≤ L)) (g3 : (bits .and .u8 (q : Int) 8 != 0) = true)
    (e7 : Value.int .i64 ((T : Int) % 100) = .int .i64 (s : Int)) (e8 : Value.int .i64 ((L + 100) % 100) = .int .i64 (r : Int)) (e9 : Value.int .i64 (L % 100) = .int .i64 (r : Int)) (a3 : Value.int .u8 ((s : Int) / 10 * 16 + (s : Int) % 10) = .int .u8 (pk s : Int)) (a4 : Value.int .u8 ((r : Int) / 10 * 16 + (r : Int) % 10) = .int .u8 (pk r : Int)) (hs : s < 100) (hr : r < 100) (w : World) : Calls Try.prog 8 #[.int .i64 x, .int .i64 y, .int .u8 (p : Int)] w fun e w' => e = .returned (.bool true) ∧ Below w.heap.size w w' := by
  have H1 := hidD H1
  have H2 := hidD H2
  have H3 := hidD H3
  go_enter Try.func8, Try.ntmps8
  go_wp2_with (first | (go_at_call 15; refine (live_any _).mono ?_; rintro e w2 ⟨rfl, rfl⟩) | (go_at_call 16; refine (H1.out _).mono ?_; rintro e w2 ⟨rfl, rfl⟩) | (go_at_call 18; refine (H2.out _).mono ?_; rintro e w2 ⟨rfl, rfl⟩) | (go_at_call 20; refine (H3.out _).mono ?_; rintro e w2 ⟨rfl, rfl⟩))
  go_ret
  exact ⟨by first | rfl | (simp; done), Below.refl _ _⟩

set_option maxRecDepth 100000 in
set_option maxHeartbeats 1600000 in
theorem dec_01 (x y n k : Int) (p P X Y s r : Nat) (q f : Nat) (L : Int) (hx : ¬ x < 0) (ex : x = n) (hy : y < 0) (ey : -(y + 1) = k) (bx : -9223372036854775808 ≤ x ∧ x < 9223372036854775808) (by1 : -9223372036854775808 ≤ y ∧ y < 9223372036854775808) (hn : 0 ≤ n) (hk : 0 ≤ k)
    (e1 : Value.int .i64 (n % 100) = .int .i64 (X : Int)) (e2 : Value.int .i64 (k % 100) = .int .i64 (Y : Int)) (hX : X < 100) (hY : Y < 100) (a1 : Value.int .u8 ((X : Int) / 10 * 16 + (X : Int) % 10) = .int .u8 (pk X : Int)) (a2 : Value.int .u8 ((Y : Int) / 10 * 16 + (Y : Int) % 10) = .int .u8 (pk Y : Int))
    (e3 : bits .or .u8 (p : Int) 8 = (P : Int)) (e4 : bits .and .u8 (P : Int) 1 = (cyN P : Int)) (hc : cyN P < 2)
    (H1 : W1 16 #[.int .u8 (pk X : Int), .int .u8 (pk Y : Int), .int .u8 (P : Int)] (.tuple #[.int .u8 (pk s : Int), .int .u8 (q : Int)]))
    (H2 : W1 18 #[.int .u8 (pk X : Int), .int .u8 (pk Y : Int), .int .u8 (P : Int)] (.tuple #[.int .u8 (pk r : Int), .int .u8 (f : Int)]))
    (H3 : W1 20 #[.int .u8 (pk X : Int), .int .u8 (pk Y : Int), .int .u8 (P : Int)] (.tuple #[.int .u8 (pk s : Int), .int .u8 (pk r : Int), .bool true]))
    (T : Nat) (e5 : (X : Int) + (Y : Int) + (cyN P : Int) = (T : Int)) (e6 : (X : Int) - (Y : Int) - 1 + (cyN P : Int) = L) (hL : -101 < L ∧ L < 101) (hT : T < 300)
    (g1 : (bits .and .u8 (q : Int) 1 != 0) = decide ((99 : Int) < (T : Int))) (g2 : (bits .and .u8 (f : Int) 1 != 0) = decide (0 ≤ L)) (g3 : (bits .and .u8 (q : Int) 8 != 0) = true)
    (e7 : Value.int .i64 ((T : Int) % 100) = .int .i64 (s : Int)) (e8 : Value.int .i64 ((L + 100) % 100) = .int .i64 (r : Int)) (e9 : Value.int .i64 (L % 100) = .int .i64 (r : Int)) (a3 : Value.int .u8 ((s : Int) / 10 * 16 + (s : Int) % 10) = .int .u8 (pk s : Int)) (a4 : Value.int .u8 ((r : Int) / 10 * 16 + (r : Int) % 10) = .int .u8 (pk r : Int)) (hs : s < 100) (hr : r < 100) (w : World) : Calls Try.prog 8 #[.int .i64 x, .int .i64 y, .int .u8 (p : Int)] w fun e w' => e = .returned (.bool true) ∧ Below w.heap.size w w' := by
  have H1 := hidD H1
  have H2 := hidD H2
  have H3 := hidD H3
  go_enter Try.func8, Try.ntmps8
  go_wp2_with (first | (go_at_call 15; refine (live_any _).mono ?_; rintro e w2 ⟨rfl, rfl⟩) | (go_at_call 16; refine (H1.out _).mono ?_; rintro e w2 ⟨rfl, rfl⟩) | (go_at_call 18; refine (H2.out _).mono ?_; rintro e w2 ⟨rfl, rfl⟩) | (go_at_call 20; refine (H3.out _).mono ?_; rintro e w2 ⟨rfl, rfl⟩))
  go_ret
  exact ⟨by first | rfl | (simp; done), Below.refl _ _⟩

set_option maxRecDepth 100000 in
set_option maxHeartbeats 1600000 in
theorem dec_10 (x y n k : Int) (p P X Y s r : Nat) (q f : Nat) (L : Int) (hx : x < 0) (ex : -(x + 1) = n) (hy : ¬ y < 0) (ey : y = k) (bx : -9223372036854775808 ≤ x ∧ x < 9223372036854775808) (by1 : -9223372036854775808 ≤ y ∧ y < 9223372036854775808) (hn : 0 ≤ n) (hk : 0 ≤ k)
    (e1 : Value.int .i64 (n % 100) = .int .i64 (X : Int)) (e2 : Value.int .i64 (k % 100) = .int .i64 (Y : Int)) (hX : X < 100) (hY : Y < 100) (a1 : Value.int .u8 ((X : Int) / 10 * 16 + (X : Int) % 10) = .int .u8 (pk X : Int)) (a2 : Value.int .u8 ((Y : Int) / 10 * 16 + (Y : Int) % 10) = .int .u8 (pk Y : Int))
    (e3 : bits .or .u8 (p : Int) 8 = (P : Int)) (e4 : bits .and .u8 (P : Int) 1 = (cyN P : Int)) (hc : cyN P < 2)
    (H1 : W1 16 #[.int .u8 (pk X : Int), .int .u8 (pk Y : Int), .int .u8 (P : Int)] (.tuple #[.int .u8 (pk s : Int), .int .u8 (q : Int)]))
    (H2 : W1 18 #[.int .u8 (pk X : Int), .int .u8 (pk Y : Int), .int .u8 (P : Int)] (.tuple #[.int .u8 (pk r : Int), .int .u8 (f : Int)]))
    (H3 : W1 20 #[.int .u8 (pk X : Int), .int .u8 (pk Y : Int), .int .u8 (P : Int)] (.tuple #[.int .u8 (pk s : Int), .int .u8 (pk r : Int), .bool true]))
    (T : Nat) (e5 : (X : Int) + (Y : Int) + (cyN P : Int) = (T : Int)) (e6 : (X : Int) - (Y : Int) - 1 + (cyN P : Int) = L) (hL : -101 < L ∧ L < 101) (hT : T < 300)
    (g1 : (bits .and .u8 (q : Int) 1 != 0) = decide ((99 : Int) < (T : Int))) (g2 : (bits .and .u8 (f : Int) 1 != 0) = decide (0 ≤ L)) (g3 : (bits .and .u8 (q : Int) 8 != 0) = true)
    (e7 : Value.int .i64 ((T : Int) % 100) = .int .i64 (s : Int)) (e8 : Value.int .i64 ((L + 100) % 100) = .int .i64 (r : Int)) (e9 : Value.int .i64 (L % 100) = .int .i64 (r : Int)) (a3 : Value.int .u8 ((s : Int) / 10 * 16 + (s : Int) % 10) = .int .u8 (pk s : Int)) (a4 : Value.int .u8 ((r : Int) / 10 * 16 + (r : Int) % 10) = .int .u8 (pk r : Int)) (hs : s < 100) (hr : r < 100) (w : World) : Calls Try.prog 8 #[.int .i64 x, .int .i64 y, .int .u8 (p : Int)] w fun e w' => e = .returned (.bool true) ∧ Below w.heap.size w w' := by
  have H1 := hidD H1
  have H2 := hidD H2
  have H3 := hidD H3
  go_enter Try.func8, Try.ntmps8
  go_wp2_with (first | (go_at_call 15; refine (live_any _).mono ?_; rintro e w2 ⟨rfl, rfl⟩) | (go_at_call 16; refine (H1.out _).mono ?_; rintro e w2 ⟨rfl, rfl⟩) | (go_at_call 18; refine (H2.out _).mono ?_; rintro e w2 ⟨rfl, rfl⟩) | (go_at_call 20; refine (H3.out _).mono ?_; rintro e w2 ⟨rfl, rfl⟩))
  go_ret
  exact ⟨by first | rfl | (simp; done), Below.refl _ _⟩

set_option maxRecDepth 100000 in
set_option maxHeartbeats 1600000 in
theorem dec_11 (x y n k : Int) (p P X Y s r : Nat) (q f : Nat) (L : Int) (hx : x < 0) (ex : -(x + 1) = n) (hy : y < 0) (ey : -(y + 1) = k) (bx : -9223372036854775808 ≤ x ∧ x < 9223372036854775808) (by1 : -9223372036854775808 ≤ y ∧ y < 9223372036854775808) (hn : 0 ≤ n) (hk : 0 ≤ k)
    (e1 : Value.int .i64 (n % 100) = .int .i64 (X : Int)) (e2 : Value.int .i64 (k % 100) = .int .i64 (Y : Int)) (hX : X < 100) (hY : Y < 100) (a1 : Value.int .u8 ((X : Int) / 10 * 16 + (X : Int) % 10) = .int .u8 (pk X : Int)) (a2 : Value.int .u8 ((Y : Int) / 10 * 16 + (Y : Int) % 10) = .int .u8 (pk Y : Int))
    (e3 : bits .or .u8 (p : Int) 8 = (P : Int)) (e4 : bits .and .u8 (P : Int) 1 = (cyN P : Int)) (hc : cyN P < 2)
    (H1 : W1 16 #[.int .u8 (pk X : Int), .int .u8 (pk Y : Int), .int .u8 (P : Int)] (.tuple #[.int .u8 (pk s : Int), .int .u8 (q : Int)]))
    (H2 : W1 18 #[.int .u8 (pk X : Int), .int .u8 (pk Y : Int), .int .u8 (P : Int)] (.tuple #[.int .u8 (pk r : Int), .int .u8 (f : Int)]))
    (H3 : W1 20 #[.int .u8 (pk X : Int), .int .u8 (pk Y : Int), .int .u8 (P : Int)] (.tuple #[.int .u8 (pk s : Int), .int .u8 (pk r : Int), .bool true]))
    (T : Nat) (e5 : (X : Int) + (Y : Int) + (cyN P : Int) = (T : Int)) (e6 : (X : Int) - (Y : Int) - 1 + (cyN P : Int) = L) (hL : -101 < L ∧ L < 101) (hT : T < 300)
    (g1 : (bits .and .u8 (q : Int) 1 != 0) = decide ((99 : Int) < (T : Int))) (g2 : (bits .and .u8 (f : Int) 1 != 0) = decide (0 ≤ L)) (g3 : (bits .and .u8 (q : Int) 8 != 0) = true)
    (e7 : Value.int .i64 ((T : Int) % 100) = .int .i64 (s : Int)) (e8 : Value.int .i64 ((L + 100) % 100) = .int .i64 (r : Int)) (e9 : Value.int .i64 (L % 100) = .int .i64 (r : Int)) (a3 : Value.int .u8 ((s : Int) / 10 * 16 + (s : Int) % 10) = .int .u8 (pk s : Int)) (a4 : Value.int .u8 ((r : Int) / 10 * 16 + (r : Int) % 10) = .int .u8 (pk r : Int)) (hs : s < 100) (hr : r < 100) (w : World) : Calls Try.prog 8 #[.int .i64 x, .int .i64 y, .int .u8 (p : Int)] w fun e w' => e = .returned (.bool true) ∧ Below w.heap.size w w' := by
  have H1 := hidD H1
  have H2 := hidD H2
  have H3 := hidD H3
  go_enter Try.func8, Try.ntmps8
  go_wp2_with (first | (go_at_call 15; refine (live_any _).mono ?_; rintro e w2 ⟨rfl, rfl⟩) | (go_at_call 16; refine (H1.out _).mono ?_; rintro e w2 ⟨rfl, rfl⟩) | (go_at_call 18; refine (H2.out _).mono ?_; rintro e w2 ⟨rfl, rfl⟩) | (go_at_call 20; refine (H3.out _).mono ?_; rintro e w2 ⟨rfl, rfl⟩))
  go_ret
  exact ⟨by first | rfl | (simp; done), Below.refl _ _⟩

end Go.Proofs.Ytiipfljdkbdbbaa
