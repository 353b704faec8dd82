/- The program: the binary sum, and the small calls in words that stay shut; the document: bit 7. -/
import Derived.Test.YtgbjoblojkmdnaaAlb
import Derived.Test.YtgbjoblojkmdnaaAqp
namespace Go.Proofs.Ytgbjoblojkmdnaa
open Go.RowKit
set_option linter.unusedVariables false

theorem carryN_any (p : Nat) (hp : p < 256) : W1 14 #[.int .u8 (p : Int)] (.int .u8 (cyN p : Int)) := carry_any p hp
theorem lowN_any (p : Nat) (hp : p < 256) : W1 13 #[.int .u8 (p : Int)] (.int .i64 (loN p : Int)) := low_any p hp
theorem highN_any (p : Nat) (hp : p < 256) : W1 11 #[.int .u8 (p : Int)] (.int .i64 (hiN p : Int)) := high_any p hp
theorem and8 : ∀ p < 256, bits .and .u8 ((p : Nat) : Int) 8 = if dD p then 8 else 0 := by decide +kernel
theorem and1N : ∀ p < 256, bits .and .u8 ((p : Nat) : Int) 1 = ((cyN p : Nat) : Int) := by decide +kernel
theorem and15N : ∀ p < 256, bits .and .u8 ((p : Nat) : Int) 15 = ((loN p : Nat) : Int) := by decide +kernel
theorem and240N : ∀ p < 256, bits .and .u8 ((p : Nat) : Int) 240 = ((hiN p : Nat) : Int) := by decide +kernel
theorem high_tab : ∀ n < 1024, (bits .and .i64 (((n : Nat) : Int) / 128) 1 == 1) = b7 n := by decide +kernel
theorem gt_nat (k n : Nat) : decide ((k : Int) < (n : Int)) = decide (k < n) := by
  by_cases h : k < n
  · rw [decide_eq_true h, decide_eq_true (by omega)]
  · rw [decide_eq_false h, decide_eq_false (by omega)]

set_option maxRecDepth 100000 in
set_option maxHeartbeats 1600000 in
theorem binary_any (a b p : Nat) (ha : a < 256) (hb : b < 256) (hp : p < 256) : W1 10 #[.int .u8 (a : Int), .int .u8 (b : Int), .int .u8 (p : Int)] (.tuple #[.int .u8 ((sB a b p % 256 : Nat) : Int), .int .u8 (bf a b p : Int)]) := by
  intro w
  have hc := cy_lt p
  have hs := sB_lt (p := p) ha hb
  have e1 : (a : Int) + b + (cyN p : Int) = ((sB a b p : Nat) : Int) := by unfold sB; omega
  have hg := hidD (gt_nat 255 (sB a b p))
  unfold bf
  generalize sB a b p = s at *
  have e2 : (s : Int) % 256 = ((s % 256 : Nat) : Int) := by omega
  have hr : s % 256 < 256 := Nat.mod_lt _ (by decide)
  generalize s % 256 = r at *
  go_enter Try.func10, Try.ntmps10
  go_wp2_with (first | (go_at_call 14; refine (carryN_any _ (by repeat' (first | assumption | decide | apply wi_lt | apply fl_lt)) _).mono ?_; rintro e w2 ⟨rfl, rfl⟩) | (go_at_call 15; refine (with_any _ _ _ (by repeat' (first | assumption | decide | apply wi_lt | apply fl_lt)) (by repeat' (first | assumption | decide | apply wi_lt | apply fl_lt)) _).mono ?_; rintro e w2 ⟨rfl, rfl⟩) | (go_at_call 16; refine (overflows_any _ _ _ (by repeat' (first | assumption | decide | apply wi_lt | apply fl_lt)) (by repeat' (first | assumption | decide | apply wi_lt | apply fl_lt)) (by repeat' (first | assumption | decide | apply wi_lt | apply fl_lt)) _).mono ?_; rintro e w2 ⟨rfl, rfl⟩) | (go_at_call 19; refine (flagged_any _ _ (by repeat' (first | assumption | decide | apply wi_lt | apply fl_lt)) (by repeat' (first | assumption | decide | apply wi_lt | apply fl_lt)) _).mono ?_; rintro e w2 ⟨rfl, rfl⟩))
  go_ret2
  exact ⟨by rw [← hg.out]; rfl, rfl⟩

end Go.Proofs.Ytgbjoblojkmdnaa
