/- What the calls answer: shifts: of the program and of the document, in the same words. -/
import Derived.Test.YtiipfljdkbdbbabAlc
namespace Go.Proofs.Ytiipfljdkbdbbab
open Go.RowKit
set_option linter.unusedVariables false

set_option maxRecDepth 100000 in
theorem rol_any (v : Nat) (p : Nat) (hv : v < 256) (hp : p < 256) : W1 6 #[.int .u8 (v : Int), .int .u8 (p : Int)] (.tuple #[.int .u8 ((v * 2 % 256 + p % 2 : Nat) : Int), .int .u8 (fl (v * 2 % 256 + p % 2) (wi p 1 (decide (128 ≤ v))) : Int)]) := by
  intro w
  have e : (v : Int) * 2 % 256 = ((v * 2 % 256 : Nat) : Int) := by omega
  have hn : v * 2 % 256 + p % 2 < 256 := by omega
  have e2 := rol_or v hv (p % 2) (Nat.mod_lt _ (by decide))
  have HC := hidD (carry_any p hp)
  generalize v * 2 % 256 + p % 2 = m at *
  generalize v * 2 % 256 = n at *
  generalize p % 2 = c at *
  go_enter Try.func6, Try.ntmps6
  go_wp2_with (first | (go_at_call 14; refine (HC.out _).mono ?_; rintro e w2 ⟨rfl, rfl⟩) | (go_at_call 15; refine (with_any _ _ _ (by repeat' (first | assumption | decide | apply wi_lt | apply fl_lt)) (by repeat' (first | assumption | decide | apply wi_lt | apply fl_lt)) _).mono ?_; rintro e w2 ⟨rfl, rfl⟩) | (go_at_call 13; refine (flagged_any _ _ (by repeat' (first | assumption | decide | apply wi_lt | apply fl_lt)) (by repeat' (first | assumption | decide | apply wi_lt | apply fl_lt)) _).mono ?_; rintro e w2 ⟨rfl, rfl⟩))
  go_ret2
  exact ⟨by (rw [and128_ne v hv]; rfl), rfl⟩

set_option maxRecDepth 100000 in
theorem ror_any (v : Nat) (p : Nat) (hv : v < 256) (hp : p < 256) : W1 7 #[.int .u8 (v : Int), .int .u8 (p : Int)] (.tuple #[.int .u8 ((v / 2 + p % 2 * 128 : Nat) : Int), .int .u8 (fl (v / 2 + p % 2 * 128) (wi p 1 (decide (v % 2 = 1))) : Int)]) := by
  intro w
  have e : (v : Int) / 2 = ((v / 2 : Nat) : Int) := by omega
  have hc : p % 2 < 2 := Nat.mod_lt _ (by decide)
  have hn : v / 2 + p % 2 * 128 < 256 := by omega
  have e2 := ror_or v hv (p % 2) hc
  have HC := hidD (carry_any p hp)
  generalize v / 2 + p % 2 * 128 = m at *
  generalize v / 2 = n at *
  generalize p % 2 = c at *
  have e4 : (c : Int) * 128 % 256 = (c : Int) * 128 := by omega
  go_enter Try.func7, Try.ntmps7
  go_wp2_with (first | (go_at_call 14; refine (HC.out _).mono ?_; rintro e w2 ⟨rfl, rfl⟩) | (go_at_call 15; refine (with_any _ _ _ (by repeat' (first | assumption | decide | apply wi_lt | apply fl_lt)) (by repeat' (first | assumption | decide | apply wi_lt | apply fl_lt)) _).mono ?_; rintro e w2 ⟨rfl, rfl⟩) | (go_at_call 13; refine (flagged_any _ _ (by repeat' (first | assumption | decide | apply wi_lt | apply fl_lt)) (by repeat' (first | assumption | decide | apply wi_lt | apply fl_lt)) _).mono ?_; rintro e w2 ⟨rfl, rfl⟩))
  go_ret2
  exact ⟨by (rw [and1_ne v hv]; rfl), rfl⟩

end Go.Proofs.Ytiipfljdkbdbbab
