/- What the calls answer: shifts: of the program and of the document, in the same words. -/
import Derived.Test.YtiipfljdkbdbbaaAlc
namespace Go.Proofs.Ytiipfljdkbdbbaa
open Go.RowKit
set_option linter.unusedVariables false

set_option maxRecDepth 100000 in
theorem asl_any (v : Nat) (p : Nat) (hv : v < 256) (hp : p < 256) : W1 32 #[.int .u8 (v : Int), .int .u8 (p : Int)] (.tuple #[.int .u8 ((v * 2 % 256 : Nat) : Int), .int .u8 (fl (v * 2 % 256) (wi p 1 (decide (128 ≤ v))) : Int)]) := by
  intro w
  have e : (v : Int) * 2 % 256 = ((v * 2 % 256 : Nat) : Int) := by omega
  have hn : v * 2 % 256 < 256 := Nat.mod_lt _ (by decide)
  generalize v * 2 % 256 = n at *
  go_enter Try.func32, Try.ntmps32
  go_wp2_with (first | (go_at_call 42; refine (with_any _ _ _ (by repeat' (first | assumption | decide | apply wi_lt | apply fl_lt)) (by repeat' (first | assumption | decide | apply wi_lt | apply fl_lt)) _).mono ?_; rintro e w2 ⟨rfl, rfl⟩) | (go_at_call 56; refine (flagged_any _ _ (by repeat' (first | assumption | decide | apply wi_lt | apply fl_lt)) (by repeat' (first | assumption | decide | apply wi_lt | apply fl_lt)) _).mono ?_; rintro e w2 ⟨rfl, rfl⟩))
  go_ret2
  exact ⟨by (rw [and128_ne v hv]; rfl), rfl⟩

set_option maxRecDepth 100000 in
theorem lsr_any (v : Nat) (p : Nat) (hv : v < 256) (hp : p < 256) : W1 34 #[.int .u8 (v : Int), .int .u8 (p : Int)] (.tuple #[.int .u8 ((v / 2 : Nat) : Int), .int .u8 (fl (v / 2) (wi p 1 (decide (v % 2 = 1))) : Int)]) := by
  intro w
  have e : (v : Int) / 2 = ((v / 2 : Nat) : Int) := by omega
  have hn : v / 2 < 256 := by omega
  generalize v / 2 = n at *
  go_enter Try.func34, Try.ntmps34
  go_wp2_with (first | (go_at_call 42; refine (with_any _ _ _ (by repeat' (first | assumption | decide | apply wi_lt | apply fl_lt)) (by repeat' (first | assumption | decide | apply wi_lt | apply fl_lt)) _).mono ?_; rintro e w2 ⟨rfl, rfl⟩) | (go_at_call 56; refine (flagged_any _ _ (by repeat' (first | assumption | decide | apply wi_lt | apply fl_lt)) (by repeat' (first | assumption | decide | apply wi_lt | apply fl_lt)) _).mono ?_; rintro e w2 ⟨rfl, rfl⟩))
  go_ret2
  exact ⟨by (rw [and1_ne v hv]; rfl), rfl⟩

set_option maxRecDepth 100000 in
theorem rol_any (v : Nat) (p : Nat) (hv : v < 256) (hp : p < 256) : W1 36 #[.int .u8 (v : Int), .int .u8 (p : Int)] (.tuple #[.int .u8 ((v * 2 % 256 + p % 2 : Nat) : Int), .int .u8 (fl (v * 2 % 256 + p % 2) (wi p 1 (decide (128 ≤ v))) : Int)]) := by
  intro w
  have e : (v : Int) * 2 % 256 = ((v * 2 % 256 : Nat) : Int) := by omega
  have hn : v * 2 % 256 + p % 2 < 256 := by omega
  have e2 := rol_or v hv (p % 2) (Nat.mod_lt _ (by decide))
  have HC := hidD (carry_any p hp)
  generalize v * 2 % 256 + p % 2 = m at *
  generalize v * 2 % 256 = n at *
  generalize p % 2 = c at *
  go_enter Try.func36, Try.ntmps36
  go_wp2_with (first | (go_at_call 48; refine (HC.out _).mono ?_; rintro e w2 ⟨rfl, rfl⟩) | (go_at_call 42; refine (with_any _ _ _ (by repeat' (first | assumption | decide | apply wi_lt | apply fl_lt)) (by repeat' (first | assumption | decide | apply wi_lt | apply fl_lt)) _).mono ?_; rintro e w2 ⟨rfl, rfl⟩) | (go_at_call 56; refine (flagged_any _ _ (by repeat' (first | assumption | decide | apply wi_lt | apply fl_lt)) (by repeat' (first | assumption | decide | apply wi_lt | apply fl_lt)) _).mono ?_; rintro e w2 ⟨rfl, rfl⟩))
  go_ret2
  exact ⟨by (rw [and128_ne v hv]; rfl), rfl⟩

set_option maxRecDepth 100000 in
theorem ror_any (v : Nat) (p : Nat) (hv : v < 256) (hp : p < 256) : W1 38 #[.int .u8 (v : Int), .int .u8 (p : Int)] (.tuple #[.int .u8 ((v / 2 + p % 2 * 128 : Nat) : Int), .int .u8 (fl (v / 2 + p % 2 * 128) (wi p 1 (decide (v % 2 = 1))) : Int)]) := by
  intro w
  have e : (v : Int) / 2 = ((v / 2 : Nat) : Int) := by omega
  have hc : p % 2 < 2 := Nat.mod_lt _ (by decide)
  have hn : v / 2 + p % 2 * 128 < 256 := by omega
  have e2 := ror_or v hv (p % 2) hc
  have HC := hidD (carry_any p hp)
  generalize v / 2 + p % 2 * 128 = m at *
  generalize v / 2 = n at *
  generalize p % 2 = c at *
  have e4 : (c : Int) * 128 % 256 = (c : Int) * 128 := by omega
  go_enter Try.func38, Try.ntmps38
  go_wp2_with (first | (go_at_call 48; refine (HC.out _).mono ?_; rintro e w2 ⟨rfl, rfl⟩) | (go_at_call 42; refine (with_any _ _ _ (by repeat' (first | assumption | decide | apply wi_lt | apply fl_lt)) (by repeat' (first | assumption | decide | apply wi_lt | apply fl_lt)) _).mono ?_; rintro e w2 ⟨rfl, rfl⟩) | (go_at_call 56; refine (flagged_any _ _ (by repeat' (first | assumption | decide | apply wi_lt | apply fl_lt)) (by repeat' (first | assumption | decide | apply wi_lt | apply fl_lt)) _).mono ?_; rintro e w2 ⟨rfl, rfl⟩))
  go_ret2
  exact ⟨by (rw [and1_ne v hv]; rfl), rfl⟩

set_option maxRecDepth 100000 in
theorem refAsl_any (v : Nat) (p : Nat) (hv : v < 256) (hp : p < 256) : W1 33 #[.int .u8 (v : Int), .int .u8 (p : Int)] (.tuple #[.int .u8 ((v * 2 % 256 : Nat) : Int), .int .u8 (fl (v * 2 % 256) (wi p 1 (decide (128 ≤ v))) : Int)]) := by
  intro w
  have e : (v : Int) * 2 % 256 = ((v * 2 % 256 : Nat) : Int) := by omega
  have hn : v * 2 % 256 < 256 := Nat.mod_lt _ (by decide)
  generalize v * 2 % 256 = n at *
  go_enter Try.func33, Try.ntmps33
  go_wp2_with (first | (go_at_call 43; refine (refSet_any _ _ _ (by repeat' (first | assumption | decide | apply wi_lt | apply fl_lt)) (by repeat' (first | assumption | decide | apply wi_lt | apply fl_lt)) _).mono ?_; rintro e w2 ⟨rfl, rfl⟩) | (go_at_call 14; refine (refFlags_any _ _ (by repeat' (first | assumption | decide | apply wi_lt | apply fl_lt)) (by repeat' (first | assumption | decide | apply wi_lt | apply fl_lt)) _).mono ?_; rintro e w2 ⟨rfl, rfl⟩))
  go_ret2
  exact ⟨by (rw [is_ge2]; rfl), rfl⟩

set_option maxRecDepth 100000 in
theorem refLsr_any (v : Nat) (p : Nat) (hv : v < 256) (hp : p < 256) : W1 35 #[.int .u8 (v : Int), .int .u8 (p : Int)] (.tuple #[.int .u8 ((v / 2 : Nat) : Int), .int .u8 (fl (v / 2) (wi p 1 (decide (v % 2 = 1))) : Int)]) := by
  intro w
  have e : (v : Int) / 2 = ((v / 2 : Nat) : Int) := by omega
  have hn : v / 2 < 256 := by omega
  generalize v / 2 = n at *
  go_enter Try.func35, Try.ntmps35
  go_wp2_with (first | (go_at_call 43; refine (refSet_any _ _ _ (by repeat' (first | assumption | decide | apply wi_lt | apply fl_lt)) (by repeat' (first | assumption | decide | apply wi_lt | apply fl_lt)) _).mono ?_; rintro e w2 ⟨rfl, rfl⟩) | (go_at_call 14; refine (refFlags_any _ _ (by repeat' (first | assumption | decide | apply wi_lt | apply fl_lt)) (by repeat' (first | assumption | decide | apply wi_lt | apply fl_lt)) _).mono ?_; rintro e w2 ⟨rfl, rfl⟩))
  go_ret2
  exact ⟨by (rw [and1_eq v hv]; rfl), rfl⟩

set_option maxRecDepth 100000 in
theorem refRol_any (v : Nat) (p : Nat) (hv : v < 256) (hp : p < 256) : W1 37 #[.int .u8 (v : Int), .int .u8 (p : Int)] (.tuple #[.int .u8 ((v * 2 % 256 + p % 2 : Nat) : Int), .int .u8 (fl (v * 2 % 256 + p % 2) (wi p 1 (decide (128 ≤ v))) : Int)]) := by
  intro w
  have e : (v : Int) * 2 % 256 = ((v * 2 % 256 : Nat) : Int) := by omega
  have hn : v * 2 % 256 + p % 2 < 256 := by omega
  have e2 := rol_or v hv (p % 2) (Nat.mod_lt _ (by decide))
  have e3 := and1 p hp
  generalize v * 2 % 256 + p % 2 = m at *
  generalize v * 2 % 256 = n at *
  generalize p % 2 = c at *
  go_enter Try.func37, Try.ntmps37
  go_wp2_with (first | (go_at_call 43; refine (refSet_any _ _ _ (by repeat' (first | assumption | decide | apply wi_lt | apply fl_lt)) (by repeat' (first | assumption | decide | apply wi_lt | apply fl_lt)) _).mono ?_; rintro e w2 ⟨rfl, rfl⟩) | (go_at_call 14; refine (refFlags_any _ _ (by repeat' (first | assumption | decide | apply wi_lt | apply fl_lt)) (by repeat' (first | assumption | decide | apply wi_lt | apply fl_lt)) _).mono ?_; rintro e w2 ⟨rfl, rfl⟩))
  go_ret2
  exact ⟨by (rw [is_ge2]; rfl), rfl⟩

set_option maxRecDepth 100000 in
theorem refRor_any (v : Nat) (p : Nat) (hv : v < 256) (hp : p < 256) : W1 39 #[.int .u8 (v : Int), .int .u8 (p : Int)] (.tuple #[.int .u8 ((v / 2 + p % 2 * 128 : Nat) : Int), .int .u8 (fl (v / 2 + p % 2 * 128) (wi p 1 (decide (v % 2 = 1))) : Int)]) := by
  intro w
  have e : (v : Int) / 2 = ((v / 2 : Nat) : Int) := by omega
  have hc : p % 2 < 2 := Nat.mod_lt _ (by decide)
  have hn : v / 2 + p % 2 * 128 < 256 := by omega
  have e2 := ror_or v hv (p % 2) hc
  have e3 := and1 p hp
  generalize v / 2 + p % 2 * 128 = m at *
  generalize v / 2 = n at *
  generalize p % 2 = c at *
  have e4 : (c : Int) * 128 % 256 = (c : Int) * 128 := by omega
  go_enter Try.func39, Try.ntmps39
  go_wp2_with (first | (go_at_call 43; refine (refSet_any _ _ _ (by repeat' (first | assumption | decide | apply wi_lt | apply fl_lt)) (by repeat' (first | assumption | decide | apply wi_lt | apply fl_lt)) _).mono ?_; rintro e w2 ⟨rfl, rfl⟩) | (go_at_call 14; refine (refFlags_any _ _ (by repeat' (first | assumption | decide | apply wi_lt | apply fl_lt)) (by repeat' (first | assumption | decide | apply wi_lt | apply fl_lt)) _).mono ?_; rintro e w2 ⟨rfl, rfl⟩))
  go_ret2
  exact ⟨by (rw [and1_eq v hv]; rfl), rfl⟩

end Go.Proofs.Ytiipfljdkbdbbaa
