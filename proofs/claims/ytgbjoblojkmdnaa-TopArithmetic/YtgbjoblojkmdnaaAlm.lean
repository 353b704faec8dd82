/- Sub of the program. -/
import Derived.Test.YtgbjoblojkmdnaaAle
namespace Go.Proofs.Ytgbjoblojkmdnaa
open Go.RowKit
set_option linter.unusedVariables false

theorem xor_all : ∀ b < 256, bits .xor .u8 (if IntKind.u8.signed = true then -1 else IntKind.u8.max) ((b : Nat) : Int) = ((255 - b : Nat) : Int) := by decide +kernel
theorem bin_not (a b p : Nat) (ha : a < 256) (hb : b < 256) (hp : p < 256) : W1 10 #[.int .u8 (a : Int), .int .u8 (bits .xor .u8 (if IntKind.u8.signed = true then -1 else IntKind.u8.max) (b : Int)), .int .u8 (p : Int)] (.tuple #[.int .u8 ((sB a (255 - b) p % 256 : Nat) : Int), .int .u8 (subF a b p : Int)]) := by
  rw [xor_all b hb]; exact binary_any a (255 - b) p ha (by omega) hp

set_option maxRecDepth 100000 in
set_option maxHeartbeats 1600000 in
theorem sub_no (a b p : Nat) (ha : a < 256) (hb : b < 256) (hp : p < 256) (hD : dD p = false) : W1 7 #[.int .u8 (a : Int), .int .u8 (b : Int), .int .u8 (p : Int)] (.tuple #[.int .u8 (subV a b p : Int), .int .u8 (subF a b p : Int)]) := by
  intro w
  have HB := hidD (bin_not a b p ha hb hp)
  have h8 := and8 p hp
  rw [hD] at h8
  rw [if_neg (by decide)] at h8
  have hv : subV a b p = sB a (255 - b) p % 256 := by unfold subV; rw [hD, if_neg (by decide)]
  rw [hv]
  generalize sB a (255 - b) p % 256 = r at *
  generalize subF a b p = F at *
  go_enter Try.func7, Try.ntmps7
  go_wp2_with (go_at_call 10; refine (HB.out _).mono ?_; rintro e w2 ⟨rfl, rfl⟩)
  go_ret2
  exact ⟨rfl, rfl⟩

set_option maxRecDepth 100000 in
set_option maxHeartbeats 1600000 in
theorem sub_pos (a b p : Nat) (ha : a < 256) (hb : b < 256) (hp : p < 256) (hD : dD p = true) (h1 : ¬ hS a b p < 0) : W1 7 #[.int .u8 (a : Int), .int .u8 (b : Int), .int .u8 (p : Int)] (.tuple #[.int .u8 (subV a b p : Int), .int .u8 (subF a b p : Int)]) := by
  intro w
  have HB := hidD (bin_not a b p ha hb hp)
  have h8 := and8 p hp
  rw [hD, if_pos rfl] at h8
  have hc := cy_lt p
  have hla := lo_lt a
  have hlb := lo_lt b
  have hha := hi_lt ha
  have hhb := hi_lt hb
  have hl := lS_lt a b p
  have hbo := bor_lt hl.1 hl.2
  have hl1 := hl.1
  have hl2 := hl.2
  have e1 : (loN a : Int) - (loN b : Int) - 1 + (cyN p : Int) = lS a b p := rfl
  have e2 : (hiN a : Int) - (hiN b : Int) + bor (lS a b p) = hS a b p := rfl
  have hb1 : -256 ≤ hS a b p ∧ hS a b p < 256 := by unfold hS; omega
  have hv : ((subV a b p : Nat) : Int) = hS a b p := by unfold subV fixS; rw [hD, if_pos rfl, if_neg h1]; omega
  rw [hv]
  clear hv hl
  generalize hS a b p = h at *
  generalize lS a b p = l at *
  have HBo := hidD (borrowed_any l hl1 hl2)
  generalize bor l = B at *
  generalize sB a (255 - b) p % 256 = r at *
  generalize subF a b p = F at *
  go_enter Try.func7, Try.ntmps7
  go_wp2_with (first | (go_at_call 10; refine (HB.out _).mono ?_; rintro e w2 ⟨rfl, rfl⟩) | (go_at_call 11; refine (highN_any _ (by repeat' (first | assumption | decide | apply wi_lt | apply fl_lt)) _).mono ?_; rintro e w2 ⟨rfl, rfl⟩) | (go_at_call 13; refine (lowN_any _ (by repeat' (first | assumption | decide | apply wi_lt | apply fl_lt)) _).mono ?_; rintro e w2 ⟨rfl, rfl⟩) | (go_at_call 14; refine (carryN_any _ (by repeat' (first | assumption | decide | apply wi_lt | apply fl_lt)) _).mono ?_; rintro e w2 ⟨rfl, rfl⟩) | (go_at_call 17; refine (HBo.out _).mono ?_; rintro e w2 ⟨rfl, rfl⟩) | (go_at_call 15; refine (with_any _ _ _ (by repeat' (first | assumption | decide | apply wi_lt | apply fl_lt)) (by repeat' (first | assumption | decide | apply wi_lt | apply fl_lt)) _).mono ?_; rintro e w2 ⟨rfl, rfl⟩))
  go_ret2
  exact ⟨rfl, rfl⟩

set_option maxRecDepth 100000 in
set_option maxHeartbeats 1600000 in
theorem sub_neg (a b p : Nat) (ha : a < 256) (hb : b < 256) (hp : p < 256) (hD : dD p = true) (h1 : hS a b p < 0) : W1 7 #[.int .u8 (a : Int), .int .u8 (b : Int), .int .u8 (p : Int)] (.tuple #[.int .u8 (subV a b p : Int), .int .u8 (subF a b p : Int)]) := by
  intro w
  have HB := hidD (bin_not a b p ha hb hp)
  have h8 := and8 p hp
  rw [hD, if_pos rfl] at h8
  have hc := cy_lt p
  have hla := lo_lt a
  have hlb := lo_lt b
  have hha := hi_lt ha
  have hhb := hi_lt hb
  have hl := lS_lt a b p
  have hbo := bor_lt hl.1 hl.2
  have hl1 := hl.1
  have hl2 := hl.2
  have e1 : (loN a : Int) - (loN b : Int) - 1 + (cyN p : Int) = lS a b p := rfl
  have e2 : (hiN a : Int) - (hiN b : Int) + bor (lS a b p) = hS a b p := rfl
  have hb1 : -256 ≤ hS a b p ∧ hS a b p < 256 := by unfold hS; omega
  have hv : ((subV a b p : Nat) : Int) = (hS a b p - 96) % 256 := by unfold subV fixS; rw [hD, if_pos rfl, if_pos h1]; omega
  rw [hv]
  clear hv hl
  generalize hS a b p = h at *
  generalize lS a b p = l at *
  have HBo := hidD (borrowed_any l hl1 hl2)
  generalize bor l = B at *
  generalize sB a (255 - b) p % 256 = r at *
  generalize subF a b p = F at *
  go_enter Try.func7, Try.ntmps7
  go_wp2_with (first | (go_at_call 10; refine (HB.out _).mono ?_; rintro e w2 ⟨rfl, rfl⟩) | (go_at_call 11; refine (highN_any _ (by repeat' (first | assumption | decide | apply wi_lt | apply fl_lt)) _).mono ?_; rintro e w2 ⟨rfl, rfl⟩) | (go_at_call 13; refine (lowN_any _ (by repeat' (first | assumption | decide | apply wi_lt | apply fl_lt)) _).mono ?_; rintro e w2 ⟨rfl, rfl⟩) | (go_at_call 14; refine (carryN_any _ (by repeat' (first | assumption | decide | apply wi_lt | apply fl_lt)) _).mono ?_; rintro e w2 ⟨rfl, rfl⟩) | (go_at_call 17; refine (HBo.out _).mono ?_; rintro e w2 ⟨rfl, rfl⟩) | (go_at_call 15; refine (with_any _ _ _ (by repeat' (first | assumption | decide | apply wi_lt | apply fl_lt)) (by repeat' (first | assumption | decide | apply wi_lt | apply fl_lt)) _).mono ?_; rintro e w2 ⟨rfl, rfl⟩))
  go_ret2
  exact ⟨rfl, rfl⟩

theorem sub_any (a b p : Nat) (ha : a < 256) (hb : b < 256) (hp : p < 256) : W1 7 #[.int .u8 (a : Int), .int .u8 (b : Int), .int .u8 (p : Int)] (.tuple #[.int .u8 (subV a b p : Int), .int .u8 (subF a b p : Int)]) := by
  cases hD : dD p
  · exact sub_no a b p ha hb hp hD
  · by_cases h : hS a b p < 0
    · exact sub_neg a b p ha hb hp hD h
    · exact sub_pos a b p ha hb hp hD h
end Go.Proofs.Ytgbjoblojkmdnaa
