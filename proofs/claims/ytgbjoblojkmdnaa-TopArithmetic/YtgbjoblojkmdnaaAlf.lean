/- Add of the program. -/
import Derived.Test.YtgbjoblojkmdnaaAle
namespace Go.Proofs.Ytgbjoblojkmdnaa
open Go.RowKit
set_option linter.unusedVariables false

set_option maxRecDepth 100000 in
set_option maxHeartbeats 1600000 in
theorem add_no (a b p : Nat) (ha : a < 256) (hb : b < 256) (hp : p < 256) (hD : dD p = false) : W1 6 #[.int .u8 (a : Int), .int .u8 (b : Int), .int .u8 (p : Int)] (.tuple #[.int .u8 (addV a b p : Int), .int .u8 (addF a b p : Int)]) := by
  intro w
  have h8 := and8 p hp
  rw [hD] at h8
  rw [if_neg (by decide)] at h8
  unfold addV addF
  rw [hD]
  go_enter Try.func6, Try.ntmps6
  go_wp2_with (go_at_call 10; refine (binary_any _ _ _ (by repeat' (first | assumption | decide | apply wi_lt | apply fl_lt)) (by repeat' (first | assumption | decide | apply wi_lt | apply fl_lt)) (by repeat' (first | assumption | decide | apply wi_lt | apply fl_lt)) _).mono ?_; rintro e w2 ⟨rfl, rfl⟩)
  go_ret2
  exact ⟨rfl, rfl⟩

set_option maxRecDepth 100000 in
set_option maxHeartbeats 1600000 in
theorem add_low (a b p : Nat) (ha : a < 256) (hb : b < 256) (hp : p < 256) (hD : dD p = true) (h1 : ¬ 159 < hA a b p) : W1 6 #[.int .u8 (a : Int), .int .u8 (b : Int), .int .u8 (p : Int)] (.tuple #[.int .u8 (addV a b p : Int), .int .u8 (addF a b p : Int)]) := by
  intro w
  have h8 := and8 p hp
  rw [hD, if_pos rfl] at h8
  have hc := cy_lt p
  have hla := lo_lt a
  have hlb := lo_lt b
  have hha := hi_lt ha
  have hhb := hi_lt hb
  have hL := lA_lt a b p
  have hL1 : lA a b p < 100 := by omega
  have hdg := dig_lt hL
  have hH := hA_lt p ha hb
  have hbf := bf_lt (a := a) (b := b) hp
  have HF := hidD (adF_eq a b p hp)
  have e1 : (loN a : Int) + (loN b : Int) + (cyN p : Int) = ((lA a b p : Nat) : Int) := by unfold lA; omega
  have e2 : (hiN a : Int) + (hiN b : Int) + (dig (lA a b p) : Int) = ((hA a b p : Nat) : Int) := by unfold hA; omega
  have hv : addV a b p = (hA a b p) % 256 := by unfold addV fixA; rw [hD, if_pos rfl, if_neg h1]
  have hf : addF a b p = adF a b p := by unfold addF; rw [hD, if_pos rfl]
  have hx : fixA (hA a b p) = hA a b p := by unfold fixA; rw [if_neg h1]
  rw [hv, hf]
  rw [hx] at HF
  generalize adF a b p = F at *
  clear hv hf hx
  generalize hA a b p = h at *
  generalize lA a b p = L at *
  have hi : ¬ (159 : Int) < (h : Int) := by omega
  have e3 : (h : Int) % 256 = ((h % 256 : Nat) : Int) := by omega
  have hr : h % 256 < 256 := Nat.mod_lt _ (by decide)
  have hN := hidD (and128_ne (h % 256) hr)
  have hg := hidD (gt_nat 255 (h))
  rw [show h % 256 = h from by omega] at *
  clear e3
  skip
  go_enter Try.func6, Try.ntmps6
  go_wp2_with (first | (go_at_call 10; refine (binary_any _ _ _ (by repeat' (first | assumption | decide | apply wi_lt | apply fl_lt)) (by repeat' (first | assumption | decide | apply wi_lt | apply fl_lt)) (by repeat' (first | assumption | decide | apply wi_lt | apply fl_lt)) _).mono ?_; rintro e w2 ⟨rfl, rfl⟩) | (go_at_call 11; refine (highN_any _ (by repeat' (first | assumption | decide | apply wi_lt | apply fl_lt)) _).mono ?_; rintro e w2 ⟨rfl, rfl⟩) | (go_at_call 13; refine (lowN_any _ (by repeat' (first | assumption | decide | apply wi_lt | apply fl_lt)) _).mono ?_; rintro e w2 ⟨rfl, rfl⟩) | (go_at_call 14; refine (carryN_any _ (by repeat' (first | assumption | decide | apply wi_lt | apply fl_lt)) _).mono ?_; rintro e w2 ⟨rfl, rfl⟩) | (go_at_call 12; refine (digit_any _ (by repeat' (first | assumption | decide | apply wi_lt | apply fl_lt)) _).mono ?_; rintro e w2 ⟨rfl, rfl⟩) | (go_at_call 16; refine (overflows_any _ _ _ (by repeat' (first | assumption | decide | apply wi_lt | apply fl_lt)) (by repeat' (first | assumption | decide | apply wi_lt | apply fl_lt)) (by repeat' (first | assumption | decide | apply wi_lt | apply fl_lt)) _).mono ?_; rintro e w2 ⟨rfl, rfl⟩) | (go_at_call 15; refine (with_any _ _ _ (by repeat' (first | assumption | decide | apply wi_lt | apply fl_lt)) (by repeat' (first | assumption | decide | apply wi_lt | apply fl_lt)) _).mono ?_; rintro e w2 ⟨rfl, rfl⟩))
  go_ret2
  refine ⟨?_, rfl⟩
  rw [← HF.out, ← hN.out, ← hg.out]; rfl

set_option maxRecDepth 100000 in
set_option maxHeartbeats 1600000 in
theorem add_up (a b p : Nat) (ha : a < 256) (hb : b < 256) (hp : p < 256) (hD : dD p = true) (h1 : 159 < hA a b p) : W1 6 #[.int .u8 (a : Int), .int .u8 (b : Int), .int .u8 (p : Int)] (.tuple #[.int .u8 (addV a b p : Int), .int .u8 (addF a b p : Int)]) := by
  intro w
  have h8 := and8 p hp
  rw [hD, if_pos rfl] at h8
  have hc := cy_lt p
  have hla := lo_lt a
  have hlb := lo_lt b
  have hha := hi_lt ha
  have hhb := hi_lt hb
  have hL := lA_lt a b p
  have hL1 : lA a b p < 100 := by omega
  have hdg := dig_lt hL
  have hH := hA_lt p ha hb
  have hbf := bf_lt (a := a) (b := b) hp
  have HF := hidD (adF_eq a b p hp)
  have e1 : (loN a : Int) + (loN b : Int) + (cyN p : Int) = ((lA a b p : Nat) : Int) := by unfold lA; omega
  have e2 : (hiN a : Int) + (hiN b : Int) + (dig (lA a b p) : Int) = ((hA a b p : Nat) : Int) := by unfold hA; omega
  have hv : addV a b p = (hA a b p + 96) % 256 := by unfold addV fixA; rw [hD, if_pos rfl, if_pos h1]
  have hf : addF a b p = adF a b p := by unfold addF; rw [hD, if_pos rfl]
  have hx : fixA (hA a b p) = hA a b p + 96 := by unfold fixA; rw [if_pos h1]
  rw [hv, hf]
  rw [hx] at HF
  generalize adF a b p = F at *
  clear hv hf hx
  generalize hA a b p = h at *
  generalize lA a b p = L at *
  have hi : (159 : Int) < (h : Int) := by omega
  have e3 : (h : Int) % 256 = ((h % 256 : Nat) : Int) := by omega
  have hr : h % 256 < 256 := Nat.mod_lt _ (by decide)
  have hN := hidD (and128_ne (h % 256) hr)
  have hg := hidD (gt_nat 255 (h + 96))
  have e5 : (h : Int) + 96 = ((h + 96 : Nat) : Int) := by omega
  have h96 : h + 96 < 1000 := by omega
  generalize h + 96 = h4 at *
  have e4 : (h4 : Int) % 256 = ((h4 % 256 : Nat) : Int) := by omega
  have hr4 : h4 % 256 < 256 := Nat.mod_lt _ (by decide)
  generalize h4 % 256 = r4 at *
  generalize h % 256 = r at *
  go_enter Try.func6, Try.ntmps6
  go_wp2_with (first | (go_at_call 10; refine (binary_any _ _ _ (by repeat' (first | assumption | decide | apply wi_lt | apply fl_lt)) (by repeat' (first | assumption | decide | apply wi_lt | apply fl_lt)) (by repeat' (first | assumption | decide | apply wi_lt | apply fl_lt)) _).mono ?_; rintro e w2 ⟨rfl, rfl⟩) | (go_at_call 11; refine (highN_any _ (by repeat' (first | assumption | decide | apply wi_lt | apply fl_lt)) _).mono ?_; rintro e w2 ⟨rfl, rfl⟩) | (go_at_call 13; refine (lowN_any _ (by repeat' (first | assumption | decide | apply wi_lt | apply fl_lt)) _).mono ?_; rintro e w2 ⟨rfl, rfl⟩) | (go_at_call 14; refine (carryN_any _ (by repeat' (first | assumption | decide | apply wi_lt | apply fl_lt)) _).mono ?_; rintro e w2 ⟨rfl, rfl⟩) | (go_at_call 12; refine (digit_any _ (by repeat' (first | assumption | decide | apply wi_lt | apply fl_lt)) _).mono ?_; rintro e w2 ⟨rfl, rfl⟩) | (go_at_call 16; refine (overflows_any _ _ _ (by repeat' (first | assumption | decide | apply wi_lt | apply fl_lt)) (by repeat' (first | assumption | decide | apply wi_lt | apply fl_lt)) (by repeat' (first | assumption | decide | apply wi_lt | apply fl_lt)) _).mono ?_; rintro e w2 ⟨rfl, rfl⟩) | (go_at_call 15; refine (with_any _ _ _ (by repeat' (first | assumption | decide | apply wi_lt | apply fl_lt)) (by repeat' (first | assumption | decide | apply wi_lt | apply fl_lt)) _).mono ?_; rintro e w2 ⟨rfl, rfl⟩))
  go_ret2
  refine ⟨?_, rfl⟩
  rw [← HF.out, ← hN.out, ← hg.out]; rfl

theorem add_any (a b p : Nat) (ha : a < 256) (hb : b < 256) (hp : p < 256) : W1 6 #[.int .u8 (a : Int), .int .u8 (b : Int), .int .u8 (p : Int)] (.tuple #[.int .u8 (addV a b p : Int), .int .u8 (addF a b p : Int)]) := by
  cases hD : dD p
  · exact add_no a b p ha hb hp hD
  · by_cases h : 159 < hA a b p
    · exact add_up a b p ha hb hp hD h
    · exact add_low a b p ha hb hp hD h
end Go.Proofs.Ytgbjoblojkmdnaa
