/- AluBits. -/
import Derived.Test.YtiipfljdkbdbbaaLiv
import Derived.Below
namespace Go.Proofs.Ytiipfljdkbdbbaa
open Go.RowKit
set_option linter.unusedVariables false

def andN (a b : Nat) : Nat := a &&& b
def orN (a b : Nat) : Nat := a ||| b
def xorN (a b : Nat) : Nat := a ^^^ b
def incN (a : Nat) : Nat := (a + 1) % 256
def decN (a : Nat) : Nat := (a + 255) % 256
theorem andN_lt {a : Nat} (b : Nat) (ha : a < 256) : andN a b < 256 := Nat.lt_of_le_of_lt Nat.and_le_left ha
theorem orN_lt {a b : Nat} (ha : a < 256) (hb : b < 256) : orN a b < 256 := Nat.or_lt_two_pow (n := 8) ha hb
theorem xorN_lt {a b : Nat} (ha : a < 256) (hb : b < 256) : xorN a b < 256 := Nat.xor_lt_two_pow (n := 8) ha hb
theorem incN_lt (a : Nat) : incN a < 256 := Nat.mod_lt _ (by decide)
theorem decN_lt (a : Nat) : decN a < 256 := Nat.mod_lt _ (by decide)
theorem andN_any (a b p : Nat) (ha : a < 256) (hb : b < 256) (hp : p < 256) : W1 22 #[.int .u8 (a : Int), .int .u8 (b : Int), .int .u8 (p : Int)] (.tuple #[.int .u8 (andN a b : Int), .int .u8 (fl (andN a b) p : Int)]) := and_any a b p ha hb hp
theorem orN_any (a b p : Nat) (ha : a < 256) (hb : b < 256) (hp : p < 256) : W1 24 #[.int .u8 (a : Int), .int .u8 (b : Int), .int .u8 (p : Int)] (.tuple #[.int .u8 (orN a b : Int), .int .u8 (fl (orN a b) p : Int)]) := or_any a b p ha hb hp
theorem xorN_any (a b p : Nat) (ha : a < 256) (hb : b < 256) (hp : p < 256) : W1 25 #[.int .u8 (a : Int), .int .u8 (b : Int), .int .u8 (p : Int)] (.tuple #[.int .u8 (xorN a b : Int), .int .u8 (fl (xorN a b) p : Int)]) := eor_any a b p ha hb hp
theorem incN_any (a p : Nat) (ha : a < 256) (hp : p < 256) : W1 26 #[.int .u8 (a : Int), .int .u8 (p : Int)] (.tuple #[.int .u8 (incN a : Int), .int .u8 (fl (incN a) p : Int)]) := inc_any a p ha hp
theorem decN_any (a p : Nat) (ha : a < 256) (hp : p < 256) : W1 27 #[.int .u8 (a : Int), .int .u8 (p : Int)] (.tuple #[.int .u8 (decN a : Int), .int .u8 (fl (decN a) p : Int)]) := dec_any a p ha hp

set_option maxRecDepth 100000 in
theorem pair_any (v p : Nat) (hv : v < 256) (hp : p < 256) : W1 23 #[.int .u8 (v : Int), .int .u8 (fl v p : Int), .int .u8 (v : Int), .int .u8 (p : Int)] (.bool true) := by
  intro w
  have H := hidD (refFlags_any v p hv hp)
  go_enter Try.func23, Try.ntmps23
  go_wp2_with (go_at_call 14; refine (H.out _).mono ?_; rintro e w2 ⟨rfl, rfl⟩)
  go_ret
  exact ⟨by first | rfl | (simp; done), rfl⟩

set_option maxRecDepth 100000 in
set_option maxHeartbeats 1600000 in
theorem aluBits_any (a b p : Nat) (ha : a < 256) (hb : b < 256) (hp : p < 256) (w : World) : Calls Try.prog 5 #[.int .u8 (a : Int), .int .u8 (b : Int), .int .u8 (p : Int)] w fun e w' => e = .returned (.bool true) ∧ Below w.heap.size w w' := by
  have e1 : bits .and .u8 (a : Int) (b : Int) = (andN a b : Int) := u8_and_nat a b ha hb
  have e2 : bits .or .u8 (a : Int) (b : Int) = (orN a b : Int) := u8_or_nat a b ha hb
  have e3 : bits .xor .u8 (a : Int) (b : Int) = (xorN a b : Int) := u8_xor_nat a b ha hb
  have e4 : ((a : Int) + 1) % 256 = ((incN a : Nat) : Int) := by unfold incN; omega
  have e5 : ((a : Int) - 1) % 256 = ((decN a : Nat) : Int) := by unfold decN; omega
  have l1 := andN_lt b ha
  have l2 := orN_lt ha hb
  have l3 := xorN_lt ha hb
  have l4 := incN_lt a
  have l5 := decN_lt a
  go_enter Try.func5, Try.ntmps5
  go_wp2_with (first | (go_at_call 22; refine (andN_any _ _ _ (by repeat' (first | assumption | decide | apply wi_lt | apply fl_lt)) (by repeat' (first | assumption | decide | apply wi_lt | apply fl_lt)) (by repeat' (first | assumption | decide | apply wi_lt | apply fl_lt)) _).mono ?_; rintro e w2 ⟨rfl, rfl⟩) | (go_at_call 24; refine (orN_any _ _ _ (by repeat' (first | assumption | decide | apply wi_lt | apply fl_lt)) (by repeat' (first | assumption | decide | apply wi_lt | apply fl_lt)) (by repeat' (first | assumption | decide | apply wi_lt | apply fl_lt)) _).mono ?_; rintro e w2 ⟨rfl, rfl⟩) | (go_at_call 25; refine (xorN_any _ _ _ (by repeat' (first | assumption | decide | apply wi_lt | apply fl_lt)) (by repeat' (first | assumption | decide | apply wi_lt | apply fl_lt)) (by repeat' (first | assumption | decide | apply wi_lt | apply fl_lt)) _).mono ?_; rintro e w2 ⟨rfl, rfl⟩) | (go_at_call 26; refine (incN_any _ _ (by repeat' (first | assumption | decide | apply wi_lt | apply fl_lt)) (by repeat' (first | assumption | decide | apply wi_lt | apply fl_lt)) _).mono ?_; rintro e w2 ⟨rfl, rfl⟩) | (go_at_call 27; refine (decN_any _ _ (by repeat' (first | assumption | decide | apply wi_lt | apply fl_lt)) (by repeat' (first | assumption | decide | apply wi_lt | apply fl_lt)) _).mono ?_; rintro e w2 ⟨rfl, rfl⟩) | (go_at_call 28; refine (compare_any _ _ _ (by repeat' (first | assumption | decide | apply wi_lt | apply fl_lt)) (by repeat' (first | assumption | decide | apply wi_lt | apply fl_lt)) (by repeat' (first | assumption | decide | apply wi_lt | apply fl_lt)) _).mono ?_; rintro e w2 ⟨rfl, rfl⟩) | (go_at_call 29; refine (refCompare_any _ _ _ (by repeat' (first | assumption | decide | apply wi_lt | apply fl_lt)) (by repeat' (first | assumption | decide | apply wi_lt | apply fl_lt)) (by repeat' (first | assumption | decide | apply wi_lt | apply fl_lt)) _).mono ?_; rintro e w2 ⟨rfl, rfl⟩) | (go_at_call 30; refine (bit_any _ _ _ (by repeat' (first | assumption | decide | apply wi_lt | apply fl_lt)) (by repeat' (first | assumption | decide | apply wi_lt | apply fl_lt)) (by repeat' (first | assumption | decide | apply wi_lt | apply fl_lt)) _).mono ?_; rintro e w2 ⟨rfl, rfl⟩) | (go_at_call 31; refine (refBit_any _ _ _ (by repeat' (first | assumption | decide | apply wi_lt | apply fl_lt)) (by repeat' (first | assumption | decide | apply wi_lt | apply fl_lt)) (by repeat' (first | assumption | decide | apply wi_lt | apply fl_lt)) _).mono ?_; rintro e w2 ⟨rfl, rfl⟩) | (go_at_call 23; refine (pair_any _ _ (by repeat' (first | assumption | decide | apply wi_lt | apply fl_lt)) (by repeat' (first | assumption | decide | apply wi_lt | apply fl_lt)) _).mono ?_; rintro e w2 ⟨rfl, rfl⟩) | (go_at_call 15; refine (live_any _).mono ?_; rintro e w2 ⟨rfl, rfl⟩))
  go_ret
  exact ⟨by first | rfl | (simp; done), Below.refl _ _⟩

end Go.Proofs.Ytiipfljdkbdbbaa
