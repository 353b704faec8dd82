/- AluTurns. -/
import Derived.Test.YtiipfljdkbdbbabLiv
import Derived.Test.YtiipfljdkbdbbabAld
import Derived.Below
namespace Go.Proofs.Ytiipfljdkbdbbab
open Go.RowKit
set_option linter.unusedVariables false

/- what goes left and right -/
def rolN (v p : Nat) : Nat := v * 2 % 256 + cyN p
def rorN (v p : Nat) : Nat := v / 2 + cyN p * 128
def rolF (v p : Nat) : Nat := fl (rolN v p) (wi p 1 (decide (128 ≤ v)))
def rorF (v p : Nat) : Nat := fl (rorN v p) (wi p 1 (decide (v % 2 = 1)))
theorem rolN_lt (v p : Nat) : rolN v p < 256 := by have := cy_lt p; unfold rolN; omega
theorem rorN_lt {v : Nat} (p : Nat) (hv : v < 256) : rorN v p < 256 := by have := cy_lt p; unfold rorN; omega
theorem rolF_lt (v : Nat) {p : Nat} (hp : p < 256) : rolF v p < 256 := fl_lt (wi_lt hp (by decide) _)
theorem rorF_lt (v : Nat) {p : Nat} (hp : p < 256) : rorF v p < 256 := fl_lt (wi_lt hp (by decide) _)
theorem flag_one : ∀ p < 256, ∀ c n z : Bool, wi (wi (wi p 1 c) 128 n) 2 z % 2 = c.toNat := by decide +kernel
theorem rolF_c (v p : Nat) (hp : p < 256) : cyN (rolF v p) = (decide (128 ≤ v)).toNat := flag_one p hp _ _ _
theorem rorF_c (v p : Nat) (hp : p < 256) : cyN (rorF v p) = (decide (v % 2 = 1)).toNat := flag_one p hp _ _ _
theorem rolN_any (v p : Nat) (hv : v < 256) (hp : p < 256) : W1 6 #[.int .u8 (v : Int), .int .u8 (p : Int)] (.tuple #[.int .u8 (rolN v p : Int), .int .u8 (rolF v p : Int)]) := rol_any v p hv hp
theorem rorN_any (v p : Nat) (hv : v < 256) (hp : p < 256) : W1 7 #[.int .u8 (v : Int), .int .u8 (p : Int)] (.tuple #[.int .u8 (rorN v p : Int), .int .u8 (rorF v p : Int)]) := ror_any v p hv hp
def incN (a : Nat) : Nat := (a + 1) % 256
def decN (a : Nat) : Nat := (a + 255) % 256
theorem incN_lt (a : Nat) : incN a < 256 := Nat.mod_lt _ (by decide)
theorem incN_any (a p : Nat) (ha : a < 256) (hp : p < 256) : W1 8 #[.int .u8 (a : Int), .int .u8 (p : Int)] (.tuple #[.int .u8 (incN a : Int), .int .u8 (fl (incN a) p : Int)]) := inc_any a p ha hp
theorem decN_any (a p : Nat) (ha : a < 256) (hp : p < 256) : W1 9 #[.int .u8 (a : Int), .int .u8 (p : Int)] (.tuple #[.int .u8 (decN a : Int), .int .u8 (fl (decN a) p : Int)]) := dec_any a p ha hp
theorem ror_rol (v p : Nat) (hv : v < 256) (hp : p < 256) : rorN (rolN v p) (rolF v p) = v ∧ cyN (rorF (rolN v p) (rolF v p)) = cyN p := by
  have hc := cy_lt p
  rw [rorF_c _ _ (rolF_lt v hp)]
  unfold rorN
  rw [rolF_c v p hp]
  unfold rolN
  generalize cyN p = c at *
  refine ⟨?_, ?_⟩
  · by_cases h : 128 ≤ v
    · rw [decide_eq_true h, Bool.toNat_true]; omega
    · rw [decide_eq_false h, Bool.toNat_false]; omega
  · by_cases h : (v * 2 % 256 + c) % 2 = 1
    · rw [decide_eq_true h, Bool.toNat_true]; omega
    · rw [decide_eq_false h, Bool.toNat_false]; omega
theorem rol_ror (v p : Nat) (hv : v < 256) (hp : p < 256) : rolN (rorN v p) (rorF v p) = v ∧ cyN (rolF (rorN v p) (rorF v p)) = cyN p := by
  have hc := cy_lt p
  rw [rolF_c _ _ (rorF_lt v hp)]
  unfold rolN
  rw [rorF_c v p hp]
  unfold rorN
  generalize cyN p = c at *
  refine ⟨?_, ?_⟩
  · by_cases h : v % 2 = 1
    · rw [decide_eq_true h, Bool.toNat_true]; omega
    · rw [decide_eq_false h, Bool.toNat_false]; omega
  · by_cases h : 128 ≤ v / 2 + c * 128
    · rw [decide_eq_true h, Bool.toNat_true]; omega
    · rw [decide_eq_false h, Bool.toNat_false]; omega

set_option maxRecDepth 100000 in
set_option maxHeartbeats 1600000 in
theorem aluTurns_any (v p : Nat) (hv : v < 256) (hp : p < 256) (w : World) : Calls Try.prog 3 #[.int .u8 (v : Int), .int .u8 (p : Int)] w fun e w' => e = .returned (.bool true) ∧ Below w.heap.size w w' := by
  obtain ⟨a1, a2⟩ := ror_rol v p hv hp
  obtain ⟨b1, b2⟩ := rol_ror v p hv hp
  have c1 : decN (incN v) = v := by unfold decN incN; omega
  have hi := incN_lt v
  have hl := rolN_lt v p
  have hr := rorN_lt p hv
  have hlf := rolF_lt v hp
  have hrf := rorF_lt v hp
  have hx := rorF_lt (rolN v p) hlf
  have hy := rolF_lt (rorN v p) hrf
  have d1 : bits .and .u8 (rorF (rolN v p) (rolF v p) : Int) 1 = (cyN p : Int) := by rw [← a2]; exact and1N _ hx
  have d2 : bits .and .u8 (rolF (rorN v p) (rorF v p) : Int) 1 = (cyN p : Int) := by rw [← b2]; exact and1N _ hy
  have d3 : bits .and .u8 (p : Int) 1 = (cyN p : Int) := and1N p hp
  have e4 : ((v : Int) + 1) % 256 = ((incN v : Nat) : Int) := by unfold incN; omega
  go_enter Try.func3, Try.ntmps3
  go_wp2_with (first | (go_at_call 6; refine (rolN_any _ _ (by repeat' (first | assumption | decide | apply wi_lt | apply fl_lt)) (by repeat' (first | assumption | decide | apply wi_lt | apply fl_lt)) _).mono ?_; rintro e w2 ⟨rfl, rfl⟩) | (go_at_call 7; refine (rorN_any _ _ (by repeat' (first | assumption | decide | apply wi_lt | apply fl_lt)) (by repeat' (first | assumption | decide | apply wi_lt | apply fl_lt)) _).mono ?_; rintro e w2 ⟨rfl, rfl⟩) | (go_at_call 8; refine (incN_any _ _ (by repeat' (first | assumption | decide | apply wi_lt | apply fl_lt)) (by repeat' (first | assumption | decide | apply wi_lt | apply fl_lt)) _).mono ?_; rintro e w2 ⟨rfl, rfl⟩) | (go_at_call 9; refine (decN_any _ _ (by repeat' (first | assumption | decide | apply wi_lt | apply fl_lt)) (by repeat' (first | assumption | decide | apply wi_lt | apply fl_lt)) _).mono ?_; rintro e w2 ⟨rfl, rfl⟩) | (go_at_call 5; refine (live_any _).mono ?_; rintro e w2 ⟨rfl, rfl⟩))
  go_ret
  exact ⟨by first | rfl | (simp; done), Below.refl _ _⟩

end Go.Proofs.Ytiipfljdkbdbbab
