/- Plain: the flags of a sum, one by one; signed bytes. -/
import Derived.Test.YtgbjoblojkmdnaaAqp
namespace Go.Proofs.Ytgbjoblojkmdnaa
set_option linter.unusedVariables false

theorem flags_tab : ∀ p < 256, ∀ c v n z : Bool, wi (wi (wi (wi p 1 c) 64 v) 128 n) 2 z % 2 = c.toNat ∧ decide (wi (wi (wi (wi p 1 c) 64 v) 128 n) 2 z / 64 % 2 = 1) = v ∧ decide (128 ≤ wi (wi (wi (wi p 1 c) 64 v) 128 n) 2 z) = n ∧ decide (wi (wi (wi (wi p 1 c) 64 v) 128 n) 2 z / 2 % 2 = 1) = z ∧ wi (wi (wi (wi p 1 c) 64 v) 128 n) 2 z &&& 60 = p &&& 60 := by decide +kernel
theorem bf_is (a b p : Nat) (hp : p < 256) : bf a b p % 2 = (decide (255 < sB a b p)).toNat ∧ decide (bf a b p / 64 % 2 = 1) = ov a b (sB a b p % 256) ∧ decide (128 ≤ bf a b p) = decide (128 ≤ sB a b p % 256) ∧ decide (bf a b p / 2 % 2 = 1) = decide (sB a b p % 256 = 0) ∧ bf a b p &&& 60 = p &&& 60 := flags_tab p hp _ _ _ _
/- a byte as a signed one -/
def s8 (a : Nat) : Int := if a < 128 then (a : Int) else (a : Int) - 256
theorem s8_lt {a : Nat} (h : a < 256) : -128 ≤ s8 a ∧ s8 a < 128 := by unfold s8; split <;> omega
theorem s8_not {b : Nat} (h : b < 256) : s8 (255 - b) = -1 - s8 b := by unfold s8; split <;> split <;> omega
theorem ov_signed (a b p : Nat) (ha : a < 256) (hb : b < 256) : ov a b (sB a b p % 256) = decide (s8 a + s8 b + (cyN p : Int) < -128 ∨ 127 < s8 a + s8 b + (cyN p : Int)) := by
  have hc := cy_lt p
  unfold sB ov unl b7 s8
  generalize cyN p = c at *
  rw [Nat.mod_mod, Nat.mod_eq_of_lt ha, Nat.mod_eq_of_lt hb]
  by_cases h1 : a < 128 <;> by_cases h2 : b < 128 <;> by_cases h3 : 128 ≤ (a + b + c) % 256
  all_goals
    simp only [h1, h2, h3, if_true, if_false, show (128 ≤ a) = ¬ a < 128 from propext (by omega), show (128 ≤ b) = ¬ b < 128 from propext (by omega), not_true_eq_false, not_false_eq_true, decide_true, decide_false]
    first | (rw [decide_eq_true (by omega)]; rfl) | (rw [decide_eq_false (by omega)]; rfl)
end Go.Proofs.Ytgbjoblojkmdnaa
