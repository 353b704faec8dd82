/- Plain: sums and differences of long numbers, digit by digit. -/
import Derived.Test.YtgbjoblojkmdnaaTap
namespace Go.Proofs.Ytgbjoblojkmdnaa
set_option linter.unusedVariables false

/- flags, sums and differences behind i digits -/
def pA (D : Bool) (u v : Nat → Nat) (p : Nat) : Nat → Nat
  | 0 => p
  | i + 1 => addF (gN D (u i)) (gN D (v i)) (pA D u v p i)
def pS (D : Bool) (u v : Nat → Nat) (p : Nat) : Nat → Nat
  | 0 => p
  | i + 1 => subF (gN D (u i)) (gN D (v i)) (pS D u v p i)
def dA (D : Bool) (u v : Nat → Nat) (p i : Nat) : Nat := wN D (addV (gN D (u i)) (gN D (v i)) (pA D u v p i))
def dS (D : Bool) (u v : Nat → Nat) (p i : Nat) : Nat := wN D (subV (gN D (u i)) (gN D (v i)) (pS D u v p i))
theorem step_sum {s Q a C V W c w v K B : Nat} (h : s + C * Q = V + W + c) (k : a + B * K = w + v + C) : s + a * Q + K * (Q * B) = V + w * Q + (W + v * Q) + c := by
  have e := congrArg (· * Q) k
  simp only [Nat.add_mul] at e
  have h1 : B * K * Q = K * (Q * B) := by rw [Nat.mul_comm B K, Nat.mul_assoc, Nat.mul_comm B Q]
  rw [h1] at e
  omega
theorem step_dif {s Q a C V W c w v K B : Nat} (h : s + W + 1 + C * Q = V + c + Q) (k : a + v + 1 + B * K = w + C + B) : s + a * Q + (W + v * Q) + 1 + K * (Q * B) = V + w * Q + c + Q * B := by
  have e := congrArg (· * Q) k
  simp only [Nat.add_mul, Nat.one_mul] at e
  have h1 : B * K * Q = K * (Q * B) := by rw [Nat.mul_comm B K, Nat.mul_assoc, Nat.mul_comm B Q]
  rw [h1, Nat.mul_comm B Q] at e
  omega
theorem sum_inv (D : Bool) (u v : Nat → Nat) (p : Nat) (hp : p < 256) (hD : dD p = D) : ∀ i, (∀ j, j < i → u j < 256 ∧ v j < 256) →
    vTo (dA D u v p) (bN D) i + cyN (pA D u v p i) * bN D ^ i = vTo (fun j => wN D (gN D (u j))) (bN D) i + vTo (fun j => wN D (gN D (v j))) (bN D) i + cyN p ∧ pA D u v p i < 256 ∧ dD (pA D u v p i) = D ∧ (∀ j, j < i → dA D u v p j < bN D)
  | 0, _ => ⟨by simp [vTo, pA], hp, hD, fun j hj => by omega⟩
  | i + 1, h => by
    obtain ⟨h1, h2, h3, h4⟩ := sum_inv D u v p hp hD i fun j hj => h j (by omega)
    obtain ⟨k1, k2, k3, k4, k5⟩ := add_step D (u i) (v i) (pA D u v p i) (h i (by omega)).1 (h i (by omega)).2 h2 h3
    refine ⟨?_, k4, k5, fun j hj => ?_⟩
    · show vTo (dA D u v p) (bN D) i + dA D u v p i * bN D ^ i + cyN (pA D u v p (i + 1)) * bN D ^ (i + 1) = _
      rw [Nat.pow_succ]
      exact step_sum h1 k1
    · rcases Nat.lt_or_ge j i with hj' | hj'
      · exact h4 j hj'
      · obtain rfl : j = i := by omega
        exact k2
theorem dif_inv (D : Bool) (u v : Nat → Nat) (p : Nat) (hp : p < 256) (hD : dD p = D) : ∀ i, (∀ j, j < i → u j < 256 ∧ v j < 256) →
    vTo (dS D u v p) (bN D) i + vTo (fun j => wN D (gN D (v j))) (bN D) i + 1 + cyN (pS D u v p i) * bN D ^ i = vTo (fun j => wN D (gN D (u j))) (bN D) i + cyN p + bN D ^ i ∧ pS D u v p i < 256 ∧ dD (pS D u v p i) = D ∧ (∀ j, j < i → dS D u v p j < bN D)
  | 0, _ => ⟨by simp [vTo, pS]; omega, hp, hD, fun j hj => by omega⟩
  | i + 1, h => by
    obtain ⟨h1, h2, h3, h4⟩ := dif_inv D u v p hp hD i fun j hj => h j (by omega)
    obtain ⟨k1, k2, k3, k4, k5⟩ := sub_step D (u i) (v i) (pS D u v p i) (h i (by omega)).1 (h i (by omega)).2 h2 h3
    refine ⟨?_, k4, k5, fun j hj => ?_⟩
    · show vTo (dS D u v p) (bN D) i + dS D u v p i * bN D ^ i + (vTo (fun j => wN D (gN D (v j))) (bN D) i + wN D (gN D (v i)) * bN D ^ i) + 1 + cyN (pS D u v p (i + 1)) * bN D ^ (i + 1) = _
      rw [Nat.pow_succ]
      exact step_dif h1 k1
    · rcases Nat.lt_or_ge j i with hj' | hj'
      · exact h4 j hj'
      · obtain rfl : j = i := by omega
        exact k2
theorem pow_small (D : Bool) {i : Nat} (h : i ≤ 7) : bN D ^ i ≤ 72057594037927936 := by
  have h1 : bN D ^ i ≤ 256 ^ i := Nat.pow_le_pow_left (by cases D <;> decide) i
  have h2 : 256 ^ i ≤ 256 ^ 7 := Nat.pow_le_pow_right (by decide) h
  have h3 : 256 ^ 7 = 72057594037927936 := by decide
  omega
end Go.Proofs.Ytgbjoblojkmdnaa
