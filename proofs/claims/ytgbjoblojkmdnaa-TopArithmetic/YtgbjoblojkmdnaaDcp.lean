/- Plain: sums and differences of two decimal digits. -/
import Derived.Test.YtgbjoblojkmdnaaAls
namespace Go.Proofs.Ytgbjoblojkmdnaa
set_option linter.unusedVariables false
set_option maxRecDepth 100000

theorem pk_lo (X : Nat) : loN (pk X) = X % 10 := by unfold loN pk; omega
theorem pk_hi {X : Nat} (h : X < 100) : hiN (pk X) = X / 10 * 16 := by unfold hiN pk; omega
theorem fin_sum : ∀ t1 < 20, ∀ t0 < 10, fixA (t1 * 16 + t0) % 256 = pk ((t1 * 10 + t0) % 100) ∧ decide (255 < fixA (t1 * 16 + t0)) = decide (99 < t1 * 10 + t0) := by decide +kernel
theorem fin_less : ∀ t1 < 20, ∀ t0 < 10, (fixS ((((t1 : Nat) : Int) - 10) * 16 + ((t0 : Nat) : Int)) % 256).toNat = pk (((((t1 : Nat) : Int) - 10) * 10 + ((t0 : Nat) : Int)) % 100).toNat := by decide +kernel
theorem dec_sum {X Y c : Nat} (hX : X < 100) (hY : Y < 100) (hc : c < 2) : fixA (hiN (pk X) + hiN (pk Y) + dig (loN (pk X) + loN (pk Y) + c)) % 256 = pk ((X + Y + c) % 100) ∧ decide (255 < fixA (hiN (pk X) + hiN (pk Y) + dig (loN (pk X) + loN (pk Y) + c))) = decide (99 < X + Y + c) := by
  rw [pk_lo, pk_lo, pk_hi hX, pk_hi hY]
  have e1 : X = X / 10 * 10 + X % 10 := by omega
  have e2 : Y = Y / 10 * 10 + Y % 10 := by omega
  have l1 : X % 10 < 10 := Nat.mod_lt _ (by decide)
  have l2 : Y % 10 < 10 := Nat.mod_lt _ (by decide)
  have l3 : X / 10 < 10 := by omega
  have l4 : Y / 10 < 10 := by omega
  generalize X / 10 = x1 at *
  generalize X % 10 = x0 at *
  generalize Y / 10 = y1 at *
  generalize Y % 10 = y0 at *
  subst e1 e2
  have key : ∃ t1 t0 : Nat, t1 < 20 ∧ t0 < 10 ∧ x1 * 16 + y1 * 16 + dig (x0 + y0 + c) = t1 * 16 + t0 ∧ x1 * 10 + x0 + (y1 * 10 + y0) + c = t1 * 10 + t0 := by
    unfold dig
    by_cases h0 : x0 + y0 + c ≤ 9
    · rw [if_pos h0]; exact ⟨x1 + y1, x0 + y0 + c, by omega, by omega, by omega, by omega⟩
    · rw [if_neg h0]; exact ⟨x1 + y1 + 1, x0 + y0 + c - 10, by omega, by omega, by omega, by omega⟩
  obtain ⟨t1, t0, k1, k2, k3, k4⟩ := key
  rw [k3, k4]
  exact fin_sum t1 k1 t0 k2
theorem dec_less {X Y c : Nat} (hX : X < 100) (hY : Y < 100) (hc : c < 2) : (fixS ((hiN (pk X) : Int) - (hiN (pk Y) : Int) + bor ((loN (pk X) : Int) - (loN (pk Y) : Int) - 1 + (c : Int))) % 256).toNat = pk (((X : Int) - (Y : Int) - 1 + (c : Int)) % 100).toNat ∧ decide (255 < pk X + (255 - pk Y) + c) = decide (0 ≤ (X : Int) - (Y : Int) - 1 + (c : Int)) := by
  rw [pk_lo, pk_lo, pk_hi hX, pk_hi hY]
  have e1 : X = X / 10 * 10 + X % 10 := by omega
  have e2 : Y = Y / 10 * 10 + Y % 10 := by omega
  have q1 : pk X = X / 10 * 16 + X % 10 := rfl
  have q2 : pk Y = Y / 10 * 16 + Y % 10 := rfl
  rw [q1, q2]
  clear q1 q2
  have l1 : X % 10 < 10 := Nat.mod_lt _ (by decide)
  have l2 : Y % 10 < 10 := Nat.mod_lt _ (by decide)
  have l3 : X / 10 < 10 := by omega
  have l4 : Y / 10 < 10 := by omega
  generalize X / 10 = x1 at *
  generalize X % 10 = x0 at *
  generalize Y / 10 = y1 at *
  generalize Y % 10 = y0 at *
  subst e1 e2
  refine ⟨?_, ?_⟩
  · have key : ∃ t1 t0 : Nat, t1 < 20 ∧ t0 < 10 ∧ ((x1 * 16 : Nat) : Int) - ((y1 * 16 : Nat) : Int) + bor ((x0 : Int) - (y0 : Int) - 1 + (c : Int)) = ((t1 : Int) - 10) * 16 + (t0 : Int) ∧ ((x1 * 10 + x0 : Nat) : Int) - ((y1 * 10 + y0 : Nat) : Int) - 1 + (c : Int) = ((t1 : Int) - 10) * 10 + (t0 : Int) := by
      unfold bor
      by_cases h0 : 0 ≤ (x0 : Int) - (y0 : Int) - 1 + (c : Int)
      · rw [if_pos h0]; exact ⟨x1 + 10 - y1, x0 + c - 1 - y0, by omega, by omega, by omega, by omega⟩
      · rw [if_neg h0]; exact ⟨x1 + 9 - y1, x0 + c + 9 - y0, by omega, by omega, by omega, by omega⟩
    obtain ⟨t1, t0, k1, k2, k3, k4⟩ := key
    rw [k3, k4]
    exact fin_less t1 k1 t0 k2
  · by_cases h : 255 < x1 * 16 + x0 + (255 - (y1 * 16 + y0)) + c
    · rw [decide_eq_true h, decide_eq_true (by omega)]
    · rw [decide_eq_false h, decide_eq_false (by omega)]
theorem pk_dig : ∀ X < 100, pkd (pk X) = true ∧ dN (pk X) = X := by decide +kernel
theorem wi_one : ∀ p < 256, ∀ c : Bool, decide (wi p 1 c % 2 = 1) = c ∧ wi p 1 c / 8 % 2 = p / 8 % 2 := by decide +kernel
theorem wi_eight : ∀ p < 256, ∀ z n v : Bool, wi (wi (wi p 2 z) 128 n) 64 v / 8 % 2 = p / 8 % 2 := by decide +kernel
theorem fl_one : ∀ p < 256, ∀ c v n z : Bool, decide (wi (wi (wi (wi p 1 c) 64 v) 128 n) 2 z % 2 = 1) = c := by decide +kernel
theorem orD : ∀ p < 256, dD (p ||| 8) = true ∧ p ||| 8 < 256 := by decide +kernel
end Go.Proofs.Ytgbjoblojkmdnaa
