/- What Carry, times, Irreducible and Order of the document answer. -/
import Derived.Test.YtdpkeffkpecmjaaCry
namespace Go.Proofs.Ytdpkeffkpecmjaa
open Go.RowKit
set_option linter.unusedVariables false

theorem shl_nat {A k : Nat} (hA : A < 512) (hk : k ≤ 7) : A * 2 ^ k < 65536 := by
  have : 2 ^ k ≤ 2 ^ 7 := Nat.pow_le_pow_right (by omega) hk
  calc A * 2 ^ k ≤ A * 2 ^ 7 := Nat.mul_le_mul_left _ this
    _ < 65536 := by omega
theorem shl_i64 {A k : Nat} (hA : A < 512) (hk : k ≤ 7) : IntKind.i64.wrap ((A : Int) * 2 ^ k) = ((A * 2 ^ k : Nat) : Int) := by
  have h := shl_nat hA hk
  rw [IntKind.wrap_i64, show (A : Int) * 2 ^ k = ((A * 2 ^ k : Nat) : Int) by simp]
  omega

theorem irrR_false {p a b : Nat} (ha : a < 30) (hb : b < 254) (h : prodTo (b + 2) (a + 2) 8 = p) : irrR p = false := by
  rw [irrR, List.all_eq_false]
  refine ⟨a, List.mem_range.mpr ha, ?_⟩
  rw [Bool.not_eq_true, List.all_eq_false]
  exact ⟨b, List.mem_range.mpr hb, by simp [h]⟩
theorem irrR_true {p : Nat} (h : ∀ a, a < 30 → ∀ b, b < 254 → prodTo (b + 2) (a + 2) 8 ≠ p) : irrR p = true := by
  rw [irrR, List.all_eq_true]
  intro a ha
  rw [List.all_eq_true]
  intro b hb
  simpa using h a (List.mem_range.mp ha) b (List.mem_range.mp hb)
end Go.Proofs.Ytdpkeffkpecmjaa
