/- No line of the substitution is off by more than sixteen, and one is. -/
import Derived.Test.YtdbledfpphkppaaWl1
import Derived.Test.YtdbledfpphkppaaWl2
import Derived.Test.YtdbledfpphkppaaWl3
import Derived.Test.YtdbledfpphkppaaWl4
namespace Go.Proofs.Ytdbledfpphkppaa
theorem lin_ok {b : Nat} (h0 : b ≠ 0) (hb : b < 256) : linOk b = true := by
  have go : ∀ d, d ≤ b → b < d + 64 → ((List.range 64).all fun b => (b + d == 0) || linOk (b + d)) = true → linOk b = true := fun d h1 h2 h => by
    have := List.all_eq_true.1 h (b - d) (by simp; omega)
    rw [show b - d + d = b by omega] at this
    simpa [h0] using this
  by_cases h1 : b < 64
  · exact go 0 (by omega) (by omega) lin_1
  by_cases h2 : b < 128
  · exact go 64 (by omega) (by omega) lin_2
  by_cases h3 : b < 192
  · exact go 128 (by omega) (by omega) lin_3
  · exact go 192 (by omega) (by omega) lin_4
theorem lin_sb {a b : Nat} (h0 : b ≠ 0) (ha : a < 256) (hb : b < 256) : 112 ≤ linS sbN a b ∧ linS sbN a b ≤ 144 := lin_of_ok hb ha (lin_ok h0 hb)
end Go.Proofs.Ytdbledfpphkppaa
