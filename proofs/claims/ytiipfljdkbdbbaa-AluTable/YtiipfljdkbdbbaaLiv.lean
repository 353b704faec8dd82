/- What must come at any rate. -/
import Derived.Test.YtiipfljdkbdbbaaAlf
import Derived.Test.YtiipfljdkbdbbaaAlm
import Derived.Test.YtiipfljdkbdbbaaAlc
namespace Go.Proofs.Ytiipfljdkbdbbaa
open Go.RowKit
set_option linter.unusedVariables false

theorem live_add : W1 16 #[.int .u8 21, .int .u8 39, .int .u8 9] (.tuple #[.int .u8 67, .int .u8 8]) := by
  have h := add_any 21 39 9 (by decide) (by decide) (by decide)
  rw [show addV 21 39 9 = 67 from by decide +kernel, show addF 21 39 9 = 8 from by decide +kernel] at h
  exact h
theorem live_sub : W1 18 #[.int .u8 16, .int .u8 1, .int .u8 9] (.tuple #[.int .u8 9, .int .u8 9]) := by
  have h := sub_any 16 1 9 (by decide) (by decide) (by decide)
  rw [show subV 16 1 9 = 9 from by decide +kernel, show subF 16 1 9 = 9 from by decide +kernel] at h
  exact h
theorem live_cmp : W1 28 #[.int .u8 16, .int .u8 32, .int .u8 0] (.int .u8 128) := by
  have h := compare_any 16 32 0 (by decide) (by decide) (by decide)
  rw [show fl ((16 + (256 - 32)) % 256) (wi 0 1 (decide (32 ≤ 16))) = 128 from by decide +kernel] at h
  exact h

set_option maxRecDepth 100000 in
theorem live_any : W1 15 #[] (.bool true) := by
  intro w
  have HA := hidD live_add
  have HS := hidD live_sub
  have HC := hidD live_cmp
  go_enter Try.func15, Try.ntmps15
  go_wp2_with (first | (go_at_call 16; refine (HA.out _).mono ?_; rintro e w2 ⟨rfl, rfl⟩) | (go_at_call 18; refine (HS.out _).mono ?_; rintro e w2 ⟨rfl, rfl⟩) | (go_at_call 28; refine (HC.out _).mono ?_; rintro e w2 ⟨rfl, rfl⟩))
  go_ret
  exact ⟨rfl, rfl⟩

end Go.Proofs.Ytiipfljdkbdbbaa
