/- digit and worth of the statements. -/
import Derived.Test.YtgbjoblojkmdnaaAls
import Derived.Test.YtgbjoblojkmdnaaTap
namespace Go.Proofs.Ytgbjoblojkmdnaa
open Go.RowKit
set_option linter.unusedVariables false

set_option maxRecDepth 100000 in
set_option maxHeartbeats 800000 in
theorem digitL_any (D : Bool) (b : Nat) (hb : b < 256) : W1 4 #[.int .u8 (b : Int), .bool D] (.int .u8 (gN D b : Int)) := by
  intro w
  unfold gN
  cases D
  · rw [if_neg (by decide)]
    go_enter Try.func4, Try.ntmps4
    go_wp2_with fail
    go_ret
    exact ⟨rfl, rfl⟩
  · rw [if_pos rfl]
    have e : (b : Int) % 100 = ((b % 100 : Nat) : Int) := by omega
    have hm : b % 100 < 100 := Nat.mod_lt _ (by decide)
    have H := hidD (packed_any (b % 100) hm)
    generalize b % 100 = m at *
    go_enter Try.func4, Try.ntmps4
    go_wp2_with (go_at_call 8; refine (H.out _).mono ?_; rintro e w2 ⟨rfl, rfl⟩)
    go_ret
    exact ⟨rfl, rfl⟩
set_option maxRecDepth 100000 in
set_option maxHeartbeats 800000 in
theorem worthL_any (D : Bool) (b : Nat) (hb : b < 256) (h : D = true → pkd b = true) : W1 5 #[.int .u8 (b : Int), .bool D] (.int .i64 (wN D b : Int)) := by
  intro w
  unfold wN
  cases D
  · rw [if_neg (by decide)]
    go_enter Try.func5, Try.ntmps5
    go_wp2_with fail
    go_ret
    exact ⟨rfl, rfl⟩
  · rw [if_pos rfl]
    have H := hidD (unpacked_yes b hb (h rfl))
    have hl := dN_lt (h rfl)
    generalize dN b = m at *
    go_enter Try.func5, Try.ntmps5
    go_wp2_with (go_at_call 9; refine (H.out _).mono ?_; rintro e w2 ⟨rfl, rfl⟩)
    go_ret
    exact ⟨rfl, rfl⟩
end Go.Proofs.Ytgbjoblojkmdnaa
