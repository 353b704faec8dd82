/- What the document's one answers. -/
import Derived.Test.YtfecadongbmfhaaDc0
namespace Go.Proofs.Ytfecadongbmfhaa
open Go.RowKit
set_option linter.unusedVariables false

set_option maxRecDepth 100000 in
set_option maxHeartbeats 1600000 in
theorem one_any (a b : Nat) (ha : a < 8) (hb : b < 8) (w : World) : Calls Try.prog 42 #[.int .i64 (a : Int), .int .i64 (b : Int)] w fun e w' => e = .returned (.tuple #[.string (bA (nmS (c1S a b).1)), .int .i64 ((c1S a b).2 : Int)]) ∧ Below w.heap.size w w' := by
  have HP : Hid (∀ w, Calls Try.prog 36 #[.string ⟨#[79, 82, 65, 65, 78, 68, 69, 79, 82, 65, 68, 67, 83, 84, 65, 76, 68, 65, 67, 77, 80, 83, 66, 67]⟩, .int .i64 (a : Int)] w fun e w' => e = .returned (.string (bA (nmS ([35, 2, 24, 1, 48, 30, 18, 44].getD a 0)))) ∧ Below w.heap.size w w') := fun w => by have h := pick_any [79, 82, 65, 65, 78, 68, 69, 79, 82, 65, 68, 67, 83, 84, 65, 76, 68, 65, 67, 77, 80, 83, 66, 67] a (by simp; omega) (by decide) w; rw [pk_one a ha] at h; exact h.mono fun e w' ⟨h1, h2⟩ => ⟨h1, by rw [h2]; exact Below.refl _ _⟩
  have hc := (by decide : ∀ a < 8, ∀ b < 8, c1S a b = if a = 4 ∧ b = 2 then (0, 0) else ([35, 2, 24, 1, 48, 30, 18, 44].getD a 0, row8 10 3 2 6 11 4 8 7 b)) a ha b hb
  have HL : Hid (Below w.heap.size w (w.alloc (.cells #[.int .i64 10, .int .i64 3, .int .i64 2, .int .i64 6, .int .i64 11, .int .i64 4, .int .i64 8, .int .i64 7] (76 : TypeId)))) := (Below.refl _ _).alloc (Nat.le_refl _) _
  by_cases h42 : a = 4 ∧ b = 2
  · rw [if_pos h42] at hc
    rw [hc]
    obtain ⟨rfl, rfl⟩ := h42
    clear HP hc
    go_enter Try.func42, Try.ntmps42
    go_wp2_with fail
    go_ret2
    exact ⟨rfl, HL.out⟩
  · rw [if_neg h42] at hc
    rw [hc]
    have d1 : ∀ i : BW (w.alloc (.cells #[.int .i64 10, .int .i64 3, .int .i64 2, .int .i64 6, .int .i64 11, .int .i64 4, .int .i64 8, .int .i64 7] (76 : TypeId))), i.v.cell? ⟨w.heap.size, b, none⟩ = some (.int .i64 (row8 10 3 2 6 11 4 8 7 b : Int)) := fun i => row_cell8 w 10 3 2 6 11 4 8 7 b hb i
    have hbi : (b : Int) < 8 := by omega
    clear hc
    generalize bA (nmS ([35, 2, 24, 1, 48, 30, 18, 44].getD a 0)) = N at *
    generalize row8 10 3 2 6 11 4 8 7 b = R at *
    by_cases h4 : a = 4
    · have h2 : ((b : Int) == 2) = false := beq_eq_false_iff_ne.2 (by omega)
      have h2j : ¬ (b : Int) = 2 := by omega
      subst h4
      go_enter Try.func42, Try.ntmps42
      go_wp2_with fail
      refine wp_region_below (by kernel_rfl) (by kernel_rfl) ?_
      repeat (go_big_quiet_step ((go_at_call 36; exact Calls.below_of (HP.out _))))
      refine wpQuiet_nil ?_
      intro i
      clear d1
      go_wp2_with fail
      go_ret2
      exact ⟨rfl, Below.next HL.out i.below⟩
    · have h4i : ((a : Int) == 4) = false := beq_eq_false_iff_ne.2 (by omega)
      have h4j : ¬ (a : Int) = 4 := by omega
      go_enter Try.func42, Try.ntmps42
      go_wp2_with fail
      refine wp_region_below (by kernel_rfl) (by kernel_rfl) ?_
      repeat (go_big_quiet_step ((go_at_call 36; exact Calls.below_of (HP.out _))))
      refine wpQuiet_nil ?_
      intro i
      clear d1
      go_wp2_with fail
      go_ret2
      exact ⟨rfl, Below.next HL.out i.below⟩
end Go.Proofs.Ytfecadongbmfhaa
