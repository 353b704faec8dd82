/- What the document's none answers. -/
import Derived.Test.YtfecadongbmfhaaDc0
namespace Go.Proofs.Ytfecadongbmfhaa
open Go.RowKit
set_option linter.unusedVariables false

def d0K (a b : Nat) : Nat := if b = 5 then 4 else if b = 7 then 7 else (c0S a b).2
set_option maxRecDepth 100000 in
set_option maxHeartbeats 800000 in
theorem none_1 (a : Nat) (ha : a < 8) (w : World) : Calls Try.prog 44 #[.int .i64 (a : Int), .int .i64 1] w fun e w' => e = .returned (.tuple #[.string (bA (nmS ([0, 7, 0, 0, 50, 32, 20, 19].getD a 0))), .int .i64 3]) ∧ Below w.heap.size w w' := by
  have HP : Hid (∀ w, Calls Try.prog 36 #[.string ⟨#[32, 32, 32, 66, 73, 84, 32, 32, 32, 32, 32, 32, 83, 84, 89, 76, 68, 89, 67, 80, 89, 67, 80, 88]⟩, .int .i64 (a : Int)] w fun e w' => e = .returned (.string (bA (nmS ([0, 7, 0, 0, 50, 32, 20, 19].getD a 0)))) ∧ w' = w) := fun w => by have h := pick_any [32, 32, 32, 66, 73, 84, 32, 32, 32, 32, 32, 32, 83, 84, 89, 76, 68, 89, 67, 80, 89, 67, 80, 88] a (by simp; omega) (by decide) w; rw [pk_n1 a ha] at h; exact h
  generalize bA (nmS ([0, 7, 0, 0, 50, 32, 20, 19].getD a 0)) = N at *
  go_enter Try.func44, Try.ntmps44
  go_wp2_with (go_at_call 36; refine (HP.out _).mono ?_; rintro e w1 ⟨rfl, rfl⟩)
  go_ret2
  exact ⟨rfl, Below.refl _ _⟩
set_option maxRecDepth 100000 in
set_option maxHeartbeats 800000 in
theorem none_2 (a : Nat) (ha : a < 8) (w : World) : Calls Try.prog 44 #[.int .i64 (a : Int), .int .i64 2] w fun e w' => e = .returned (.tuple #[.string (bA (nmS ([37, 39, 36, 38, 23, 52, 27, 26].getD a 0))), .int .i64 0]) ∧ Below w.heap.size w w' := by
  have HP : Hid (∀ w, Calls Try.prog 36 #[.string ⟨#[80, 72, 80, 80, 76, 80, 80, 72, 65, 80, 76, 65, 68, 69, 89, 84, 65, 89, 73, 78, 89, 73, 78, 88]⟩, .int .i64 (a : Int)] w fun e w' => e = .returned (.string (bA (nmS ([37, 39, 36, 38, 23, 52, 27, 26].getD a 0)))) ∧ w' = w) := fun w => by have h := pick_any [80, 72, 80, 80, 76, 80, 80, 72, 65, 80, 76, 65, 68, 69, 89, 84, 65, 89, 73, 78, 89, 73, 78, 88] a (by simp; omega) (by decide) w; rw [pk_n2 a ha] at h; exact h
  generalize bA (nmS ([37, 39, 36, 38, 23, 52, 27, 26].getD a 0)) = N at *
  go_enter Try.func44, Try.ntmps44
  go_wp2_with (go_at_call 36; refine (HP.out _).mono ?_; rintro e w1 ⟨rfl, rfl⟩)
  go_ret2
  exact ⟨rfl, Below.refl _ _⟩
set_option maxRecDepth 100000 in
set_option maxHeartbeats 800000 in
theorem none_3 (a : Nat) (ha : a < 8) (h3 : a ≠ 3) (w : World) : Calls Try.prog 44 #[.int .i64 (a : Int), .int .i64 3] w fun e w' => e = .returned (.tuple #[.string (bA (nmS ([0, 7, 28, 0, 50, 32, 20, 19].getD a 0))), .int .i64 6]) ∧ Below w.heap.size w w' := by
  have HP : Hid (∀ w, Calls Try.prog 36 #[.string ⟨#[32, 32, 32, 66, 73, 84, 74, 77, 80, 32, 32, 32, 83, 84, 89, 76, 68, 89, 67, 80, 89, 67, 80, 88]⟩, .int .i64 (a : Int)] w fun e w' => e = .returned (.string (bA (nmS ([0, 7, 28, 0, 50, 32, 20, 19].getD a 0)))) ∧ w' = w) := fun w => by have h := pick_any [32, 32, 32, 66, 73, 84, 74, 77, 80, 32, 32, 32, 83, 84, 89, 76, 68, 89, 67, 80, 89, 67, 80, 88] a (by simp; omega) (by decide) w; rw [pk_n3 a ha] at h; exact h
  generalize bA (nmS ([0, 7, 28, 0, 50, 32, 20, 19].getD a 0)) = N at *
  have h3i : ¬ (a : Int) = 3 := by omega
  go_enter Try.func44, Try.ntmps44
  go_wp2_with (go_at_call 36; refine (HP.out _).mono ?_; rintro e w1 ⟨rfl, rfl⟩)
  go_ret2
  exact ⟨rfl, Below.refl _ _⟩
set_option maxRecDepth 100000 in
set_option maxHeartbeats 800000 in
theorem none_4 (a : Nat) (ha : a < 8) (w : World) : Calls Try.prog 44 #[.int .i64 (a : Int), .int .i64 4] w fun e w' => e = .returned (.tuple #[.string (bA (nmS ([10, 8, 12, 13, 4, 5, 9, 6].getD a 0))), .int .i64 12]) ∧ Below w.heap.size w w' := by
  have HP : Hid (∀ w, Calls Try.prog 36 #[.string ⟨#[66, 80, 76, 66, 77, 73, 66, 86, 67, 66, 86, 83, 66, 67, 67, 66, 67, 83, 66, 78, 69, 66, 69, 81]⟩, .int .i64 (a : Int)] w fun e w' => e = .returned (.string (bA (nmS ([10, 8, 12, 13, 4, 5, 9, 6].getD a 0)))) ∧ w' = w) := fun w => by have h := pick_any [66, 80, 76, 66, 77, 73, 66, 86, 67, 66, 86, 83, 66, 67, 67, 66, 67, 83, 66, 78, 69, 66, 69, 81] a (by simp; omega) (by decide) w; rw [pk_n4 a ha] at h; exact h
  generalize bA (nmS ([10, 8, 12, 13, 4, 5, 9, 6].getD a 0)) = N at *
  go_enter Try.func44, Try.ntmps44
  go_wp2_with (go_at_call 36; refine (HP.out _).mono ?_; rintro e w1 ⟨rfl, rfl⟩)
  go_ret2
  exact ⟨rfl, Below.refl _ _⟩
set_option maxRecDepth 100000 in
set_option maxHeartbeats 800000 in
theorem none_5 (a : Nat) (ha : a < 8) (w : World) : Calls Try.prog 44 #[.int .i64 (a : Int), .int .i64 5] w fun e w' => e = .returned (.tuple #[.string (bA (nmS ([0, 0, 0, 0, 50, 32, 0, 0].getD a 0))), .int .i64 4]) ∧ Below w.heap.size w w' := by
  have HP : Hid (∀ w, Calls Try.prog 36 #[.string ⟨#[32, 32, 32, 32, 32, 32, 32, 32, 32, 32, 32, 32, 83, 84, 89, 76, 68, 89, 32, 32, 32, 32, 32, 32]⟩, .int .i64 (a : Int)] w fun e w' => e = .returned (.string (bA (nmS ([0, 0, 0, 0, 50, 32, 0, 0].getD a 0)))) ∧ w' = w) := fun w => by have h := pick_any [32, 32, 32, 32, 32, 32, 32, 32, 32, 32, 32, 32, 83, 84, 89, 76, 68, 89, 32, 32, 32, 32, 32, 32] a (by simp; omega) (by decide) w; rw [pk_n5 a ha] at h; exact h
  generalize bA (nmS ([0, 0, 0, 0, 50, 32, 0, 0].getD a 0)) = N at *
  go_enter Try.func44, Try.ntmps44
  go_wp2_with (go_at_call 36; refine (HP.out _).mono ?_; rintro e w1 ⟨rfl, rfl⟩)
  go_ret2
  exact ⟨rfl, Below.refl _ _⟩
set_option maxRecDepth 100000 in
set_option maxHeartbeats 800000 in
theorem none_6 (a : Nat) (ha : a < 8) (w : World) : Calls Try.prog 44 #[.int .i64 (a : Int), .int .i64 6] w fun e w' => e = .returned (.tuple #[.string (bA (nmS ([14, 45, 16, 47, 56, 17, 15, 46].getD a 0))), .int .i64 0]) ∧ Below w.heap.size w w' := by
  have HP : Hid (∀ w, Calls Try.prog 36 #[.string ⟨#[67, 76, 67, 83, 69, 67, 67, 76, 73, 83, 69, 73, 84, 89, 65, 67, 76, 86, 67, 76, 68, 83, 69, 68]⟩, .int .i64 (a : Int)] w fun e w' => e = .returned (.string (bA (nmS ([14, 45, 16, 47, 56, 17, 15, 46].getD a 0)))) ∧ w' = w) := fun w => by have h := pick_any [67, 76, 67, 83, 69, 67, 67, 76, 73, 83, 69, 73, 84, 89, 65, 67, 76, 86, 67, 76, 68, 83, 69, 68] a (by simp; omega) (by decide) w; rw [pk_n6 a ha] at h; exact h
  generalize bA (nmS ([14, 45, 16, 47, 56, 17, 15, 46].getD a 0)) = N at *
  go_enter Try.func44, Try.ntmps44
  go_wp2_with (go_at_call 36; refine (HP.out _).mono ?_; rintro e w1 ⟨rfl, rfl⟩)
  go_ret2
  exact ⟨rfl, Below.refl _ _⟩
set_option maxRecDepth 100000 in
set_option maxHeartbeats 800000 in
theorem none_7 (a : Nat) (ha : a < 8) (w : World) : Calls Try.prog 44 #[.int .i64 (a : Int), .int .i64 7] w fun e w' => e = .returned (.tuple #[.string (bA (nmS ([0, 0, 0, 0, 0, 32, 0, 0].getD a 0))), .int .i64 7]) ∧ Below w.heap.size w w' := by
  have HP : Hid (∀ w, Calls Try.prog 36 #[.string ⟨#[32, 32, 32, 32, 32, 32, 32, 32, 32, 32, 32, 32, 32, 32, 32, 76, 68, 89, 32, 32, 32, 32, 32, 32]⟩, .int .i64 (a : Int)] w fun e w' => e = .returned (.string (bA (nmS ([0, 0, 0, 0, 0, 32, 0, 0].getD a 0)))) ∧ w' = w) := fun w => by have h := pick_any [32, 32, 32, 32, 32, 32, 32, 32, 32, 32, 32, 32, 32, 32, 32, 76, 68, 89, 32, 32, 32, 32, 32, 32] a (by simp; omega) (by decide) w; rw [pk_n7 a ha] at h; exact h
  generalize bA (nmS ([0, 0, 0, 0, 0, 32, 0, 0].getD a 0)) = N at *
  go_enter Try.func44, Try.ntmps44
  go_wp2_with (go_at_call 36; refine (HP.out _).mono ?_; rintro e w1 ⟨rfl, rfl⟩)
  go_ret2
  exact ⟨rfl, Below.refl _ _⟩
set_option maxRecDepth 100000 in
theorem none_33 (w : World) : Calls Try.prog 44 #[.int .i64 3, .int .i64 3] w fun e w' => e = .returned (.tuple #[.string (bA (nmS 28)), .int .i64 9]) ∧ Below w.heap.size w w' := by
  go_enter Try.func44, Try.ntmps44
  go_wp2_with fail
  go_ret2
  exact ⟨rfl, Below.refl _ _⟩
set_option maxRecDepth 100000 in
set_option maxHeartbeats 1600000 in
theorem none_0 (a : Nat) (ha : a < 8) (w : World) : Calls Try.prog 44 #[.int .i64 (a : Int), .int .i64 0] w fun e w' => e = .returned (.tuple #[.string (bA (nmS ([11, 29, 42, 43, 0, 32, 20, 19].getD a 0))), .int .i64 (row8 0 6 0 0 0 2 2 2 a : Int)]) ∧ Below w.heap.size w w' := by
  have HP : Hid (∀ w, Calls Try.prog 36 #[.string ⟨#[66, 82, 75, 74, 83, 82, 82, 84, 73, 82, 84, 83, 32, 32, 32, 76, 68, 89, 67, 80, 89, 67, 80, 88]⟩, .int .i64 (a : Int)] w fun e w' => e = .returned (.string (bA (nmS ([11, 29, 42, 43, 0, 32, 20, 19].getD a 0)))) ∧ Below w.heap.size w w') := fun w => by have h := pick_any [66, 82, 75, 74, 83, 82, 82, 84, 73, 82, 84, 83, 32, 32, 32, 76, 68, 89, 67, 80, 89, 67, 80, 88] a (by simp; omega) (by decide) w; rw [pk_n0 a ha] at h; exact h.mono fun e w' ⟨h1, h2⟩ => ⟨h1, by rw [h2]; exact Below.refl _ _⟩
  have HL : Hid (Below w.heap.size w (w.alloc (.cells #[.int .i64 0, .int .i64 6, .int .i64 0, .int .i64 0, .int .i64 0, .int .i64 2, .int .i64 2, .int .i64 2] (76 : TypeId)))) := (Below.refl _ _).alloc (Nat.le_refl _) _
  have d1 : ∀ i : BW (w.alloc (.cells #[.int .i64 0, .int .i64 6, .int .i64 0, .int .i64 0, .int .i64 0, .int .i64 2, .int .i64 2, .int .i64 2] (76 : TypeId))), i.v.cell? ⟨w.heap.size, a, none⟩ = some (.int .i64 (row8 0 6 0 0 0 2 2 2 a : Int)) := fun i => row_cell8 w 0 6 0 0 0 2 2 2 a ha i
  have hai : (a : Int) < 8 := by omega
  generalize bA (nmS ([11, 29, 42, 43, 0, 32, 20, 19].getD a 0)) = N at *
  generalize row8 0 6 0 0 0 2 2 2 a = R at *
  go_enter Try.func44, Try.ntmps44
  go_wp2_with fail
  refine wp_region_below (by kernel_rfl) (by kernel_rfl) ?_
  repeat (go_big_quiet_step ((go_at_call 36; exact Calls.below_of (HP.out _))))
  refine wpQuiet_nil ?_
  intro i
  clear d1
  go_wp2_with fail
  go_ret2
  exact ⟨rfl, Below.next HL.out i.below⟩
theorem none_any (a b : Nat) (ha : a < 8) (hb : b < 8) (w : World) : Calls Try.prog 44 #[.int .i64 (a : Int), .int .i64 (b : Int)] w fun e w' => e = .returned (.tuple #[.string (bA (nmS (c0S a b).1)), .int .i64 (d0K a b : Int)]) ∧ Below w.heap.size w w' := by
  rcases lt8 hb with rfl | rfl | rfl | rfl | rfl | rfl | rfl | rfl
  · have h := (by decide : ∀ a < 8, (c0S a 0).1 = [11, 29, 42, 43, 0, 32, 20, 19].getD a 0 ∧ d0K a 0 = row8 0 6 0 0 0 2 2 2 a) a ha
    rw [h.1, h.2]; exact none_0 a ha w
  · have h := (by decide : ∀ a < 8, (c0S a 1).1 = [0, 7, 0, 0, 50, 32, 20, 19].getD a 0 ∧ d0K a 1 = 3) a ha
    rw [h.1, h.2]; exact none_1 a ha w
  · have h := (by decide : ∀ a < 8, (c0S a 2).1 = [37, 39, 36, 38, 23, 52, 27, 26].getD a 0 ∧ d0K a 2 = 0) a ha
    rw [h.1, h.2]; exact none_2 a ha w
  · by_cases h3 : a = 3
    · subst h3; exact none_33 w
    · have h := (by decide : ∀ a < 8, a ≠ 3 → (c0S a 3).1 = [0, 7, 28, 0, 50, 32, 20, 19].getD a 0 ∧ d0K a 3 = 6) a ha h3
      rw [h.1, h.2]; exact none_3 a ha h3 w
  · have h := (by decide : ∀ a < 8, (c0S a 4).1 = [10, 8, 12, 13, 4, 5, 9, 6].getD a 0 ∧ d0K a 4 = 12) a ha
    rw [h.1, h.2]; exact none_4 a ha w
  · have h := (by decide : ∀ a < 8, (c0S a 5).1 = [0, 0, 0, 0, 50, 32, 0, 0].getD a 0 ∧ d0K a 5 = 4) a ha
    rw [h.1, h.2]; exact none_5 a ha w
  · have h := (by decide : ∀ a < 8, (c0S a 6).1 = [14, 45, 16, 47, 56, 17, 15, 46].getD a 0 ∧ d0K a 6 = 0) a ha
    rw [h.1, h.2]; exact none_6 a ha w
  · have h := (by decide : ∀ a < 8, (c0S a 7).1 = [0, 0, 0, 0, 0, 32, 0, 0].getD a 0 ∧ d0K a 7 = 7) a ha
    rw [h.1, h.2]; exact none_7 a ha w
end Go.Proofs.Ytfecadongbmfhaa
