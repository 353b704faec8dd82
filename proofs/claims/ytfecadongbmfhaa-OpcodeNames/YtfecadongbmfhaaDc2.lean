/- What the document's two answers. -/
import Derived.Test.YtfecadongbmfhaaDc0
namespace Go.Proofs.Ytfecadongbmfhaa
open Go.RowKit
set_option linter.unusedVariables false

set_option maxRecDepth 100000 in
set_option maxHeartbeats 800000 in
theorem two_04  (w : World) : Calls Try.prog 43 #[.int .i64 4, .int .i64 0] w fun e w' => e = .returned (.tuple #[.string (bA (nmS (0))), .int .i64 0]) ∧ w' = w := by
  have HP : Hid (∀ w, Calls Try.prog 36 #[.string ⟨#[65, 83, 76, 82, 79, 76, 76, 83, 82, 82, 79, 82, 83, 84, 88, 76, 68, 88, 68, 69, 67, 73, 78, 67]⟩, .int .i64 4] w fun e w' => e = .returned (.string (bA (nmS ([3, 40, 33, 41, 49, 31, 21, 25].getD 4 0)))) ∧ w' = w) := fun w => by have h := pick_any [65, 83, 76, 82, 79, 76, 76, 83, 82, 82, 79, 82, 83, 84, 88, 76, 68, 88, 68, 69, 67, 73, 78, 67] 4 (by first | decide | (simp; omega)) (by decide) w; rw [pk_two 4 (by omega)] at h; exact h
  generalize bA (nmS ([3, 40, 33, 41, 49, 31, 21, 25].getD 4 0)) = N at *
  go_enter Try.func43, Try.ntmps43
  go_wp2_with (go_at_call 36; refine (HP.out _).mono ?_; clear HP; rintro e w1 ⟨rfl, rfl⟩)
  go_ret2
  exact ⟨rfl, rfl⟩
set_option maxRecDepth 100000 in
set_option maxHeartbeats 800000 in
theorem two_05  (w : World) : Calls Try.prog 43 #[.int .i64 5, .int .i64 0] w fun e w' => e = .returned (.tuple #[.string (bA (nmS (31))), .int .i64 2]) ∧ w' = w := by
  have HP : Hid (∀ w, Calls Try.prog 36 #[.string ⟨#[65, 83, 76, 82, 79, 76, 76, 83, 82, 82, 79, 82, 83, 84, 88, 76, 68, 88, 68, 69, 67, 73, 78, 67]⟩, .int .i64 5] w fun e w' => e = .returned (.string (bA (nmS ([3, 40, 33, 41, 49, 31, 21, 25].getD 5 0)))) ∧ w' = w) := fun w => by have h := pick_any [65, 83, 76, 82, 79, 76, 76, 83, 82, 82, 79, 82, 83, 84, 88, 76, 68, 88, 68, 69, 67, 73, 78, 67] 5 (by first | decide | (simp; omega)) (by decide) w; rw [pk_two 5 (by omega)] at h; exact h
  generalize bA (nmS ([3, 40, 33, 41, 49, 31, 21, 25].getD 5 0)) = N at *
  go_enter Try.func43, Try.ntmps43
  go_wp2_with (go_at_call 36; refine (HP.out _).mono ?_; clear HP; rintro e w1 ⟨rfl, rfl⟩)
  go_ret2
  exact ⟨rfl, rfl⟩
set_option maxRecDepth 100000 in
set_option maxHeartbeats 800000 in
theorem two_0x (a : Nat) (ha : a < 8) (h4 : a ≠ 4) (h5 : a ≠ 5) (w : World) : Calls Try.prog 43 #[.int .i64 (a : Int), .int .i64 0] w fun e w' => e = .returned (.tuple #[.string (bA (nmS (0))), .int .i64 0]) ∧ w' = w := by
  have HP : Hid (∀ w, Calls Try.prog 36 #[.string ⟨#[65, 83, 76, 82, 79, 76, 76, 83, 82, 82, 79, 82, 83, 84, 88, 76, 68, 88, 68, 69, 67, 73, 78, 67]⟩, .int .i64 (a : Int)] w fun e w' => e = .returned (.string (bA (nmS ([3, 40, 33, 41, 49, 31, 21, 25].getD a 0)))) ∧ w' = w) := fun w => by have h := pick_any [65, 83, 76, 82, 79, 76, 76, 83, 82, 82, 79, 82, 83, 84, 88, 76, 68, 88, 68, 69, 67, 73, 78, 67] a (by first | decide | (simp; omega)) (by decide) w; rw [pk_two a (by omega)] at h; exact h
  generalize bA (nmS ([3, 40, 33, 41, 49, 31, 21, 25].getD a 0)) = N at *
  have f4 : ((a : Int) == 4) = false := beq_eq_false_iff_ne.2 (by omega)
  have f5 : ((a : Int) == 5) = false := beq_eq_false_iff_ne.2 (by omega)
  have g4 : ¬ (a : Int) = 4 := by omega
  have g5 : ¬ (a : Int) = 5 := by omega
  go_enter Try.func43, Try.ntmps43
  go_wp2_with (go_at_call 36; refine (HP.out _).mono ?_; clear HP; rintro e w1 ⟨rfl, rfl⟩)
  go_ret2
  exact ⟨rfl, rfl⟩
set_option maxRecDepth 100000 in
set_option maxHeartbeats 800000 in
theorem two_14  (w : World) : Calls Try.prog 43 #[.int .i64 4, .int .i64 1] w fun e w' => e = .returned (.tuple #[.string (bA (nmS ([3, 40, 33, 41, 49, 31, 21, 25].getD 4 0))), .int .i64 3]) ∧ w' = w := by
  have HP : Hid (∀ w, Calls Try.prog 36 #[.string ⟨#[65, 83, 76, 82, 79, 76, 76, 83, 82, 82, 79, 82, 83, 84, 88, 76, 68, 88, 68, 69, 67, 73, 78, 67]⟩, .int .i64 4] w fun e w' => e = .returned (.string (bA (nmS ([3, 40, 33, 41, 49, 31, 21, 25].getD 4 0)))) ∧ w' = w) := fun w => by have h := pick_any [65, 83, 76, 82, 79, 76, 76, 83, 82, 82, 79, 82, 83, 84, 88, 76, 68, 88, 68, 69, 67, 73, 78, 67] 4 (by first | decide | (simp; omega)) (by decide) w; rw [pk_two 4 (by omega)] at h; exact h
  generalize bA (nmS ([3, 40, 33, 41, 49, 31, 21, 25].getD 4 0)) = N at *
  go_enter Try.func43, Try.ntmps43
  go_wp2_with (go_at_call 36; refine (HP.out _).mono ?_; clear HP; rintro e w1 ⟨rfl, rfl⟩)
  go_ret2
  exact ⟨rfl, rfl⟩
set_option maxRecDepth 100000 in
set_option maxHeartbeats 800000 in
theorem two_15  (w : World) : Calls Try.prog 43 #[.int .i64 5, .int .i64 1] w fun e w' => e = .returned (.tuple #[.string (bA (nmS ([3, 40, 33, 41, 49, 31, 21, 25].getD 5 0))), .int .i64 3]) ∧ w' = w := by
  have HP : Hid (∀ w, Calls Try.prog 36 #[.string ⟨#[65, 83, 76, 82, 79, 76, 76, 83, 82, 82, 79, 82, 83, 84, 88, 76, 68, 88, 68, 69, 67, 73, 78, 67]⟩, .int .i64 5] w fun e w' => e = .returned (.string (bA (nmS ([3, 40, 33, 41, 49, 31, 21, 25].getD 5 0)))) ∧ w' = w) := fun w => by have h := pick_any [65, 83, 76, 82, 79, 76, 76, 83, 82, 82, 79, 82, 83, 84, 88, 76, 68, 88, 68, 69, 67, 73, 78, 67] 5 (by first | decide | (simp; omega)) (by decide) w; rw [pk_two 5 (by omega)] at h; exact h
  generalize bA (nmS ([3, 40, 33, 41, 49, 31, 21, 25].getD 5 0)) = N at *
  go_enter Try.func43, Try.ntmps43
  go_wp2_with (go_at_call 36; refine (HP.out _).mono ?_; clear HP; rintro e w1 ⟨rfl, rfl⟩)
  go_ret2
  exact ⟨rfl, rfl⟩
set_option maxRecDepth 100000 in
set_option maxHeartbeats 800000 in
theorem two_1x (a : Nat) (ha : a < 8) (h4 : a ≠ 4) (h5 : a ≠ 5) (w : World) : Calls Try.prog 43 #[.int .i64 (a : Int), .int .i64 1] w fun e w' => e = .returned (.tuple #[.string (bA (nmS ([3, 40, 33, 41, 49, 31, 21, 25].getD a 0))), .int .i64 3]) ∧ w' = w := by
  have HP : Hid (∀ w, Calls Try.prog 36 #[.string ⟨#[65, 83, 76, 82, 79, 76, 76, 83, 82, 82, 79, 82, 83, 84, 88, 76, 68, 88, 68, 69, 67, 73, 78, 67]⟩, .int .i64 (a : Int)] w fun e w' => e = .returned (.string (bA (nmS ([3, 40, 33, 41, 49, 31, 21, 25].getD a 0)))) ∧ w' = w) := fun w => by have h := pick_any [65, 83, 76, 82, 79, 76, 76, 83, 82, 82, 79, 82, 83, 84, 88, 76, 68, 88, 68, 69, 67, 73, 78, 67] a (by first | decide | (simp; omega)) (by decide) w; rw [pk_two a (by omega)] at h; exact h
  generalize bA (nmS ([3, 40, 33, 41, 49, 31, 21, 25].getD a 0)) = N at *
  have f4 : ((a : Int) == 4) = false := beq_eq_false_iff_ne.2 (by omega)
  have f5 : ((a : Int) == 5) = false := beq_eq_false_iff_ne.2 (by omega)
  have g4 : ¬ (a : Int) = 4 := by omega
  have g5 : ¬ (a : Int) = 5 := by omega
  go_enter Try.func43, Try.ntmps43
  go_wp2_with (go_at_call 36; refine (HP.out _).mono ?_; clear HP; rintro e w1 ⟨rfl, rfl⟩)
  go_ret2
  exact ⟨rfl, rfl⟩
set_option maxRecDepth 100000 in
set_option maxHeartbeats 800000 in
theorem two_24  (w : World) : Calls Try.prog 43 #[.int .i64 4, .int .i64 2] w fun e w' => e = .returned (.tuple #[.string (bA (nmS ([54, 51, 22, 34].getD 0 0))), .int .i64 0]) ∧ w' = w := by
  have HP : Hid (∀ w, Calls Try.prog 36 #[.string ⟨#[65, 83, 76, 82, 79, 76, 76, 83, 82, 82, 79, 82, 83, 84, 88, 76, 68, 88, 68, 69, 67, 73, 78, 67]⟩, .int .i64 4] w fun e w' => e = .returned (.string (bA (nmS ([3, 40, 33, 41, 49, 31, 21, 25].getD 4 0)))) ∧ w' = w) := fun w => by have h := pick_any [65, 83, 76, 82, 79, 76, 76, 83, 82, 82, 79, 82, 83, 84, 88, 76, 68, 88, 68, 69, 67, 73, 78, 67] 4 (by first | decide | (simp; omega)) (by decide) w; rw [pk_two 4 (by omega)] at h; exact h
  generalize bA (nmS ([3, 40, 33, 41, 49, 31, 21, 25].getD 4 0)) = N at *
  have HQ : Hid (∀ w, Calls Try.prog 36 #[.string ⟨#[84, 88, 65, 84, 65, 88, 68, 69, 88, 78, 79, 80]⟩, .int .i64 0] w fun e w' => e = .returned (.string (bA (nmS ([54, 51, 22, 34].getD 0 0)))) ∧ w' = w) := fun w => by have h := pick_any [84, 88, 65, 84, 65, 88, 68, 69, 88, 78, 79, 80] 0 (by decide) (by decide) w; rw [pk_twx 0 (by decide)] at h; exact h
  generalize bA (nmS ([54, 51, 22, 34].getD 0 0)) = N2 at *
  go_enter Try.func43, Try.ntmps43
  go_wp2_with (first | (go_at_call 36; refine (HP.out _).mono ?_; clear HP; rintro e w1 ⟨rfl, rfl⟩) | (go_at_call 36; refine (HQ.out _).mono ?_; rintro e w2 ⟨rfl, rfl⟩))
  go_ret2
  exact ⟨rfl, rfl⟩
set_option maxRecDepth 100000 in
set_option maxHeartbeats 800000 in
theorem two_25  (w : World) : Calls Try.prog 43 #[.int .i64 5, .int .i64 2] w fun e w' => e = .returned (.tuple #[.string (bA (nmS ([54, 51, 22, 34].getD 1 0))), .int .i64 0]) ∧ w' = w := by
  have HP : Hid (∀ w, Calls Try.prog 36 #[.string ⟨#[65, 83, 76, 82, 79, 76, 76, 83, 82, 82, 79, 82, 83, 84, 88, 76, 68, 88, 68, 69, 67, 73, 78, 67]⟩, .int .i64 5] w fun e w' => e = .returned (.string (bA (nmS ([3, 40, 33, 41, 49, 31, 21, 25].getD 5 0)))) ∧ w' = w) := fun w => by have h := pick_any [65, 83, 76, 82, 79, 76, 76, 83, 82, 82, 79, 82, 83, 84, 88, 76, 68, 88, 68, 69, 67, 73, 78, 67] 5 (by first | decide | (simp; omega)) (by decide) w; rw [pk_two 5 (by omega)] at h; exact h
  generalize bA (nmS ([3, 40, 33, 41, 49, 31, 21, 25].getD 5 0)) = N at *
  have HQ : Hid (∀ w, Calls Try.prog 36 #[.string ⟨#[84, 88, 65, 84, 65, 88, 68, 69, 88, 78, 79, 80]⟩, .int .i64 1] w fun e w' => e = .returned (.string (bA (nmS ([54, 51, 22, 34].getD 1 0)))) ∧ w' = w) := fun w => by have h := pick_any [84, 88, 65, 84, 65, 88, 68, 69, 88, 78, 79, 80] 1 (by decide) (by decide) w; rw [pk_twx 1 (by decide)] at h; exact h
  generalize bA (nmS ([54, 51, 22, 34].getD 1 0)) = N2 at *
  go_enter Try.func43, Try.ntmps43
  go_wp2_with (first | (go_at_call 36; refine (HP.out _).mono ?_; clear HP; rintro e w1 ⟨rfl, rfl⟩) | (go_at_call 36; refine (HQ.out _).mono ?_; rintro e w2 ⟨rfl, rfl⟩))
  go_ret2
  exact ⟨rfl, rfl⟩
set_option maxRecDepth 100000 in
set_option maxHeartbeats 800000 in
theorem two_26  (w : World) : Calls Try.prog 43 #[.int .i64 6, .int .i64 2] w fun e w' => e = .returned (.tuple #[.string (bA (nmS ([54, 51, 22, 34].getD 2 0))), .int .i64 0]) ∧ w' = w := by
  have HP : Hid (∀ w, Calls Try.prog 36 #[.string ⟨#[65, 83, 76, 82, 79, 76, 76, 83, 82, 82, 79, 82, 83, 84, 88, 76, 68, 88, 68, 69, 67, 73, 78, 67]⟩, .int .i64 6] w fun e w' => e = .returned (.string (bA (nmS ([3, 40, 33, 41, 49, 31, 21, 25].getD 6 0)))) ∧ w' = w) := fun w => by have h := pick_any [65, 83, 76, 82, 79, 76, 76, 83, 82, 82, 79, 82, 83, 84, 88, 76, 68, 88, 68, 69, 67, 73, 78, 67] 6 (by first | decide | (simp; omega)) (by decide) w; rw [pk_two 6 (by omega)] at h; exact h
  generalize bA (nmS ([3, 40, 33, 41, 49, 31, 21, 25].getD 6 0)) = N at *
  have HQ : Hid (∀ w, Calls Try.prog 36 #[.string ⟨#[84, 88, 65, 84, 65, 88, 68, 69, 88, 78, 79, 80]⟩, .int .i64 2] w fun e w' => e = .returned (.string (bA (nmS ([54, 51, 22, 34].getD 2 0)))) ∧ w' = w) := fun w => by have h := pick_any [84, 88, 65, 84, 65, 88, 68, 69, 88, 78, 79, 80] 2 (by decide) (by decide) w; rw [pk_twx 2 (by decide)] at h; exact h
  generalize bA (nmS ([54, 51, 22, 34].getD 2 0)) = N2 at *
  go_enter Try.func43, Try.ntmps43
  go_wp2_with (first | (go_at_call 36; refine (HP.out _).mono ?_; clear HP; rintro e w1 ⟨rfl, rfl⟩) | (go_at_call 36; refine (HQ.out _).mono ?_; rintro e w2 ⟨rfl, rfl⟩))
  go_ret2
  exact ⟨rfl, rfl⟩
set_option maxRecDepth 100000 in
set_option maxHeartbeats 800000 in
theorem two_27  (w : World) : Calls Try.prog 43 #[.int .i64 7, .int .i64 2] w fun e w' => e = .returned (.tuple #[.string (bA (nmS ([54, 51, 22, 34].getD 3 0))), .int .i64 0]) ∧ w' = w := by
  have HP : Hid (∀ w, Calls Try.prog 36 #[.string ⟨#[65, 83, 76, 82, 79, 76, 76, 83, 82, 82, 79, 82, 83, 84, 88, 76, 68, 88, 68, 69, 67, 73, 78, 67]⟩, .int .i64 7] w fun e w' => e = .returned (.string (bA (nmS ([3, 40, 33, 41, 49, 31, 21, 25].getD 7 0)))) ∧ w' = w) := fun w => by have h := pick_any [65, 83, 76, 82, 79, 76, 76, 83, 82, 82, 79, 82, 83, 84, 88, 76, 68, 88, 68, 69, 67, 73, 78, 67] 7 (by first | decide | (simp; omega)) (by decide) w; rw [pk_two 7 (by omega)] at h; exact h
  generalize bA (nmS ([3, 40, 33, 41, 49, 31, 21, 25].getD 7 0)) = N at *
  have HQ : Hid (∀ w, Calls Try.prog 36 #[.string ⟨#[84, 88, 65, 84, 65, 88, 68, 69, 88, 78, 79, 80]⟩, .int .i64 3] w fun e w' => e = .returned (.string (bA (nmS ([54, 51, 22, 34].getD 3 0)))) ∧ w' = w) := fun w => by have h := pick_any [84, 88, 65, 84, 65, 88, 68, 69, 88, 78, 79, 80] 3 (by decide) (by decide) w; rw [pk_twx 3 (by decide)] at h; exact h
  generalize bA (nmS ([54, 51, 22, 34].getD 3 0)) = N2 at *
  go_enter Try.func43, Try.ntmps43
  go_wp2_with (first | (go_at_call 36; refine (HP.out _).mono ?_; clear HP; rintro e w1 ⟨rfl, rfl⟩) | (go_at_call 36; refine (HQ.out _).mono ?_; rintro e w2 ⟨rfl, rfl⟩))
  go_ret2
  exact ⟨rfl, rfl⟩
set_option maxRecDepth 100000 in
set_option maxHeartbeats 800000 in
theorem two_2x (a : Nat) (ha : a < 8) (h4 : a ≠ 4) (h5 : a ≠ 5) (hl : a < 4) (w : World) : Calls Try.prog 43 #[.int .i64 (a : Int), .int .i64 2] w fun e w' => e = .returned (.tuple #[.string (bA (nmS ([3, 40, 33, 41, 49, 31, 21, 25].getD a 0))), .int .i64 1]) ∧ w' = w := by
  have HP : Hid (∀ w, Calls Try.prog 36 #[.string ⟨#[65, 83, 76, 82, 79, 76, 76, 83, 82, 82, 79, 82, 83, 84, 88, 76, 68, 88, 68, 69, 67, 73, 78, 67]⟩, .int .i64 (a : Int)] w fun e w' => e = .returned (.string (bA (nmS ([3, 40, 33, 41, 49, 31, 21, 25].getD a 0)))) ∧ w' = w) := fun w => by have h := pick_any [65, 83, 76, 82, 79, 76, 76, 83, 82, 82, 79, 82, 83, 84, 88, 76, 68, 88, 68, 69, 67, 73, 78, 67] a (by first | decide | (simp; omega)) (by decide) w; rw [pk_two a (by omega)] at h; exact h
  generalize bA (nmS ([3, 40, 33, 41, 49, 31, 21, 25].getD a 0)) = N at *
  have f4 : ((a : Int) == 4) = false := beq_eq_false_iff_ne.2 (by omega)
  have f5 : ((a : Int) == 5) = false := beq_eq_false_iff_ne.2 (by omega)
  have g4 : ¬ (a : Int) = 4 := by omega
  have g5 : ¬ (a : Int) = 5 := by omega
  have hli : (a : Int) < 4 := by omega
  go_enter Try.func43, Try.ntmps43
  go_wp2_with (go_at_call 36; refine (HP.out _).mono ?_; clear HP; rintro e w1 ⟨rfl, rfl⟩)
  go_ret2
  exact ⟨rfl, rfl⟩
set_option maxRecDepth 100000 in
set_option maxHeartbeats 800000 in
theorem two_34  (w : World) : Calls Try.prog 43 #[.int .i64 4, .int .i64 3] w fun e w' => e = .returned (.tuple #[.string (bA (nmS ([3, 40, 33, 41, 49, 31, 21, 25].getD 4 0))), .int .i64 6]) ∧ w' = w := by
  have HP : Hid (∀ w, Calls Try.prog 36 #[.string ⟨#[65, 83, 76, 82, 79, 76, 76, 83, 82, 82, 79, 82, 83, 84, 88, 76, 68, 88, 68, 69, 67, 73, 78, 67]⟩, .int .i64 4] w fun e w' => e = .returned (.string (bA (nmS ([3, 40, 33, 41, 49, 31, 21, 25].getD 4 0)))) ∧ w' = w) := fun w => by have h := pick_any [65, 83, 76, 82, 79, 76, 76, 83, 82, 82, 79, 82, 83, 84, 88, 76, 68, 88, 68, 69, 67, 73, 78, 67] 4 (by first | decide | (simp; omega)) (by decide) w; rw [pk_two 4 (by omega)] at h; exact h
  generalize bA (nmS ([3, 40, 33, 41, 49, 31, 21, 25].getD 4 0)) = N at *
  go_enter Try.func43, Try.ntmps43
  go_wp2_with (go_at_call 36; refine (HP.out _).mono ?_; clear HP; rintro e w1 ⟨rfl, rfl⟩)
  go_ret2
  exact ⟨rfl, rfl⟩
set_option maxRecDepth 100000 in
set_option maxHeartbeats 800000 in
theorem two_35  (w : World) : Calls Try.prog 43 #[.int .i64 5, .int .i64 3] w fun e w' => e = .returned (.tuple #[.string (bA (nmS ([3, 40, 33, 41, 49, 31, 21, 25].getD 5 0))), .int .i64 6]) ∧ w' = w := by
  have HP : Hid (∀ w, Calls Try.prog 36 #[.string ⟨#[65, 83, 76, 82, 79, 76, 76, 83, 82, 82, 79, 82, 83, 84, 88, 76, 68, 88, 68, 69, 67, 73, 78, 67]⟩, .int .i64 5] w fun e w' => e = .returned (.string (bA (nmS ([3, 40, 33, 41, 49, 31, 21, 25].getD 5 0)))) ∧ w' = w) := fun w => by have h := pick_any [65, 83, 76, 82, 79, 76, 76, 83, 82, 82, 79, 82, 83, 84, 88, 76, 68, 88, 68, 69, 67, 73, 78, 67] 5 (by first | decide | (simp; omega)) (by decide) w; rw [pk_two 5 (by omega)] at h; exact h
  generalize bA (nmS ([3, 40, 33, 41, 49, 31, 21, 25].getD 5 0)) = N at *
  go_enter Try.func43, Try.ntmps43
  go_wp2_with (go_at_call 36; refine (HP.out _).mono ?_; clear HP; rintro e w1 ⟨rfl, rfl⟩)
  go_ret2
  exact ⟨rfl, rfl⟩
set_option maxRecDepth 100000 in
set_option maxHeartbeats 800000 in
theorem two_3x (a : Nat) (ha : a < 8) (h4 : a ≠ 4) (h5 : a ≠ 5) (w : World) : Calls Try.prog 43 #[.int .i64 (a : Int), .int .i64 3] w fun e w' => e = .returned (.tuple #[.string (bA (nmS ([3, 40, 33, 41, 49, 31, 21, 25].getD a 0))), .int .i64 6]) ∧ w' = w := by
  have HP : Hid (∀ w, Calls Try.prog 36 #[.string ⟨#[65, 83, 76, 82, 79, 76, 76, 83, 82, 82, 79, 82, 83, 84, 88, 76, 68, 88, 68, 69, 67, 73, 78, 67]⟩, .int .i64 (a : Int)] w fun e w' => e = .returned (.string (bA (nmS ([3, 40, 33, 41, 49, 31, 21, 25].getD a 0)))) ∧ w' = w) := fun w => by have h := pick_any [65, 83, 76, 82, 79, 76, 76, 83, 82, 82, 79, 82, 83, 84, 88, 76, 68, 88, 68, 69, 67, 73, 78, 67] a (by first | decide | (simp; omega)) (by decide) w; rw [pk_two a (by omega)] at h; exact h
  generalize bA (nmS ([3, 40, 33, 41, 49, 31, 21, 25].getD a 0)) = N at *
  have f4 : ((a : Int) == 4) = false := beq_eq_false_iff_ne.2 (by omega)
  have f5 : ((a : Int) == 5) = false := beq_eq_false_iff_ne.2 (by omega)
  have g4 : ¬ (a : Int) = 4 := by omega
  have g5 : ¬ (a : Int) = 5 := by omega
  go_enter Try.func43, Try.ntmps43
  go_wp2_with (go_at_call 36; refine (HP.out _).mono ?_; clear HP; rintro e w1 ⟨rfl, rfl⟩)
  go_ret2
  exact ⟨rfl, rfl⟩
set_option maxRecDepth 100000 in
set_option maxHeartbeats 800000 in
theorem two_44  (w : World) : Calls Try.prog 43 #[.int .i64 4, .int .i64 4] w fun e w' => e = .returned (.tuple #[.string (bA (nmS (0))), .int .i64 0]) ∧ w' = w := by
  have HP : Hid (∀ w, Calls Try.prog 36 #[.string ⟨#[65, 83, 76, 82, 79, 76, 76, 83, 82, 82, 79, 82, 83, 84, 88, 76, 68, 88, 68, 69, 67, 73, 78, 67]⟩, .int .i64 4] w fun e w' => e = .returned (.string (bA (nmS ([3, 40, 33, 41, 49, 31, 21, 25].getD 4 0)))) ∧ w' = w) := fun w => by have h := pick_any [65, 83, 76, 82, 79, 76, 76, 83, 82, 82, 79, 82, 83, 84, 88, 76, 68, 88, 68, 69, 67, 73, 78, 67] 4 (by first | decide | (simp; omega)) (by decide) w; rw [pk_two 4 (by omega)] at h; exact h
  generalize bA (nmS ([3, 40, 33, 41, 49, 31, 21, 25].getD 4 0)) = N at *
  go_enter Try.func43, Try.ntmps43
  go_wp2_with (go_at_call 36; refine (HP.out _).mono ?_; clear HP; rintro e w1 ⟨rfl, rfl⟩)
  go_ret2
  exact ⟨rfl, rfl⟩
set_option maxRecDepth 100000 in
set_option maxHeartbeats 800000 in
theorem two_45  (w : World) : Calls Try.prog 43 #[.int .i64 5, .int .i64 4] w fun e w' => e = .returned (.tuple #[.string (bA (nmS (0))), .int .i64 0]) ∧ w' = w := by
  have HP : Hid (∀ w, Calls Try.prog 36 #[.string ⟨#[65, 83, 76, 82, 79, 76, 76, 83, 82, 82, 79, 82, 83, 84, 88, 76, 68, 88, 68, 69, 67, 73, 78, 67]⟩, .int .i64 5] w fun e w' => e = .returned (.string (bA (nmS ([3, 40, 33, 41, 49, 31, 21, 25].getD 5 0)))) ∧ w' = w) := fun w => by have h := pick_any [65, 83, 76, 82, 79, 76, 76, 83, 82, 82, 79, 82, 83, 84, 88, 76, 68, 88, 68, 69, 67, 73, 78, 67] 5 (by first | decide | (simp; omega)) (by decide) w; rw [pk_two 5 (by omega)] at h; exact h
  generalize bA (nmS ([3, 40, 33, 41, 49, 31, 21, 25].getD 5 0)) = N at *
  go_enter Try.func43, Try.ntmps43
  go_wp2_with (go_at_call 36; refine (HP.out _).mono ?_; clear HP; rintro e w1 ⟨rfl, rfl⟩)
  go_ret2
  exact ⟨rfl, rfl⟩
set_option maxRecDepth 100000 in
set_option maxHeartbeats 800000 in
theorem two_4x (a : Nat) (ha : a < 8) (h4 : a ≠ 4) (h5 : a ≠ 5) (w : World) : Calls Try.prog 43 #[.int .i64 (a : Int), .int .i64 4] w fun e w' => e = .returned (.tuple #[.string (bA (nmS (0))), .int .i64 0]) ∧ w' = w := by
  have HP : Hid (∀ w, Calls Try.prog 36 #[.string ⟨#[65, 83, 76, 82, 79, 76, 76, 83, 82, 82, 79, 82, 83, 84, 88, 76, 68, 88, 68, 69, 67, 73, 78, 67]⟩, .int .i64 (a : Int)] w fun e w' => e = .returned (.string (bA (nmS ([3, 40, 33, 41, 49, 31, 21, 25].getD a 0)))) ∧ w' = w) := fun w => by have h := pick_any [65, 83, 76, 82, 79, 76, 76, 83, 82, 82, 79, 82, 83, 84, 88, 76, 68, 88, 68, 69, 67, 73, 78, 67] a (by first | decide | (simp; omega)) (by decide) w; rw [pk_two a (by omega)] at h; exact h
  generalize bA (nmS ([3, 40, 33, 41, 49, 31, 21, 25].getD a 0)) = N at *
  have f4 : ((a : Int) == 4) = false := beq_eq_false_iff_ne.2 (by omega)
  have f5 : ((a : Int) == 5) = false := beq_eq_false_iff_ne.2 (by omega)
  have g4 : ¬ (a : Int) = 4 := by omega
  have g5 : ¬ (a : Int) = 5 := by omega
  go_enter Try.func43, Try.ntmps43
  go_wp2_with (go_at_call 36; refine (HP.out _).mono ?_; clear HP; rintro e w1 ⟨rfl, rfl⟩)
  go_ret2
  exact ⟨rfl, rfl⟩
set_option maxRecDepth 100000 in
set_option maxHeartbeats 800000 in
theorem two_54  (w : World) : Calls Try.prog 43 #[.int .i64 4, .int .i64 5] w fun e w' => e = .returned (.tuple #[.string (bA (nmS ([3, 40, 33, 41, 49, 31, 21, 25].getD 4 0))), .int .i64 5]) ∧ w' = w := by
  have HP : Hid (∀ w, Calls Try.prog 36 #[.string ⟨#[65, 83, 76, 82, 79, 76, 76, 83, 82, 82, 79, 82, 83, 84, 88, 76, 68, 88, 68, 69, 67, 73, 78, 67]⟩, .int .i64 4] w fun e w' => e = .returned (.string (bA (nmS ([3, 40, 33, 41, 49, 31, 21, 25].getD 4 0)))) ∧ w' = w) := fun w => by have h := pick_any [65, 83, 76, 82, 79, 76, 76, 83, 82, 82, 79, 82, 83, 84, 88, 76, 68, 88, 68, 69, 67, 73, 78, 67] 4 (by first | decide | (simp; omega)) (by decide) w; rw [pk_two 4 (by omega)] at h; exact h
  generalize bA (nmS ([3, 40, 33, 41, 49, 31, 21, 25].getD 4 0)) = N at *
  go_enter Try.func43, Try.ntmps43
  go_wp2_with (go_at_call 36; refine (HP.out _).mono ?_; clear HP; rintro e w1 ⟨rfl, rfl⟩)
  go_ret2
  exact ⟨rfl, rfl⟩
set_option maxRecDepth 100000 in
set_option maxHeartbeats 800000 in
theorem two_55  (w : World) : Calls Try.prog 43 #[.int .i64 5, .int .i64 5] w fun e w' => e = .returned (.tuple #[.string (bA (nmS ([3, 40, 33, 41, 49, 31, 21, 25].getD 5 0))), .int .i64 5]) ∧ w' = w := by
  have HP : Hid (∀ w, Calls Try.prog 36 #[.string ⟨#[65, 83, 76, 82, 79, 76, 76, 83, 82, 82, 79, 82, 83, 84, 88, 76, 68, 88, 68, 69, 67, 73, 78, 67]⟩, .int .i64 5] w fun e w' => e = .returned (.string (bA (nmS ([3, 40, 33, 41, 49, 31, 21, 25].getD 5 0)))) ∧ w' = w) := fun w => by have h := pick_any [65, 83, 76, 82, 79, 76, 76, 83, 82, 82, 79, 82, 83, 84, 88, 76, 68, 88, 68, 69, 67, 73, 78, 67] 5 (by first | decide | (simp; omega)) (by decide) w; rw [pk_two 5 (by omega)] at h; exact h
  generalize bA (nmS ([3, 40, 33, 41, 49, 31, 21, 25].getD 5 0)) = N at *
  go_enter Try.func43, Try.ntmps43
  go_wp2_with (go_at_call 36; refine (HP.out _).mono ?_; clear HP; rintro e w1 ⟨rfl, rfl⟩)
  go_ret2
  exact ⟨rfl, rfl⟩
set_option maxRecDepth 100000 in
set_option maxHeartbeats 800000 in
theorem two_5x (a : Nat) (ha : a < 8) (h4 : a ≠ 4) (h5 : a ≠ 5) (w : World) : Calls Try.prog 43 #[.int .i64 (a : Int), .int .i64 5] w fun e w' => e = .returned (.tuple #[.string (bA (nmS ([3, 40, 33, 41, 49, 31, 21, 25].getD a 0))), .int .i64 4]) ∧ w' = w := by
  have HP : Hid (∀ w, Calls Try.prog 36 #[.string ⟨#[65, 83, 76, 82, 79, 76, 76, 83, 82, 82, 79, 82, 83, 84, 88, 76, 68, 88, 68, 69, 67, 73, 78, 67]⟩, .int .i64 (a : Int)] w fun e w' => e = .returned (.string (bA (nmS ([3, 40, 33, 41, 49, 31, 21, 25].getD a 0)))) ∧ w' = w) := fun w => by have h := pick_any [65, 83, 76, 82, 79, 76, 76, 83, 82, 82, 79, 82, 83, 84, 88, 76, 68, 88, 68, 69, 67, 73, 78, 67] a (by first | decide | (simp; omega)) (by decide) w; rw [pk_two a (by omega)] at h; exact h
  generalize bA (nmS ([3, 40, 33, 41, 49, 31, 21, 25].getD a 0)) = N at *
  have f4 : ((a : Int) == 4) = false := beq_eq_false_iff_ne.2 (by omega)
  have f5 : ((a : Int) == 5) = false := beq_eq_false_iff_ne.2 (by omega)
  have g4 : ¬ (a : Int) = 4 := by omega
  have g5 : ¬ (a : Int) = 5 := by omega
  go_enter Try.func43, Try.ntmps43
  go_wp2_with (go_at_call 36; refine (HP.out _).mono ?_; clear HP; rintro e w1 ⟨rfl, rfl⟩)
  go_ret2
  exact ⟨rfl, rfl⟩
set_option maxRecDepth 100000 in
set_option maxHeartbeats 800000 in
theorem two_64  (w : World) : Calls Try.prog 43 #[.int .i64 4, .int .i64 6] w fun e w' => e = .returned (.tuple #[.string (bA (nmS (55))), .int .i64 0]) ∧ w' = w := by
  have HP : Hid (∀ w, Calls Try.prog 36 #[.string ⟨#[65, 83, 76, 82, 79, 76, 76, 83, 82, 82, 79, 82, 83, 84, 88, 76, 68, 88, 68, 69, 67, 73, 78, 67]⟩, .int .i64 4] w fun e w' => e = .returned (.string (bA (nmS ([3, 40, 33, 41, 49, 31, 21, 25].getD 4 0)))) ∧ w' = w) := fun w => by have h := pick_any [65, 83, 76, 82, 79, 76, 76, 83, 82, 82, 79, 82, 83, 84, 88, 76, 68, 88, 68, 69, 67, 73, 78, 67] 4 (by first | decide | (simp; omega)) (by decide) w; rw [pk_two 4 (by omega)] at h; exact h
  generalize bA (nmS ([3, 40, 33, 41, 49, 31, 21, 25].getD 4 0)) = N at *
  go_enter Try.func43, Try.ntmps43
  go_wp2_with (go_at_call 36; refine (HP.out _).mono ?_; clear HP; rintro e w1 ⟨rfl, rfl⟩)
  go_ret2
  exact ⟨rfl, rfl⟩
set_option maxRecDepth 100000 in
set_option maxHeartbeats 800000 in
theorem two_65  (w : World) : Calls Try.prog 43 #[.int .i64 5, .int .i64 6] w fun e w' => e = .returned (.tuple #[.string (bA (nmS (53))), .int .i64 0]) ∧ w' = w := by
  have HP : Hid (∀ w, Calls Try.prog 36 #[.string ⟨#[65, 83, 76, 82, 79, 76, 76, 83, 82, 82, 79, 82, 83, 84, 88, 76, 68, 88, 68, 69, 67, 73, 78, 67]⟩, .int .i64 5] w fun e w' => e = .returned (.string (bA (nmS ([3, 40, 33, 41, 49, 31, 21, 25].getD 5 0)))) ∧ w' = w) := fun w => by have h := pick_any [65, 83, 76, 82, 79, 76, 76, 83, 82, 82, 79, 82, 83, 84, 88, 76, 68, 88, 68, 69, 67, 73, 78, 67] 5 (by first | decide | (simp; omega)) (by decide) w; rw [pk_two 5 (by omega)] at h; exact h
  generalize bA (nmS ([3, 40, 33, 41, 49, 31, 21, 25].getD 5 0)) = N at *
  go_enter Try.func43, Try.ntmps43
  go_wp2_with (go_at_call 36; refine (HP.out _).mono ?_; clear HP; rintro e w1 ⟨rfl, rfl⟩)
  go_ret2
  exact ⟨rfl, rfl⟩
set_option maxRecDepth 100000 in
set_option maxHeartbeats 800000 in
theorem two_6x (a : Nat) (ha : a < 8) (h4 : a ≠ 4) (h5 : a ≠ 5) (w : World) : Calls Try.prog 43 #[.int .i64 (a : Int), .int .i64 6] w fun e w' => e = .returned (.tuple #[.string (bA (nmS (0))), .int .i64 0]) ∧ w' = w := by
  have HP : Hid (∀ w, Calls Try.prog 36 #[.string ⟨#[65, 83, 76, 82, 79, 76, 76, 83, 82, 82, 79, 82, 83, 84, 88, 76, 68, 88, 68, 69, 67, 73, 78, 67]⟩, .int .i64 (a : Int)] w fun e w' => e = .returned (.string (bA (nmS ([3, 40, 33, 41, 49, 31, 21, 25].getD a 0)))) ∧ w' = w) := fun w => by have h := pick_any [65, 83, 76, 82, 79, 76, 76, 83, 82, 82, 79, 82, 83, 84, 88, 76, 68, 88, 68, 69, 67, 73, 78, 67] a (by first | decide | (simp; omega)) (by decide) w; rw [pk_two a (by omega)] at h; exact h
  generalize bA (nmS ([3, 40, 33, 41, 49, 31, 21, 25].getD a 0)) = N at *
  have f4 : ((a : Int) == 4) = false := beq_eq_false_iff_ne.2 (by omega)
  have f5 : ((a : Int) == 5) = false := beq_eq_false_iff_ne.2 (by omega)
  have g4 : ¬ (a : Int) = 4 := by omega
  have g5 : ¬ (a : Int) = 5 := by omega
  go_enter Try.func43, Try.ntmps43
  go_wp2_with (go_at_call 36; refine (HP.out _).mono ?_; clear HP; rintro e w1 ⟨rfl, rfl⟩)
  go_ret2
  exact ⟨rfl, rfl⟩
set_option maxRecDepth 100000 in
set_option maxHeartbeats 800000 in
theorem two_74  (w : World) : Calls Try.prog 43 #[.int .i64 4, .int .i64 7] w fun e w' => e = .returned (.tuple #[.string (bA (nmS (0))), .int .i64 0]) ∧ w' = w := by
  have HP : Hid (∀ w, Calls Try.prog 36 #[.string ⟨#[65, 83, 76, 82, 79, 76, 76, 83, 82, 82, 79, 82, 83, 84, 88, 76, 68, 88, 68, 69, 67, 73, 78, 67]⟩, .int .i64 4] w fun e w' => e = .returned (.string (bA (nmS ([3, 40, 33, 41, 49, 31, 21, 25].getD 4 0)))) ∧ w' = w) := fun w => by have h := pick_any [65, 83, 76, 82, 79, 76, 76, 83, 82, 82, 79, 82, 83, 84, 88, 76, 68, 88, 68, 69, 67, 73, 78, 67] 4 (by first | decide | (simp; omega)) (by decide) w; rw [pk_two 4 (by omega)] at h; exact h
  generalize bA (nmS ([3, 40, 33, 41, 49, 31, 21, 25].getD 4 0)) = N at *
  go_enter Try.func43, Try.ntmps43
  go_wp2_with (go_at_call 36; refine (HP.out _).mono ?_; clear HP; rintro e w1 ⟨rfl, rfl⟩)
  go_ret2
  exact ⟨rfl, rfl⟩
set_option maxRecDepth 100000 in
set_option maxHeartbeats 800000 in
theorem two_75  (w : World) : Calls Try.prog 43 #[.int .i64 5, .int .i64 7] w fun e w' => e = .returned (.tuple #[.string (bA (nmS ([3, 40, 33, 41, 49, 31, 21, 25].getD 5 0))), .int .i64 8]) ∧ w' = w := by
  have HP : Hid (∀ w, Calls Try.prog 36 #[.string ⟨#[65, 83, 76, 82, 79, 76, 76, 83, 82, 82, 79, 82, 83, 84, 88, 76, 68, 88, 68, 69, 67, 73, 78, 67]⟩, .int .i64 5] w fun e w' => e = .returned (.string (bA (nmS ([3, 40, 33, 41, 49, 31, 21, 25].getD 5 0)))) ∧ w' = w) := fun w => by have h := pick_any [65, 83, 76, 82, 79, 76, 76, 83, 82, 82, 79, 82, 83, 84, 88, 76, 68, 88, 68, 69, 67, 73, 78, 67] 5 (by first | decide | (simp; omega)) (by decide) w; rw [pk_two 5 (by omega)] at h; exact h
  generalize bA (nmS ([3, 40, 33, 41, 49, 31, 21, 25].getD 5 0)) = N at *
  go_enter Try.func43, Try.ntmps43
  go_wp2_with (go_at_call 36; refine (HP.out _).mono ?_; clear HP; rintro e w1 ⟨rfl, rfl⟩)
  go_ret2
  exact ⟨rfl, rfl⟩
set_option maxRecDepth 100000 in
set_option maxHeartbeats 800000 in
theorem two_7x (a : Nat) (ha : a < 8) (h4 : a ≠ 4) (h5 : a ≠ 5) (w : World) : Calls Try.prog 43 #[.int .i64 (a : Int), .int .i64 7] w fun e w' => e = .returned (.tuple #[.string (bA (nmS ([3, 40, 33, 41, 49, 31, 21, 25].getD a 0))), .int .i64 7]) ∧ w' = w := by
  have HP : Hid (∀ w, Calls Try.prog 36 #[.string ⟨#[65, 83, 76, 82, 79, 76, 76, 83, 82, 82, 79, 82, 83, 84, 88, 76, 68, 88, 68, 69, 67, 73, 78, 67]⟩, .int .i64 (a : Int)] w fun e w' => e = .returned (.string (bA (nmS ([3, 40, 33, 41, 49, 31, 21, 25].getD a 0)))) ∧ w' = w) := fun w => by have h := pick_any [65, 83, 76, 82, 79, 76, 76, 83, 82, 82, 79, 82, 83, 84, 88, 76, 68, 88, 68, 69, 67, 73, 78, 67] a (by first | decide | (simp; omega)) (by decide) w; rw [pk_two a (by omega)] at h; exact h
  generalize bA (nmS ([3, 40, 33, 41, 49, 31, 21, 25].getD a 0)) = N at *
  have f4 : ((a : Int) == 4) = false := beq_eq_false_iff_ne.2 (by omega)
  have f5 : ((a : Int) == 5) = false := beq_eq_false_iff_ne.2 (by omega)
  have g4 : ¬ (a : Int) = 4 := by omega
  have g5 : ¬ (a : Int) = 5 := by omega
  go_enter Try.func43, Try.ntmps43
  go_wp2_with (go_at_call 36; refine (HP.out _).mono ?_; clear HP; rintro e w1 ⟨rfl, rfl⟩)
  go_ret2
  exact ⟨rfl, rfl⟩
theorem two_any (a b : Nat) (ha : a < 8) (hb : b < 8) (w : World) : Calls Try.prog 43 #[.int .i64 (a : Int), .int .i64 (b : Int)] w fun e w' => e = .returned (.tuple #[.string (bA (nmS (c2S a b).1)), .int .i64 ((c2S a b).2 : Int)]) ∧ w' = w := by
  by_cases h4 : a = 4
  · subst h4
    rcases lt8 hb with rfl | rfl | rfl | rfl | rfl | rfl | rfl | rfl
    · exact two_04 w
    · exact two_14 w
    · exact two_24 w
    · exact two_34 w
    · exact two_44 w
    · exact two_54 w
    · exact two_64 w
    · exact two_74 w
  by_cases h5 : a = 5
  · subst h5
    rcases lt8 hb with rfl | rfl | rfl | rfl | rfl | rfl | rfl | rfl
    · exact two_05 w
    · exact two_15 w
    · exact two_25 w
    · exact two_35 w
    · exact two_45 w
    · exact two_55 w
    · exact two_65 w
    · exact two_75 w
  rcases lt8 hb with rfl | rfl | rfl | rfl | rfl | rfl | rfl | rfl
  · have h := (by decide : ∀ a < 8, a ≠ 4 → a ≠ 5 → (c2S a 0).1 = 0 ∧ (c2S a 0).2 = 0) a ha h4 h5
    rw [h.1, h.2]; exact two_0x a ha h4 h5 w
  · have h := (by decide : ∀ a < 8, a ≠ 4 → a ≠ 5 → (c2S a 1).1 = [3, 40, 33, 41, 49, 31, 21, 25].getD a 0 ∧ (c2S a 1).2 = 3) a ha h4 h5
    rw [h.1, h.2]; exact two_1x a ha h4 h5 w
  · by_cases hl : a < 4
    · have h := (by decide : ∀ a < 8, a < 4 → (c2S a 2).1 = [3, 40, 33, 41, 49, 31, 21, 25].getD a 0 ∧ (c2S a 2).2 = 1) a ha hl
      rw [h.1, h.2]; exact two_2x a ha h4 h5 hl w
    · have h67 : a = 6 ∨ a = 7 := by omega
      rcases h67 with rfl | rfl
      · exact two_26 w
      · exact two_27 w
  · have h := (by decide : ∀ a < 8, a ≠ 4 → a ≠ 5 → (c2S a 3).1 = [3, 40, 33, 41, 49, 31, 21, 25].getD a 0 ∧ (c2S a 3).2 = 6) a ha h4 h5
    rw [h.1, h.2]; exact two_3x a ha h4 h5 w
  · have h := (by decide : ∀ a < 8, a ≠ 4 → a ≠ 5 → (c2S a 4).1 = 0 ∧ (c2S a 4).2 = 0) a ha h4 h5
    rw [h.1, h.2]; exact two_4x a ha h4 h5 w
  · have h := (by decide : ∀ a < 8, a ≠ 4 → a ≠ 5 → (c2S a 5).1 = [3, 40, 33, 41, 49, 31, 21, 25].getD a 0 ∧ (c2S a 5).2 = 4) a ha h4 h5
    rw [h.1, h.2]; exact two_5x a ha h4 h5 w
  · have h := (by decide : ∀ a < 8, a ≠ 4 → a ≠ 5 → (c2S a 6).1 = 0 ∧ (c2S a 6).2 = 0) a ha h4 h5
    rw [h.1, h.2]; exact two_6x a ha h4 h5 w
  · have h := (by decide : ∀ a < 8, a ≠ 4 → a ≠ 5 → (c2S a 7).1 = [3, 40, 33, 41, 49, 31, 21, 25].getD a 0 ∧ (c2S a 7).2 = 7) a ha h4 h5
    rw [h.1, h.2]; exact two_7x a ha h4 h5 w
end Go.Proofs.Ytfecadongbmfhaa
