/- What the program's calls answer of a nil cipher. -/
import Derived.Test.YtgefampdfhbmbabMl
namespace Go.Proofs.Ytgefampdfhbmbab
open Go.RowKit
set_option linter.unusedVariables false

theorem pSteps_nil (v : Value) (w : World) : Calls Try.prog 11 #[.pointer none, v] w fun e w' => ∃ a c, e = .returned (.tuple #[.slice a 0 c, .int .i64 2]) ∧ Below w.heap.size w w' := by
  have HR := hidD (fun w => pRefused_nil v w)
  go_enter Try.func11, Try.ntmps11
  go_wp2_with (go_at_call 18; refine (HR.out _).mono ?_; rintro e w1 ⟨rfl, rfl⟩)
  refine bodyPost_ret (v := .tuple #[.slice none 0 0, .int .i64 2]) (by simp [results, Try.results11, go_sem]) rfl ?_
  exact ⟨_, _, rfl, Below.refl _ _⟩
theorem pRefCh_nil (v u : Value) (w : World) : Calls Try.prog 28 #[.pointer none, v, u] w fun e w' => e = .returned (.int .i64 2) ∧ w' = w := by
  have HR := hidD (fun w => pRefused_nil v w)
  go_enter Try.func28, Try.ntmps28
  go_wp2_with (go_at_call 18; refine (HR.out _).mono ?_; rintro e w1 ⟨rfl, rfl⟩)
  go_ret
  exact ⟨rfl, rfl⟩
theorem pCounter_nil (v u : Value) (w : World) : Calls Try.prog 12 #[.pointer none, v, u] w fun e w' => ∃ vo, e = .returned (.tuple #[vo, .int .i64 2]) ∧ SlAt w' vo [] ∧ Below w.heap.size w w' := by
  have HR := hidD (fun w => pRefused_nil v w)
  have Y1 : Hid (Below w.heap.size w (w.alloc (.cells #[.pointer none] (24 : TypeId)))) := (Below.refl _ _).alloc (Nat.le_refl _) _
  have y2 : (w.alloc (.cells #[.pointer none] (24 : TypeId))).cell? ⟨w.heap.size, 0, none⟩ = some (.pointer none) := by rw [cell_of_row _ _ _ _ _ _ (heap_alloc_last _ _)]; rfl
  go_enter Try.func12, Try.ntmps12
  go_wp2_with (go_at_call 18; refine (HR.out _).mono ?_; rintro e w1 ⟨rfl, hw1⟩; subst hw1)
  refine bodyPost_ret (v := .tuple #[.slice none 0 0, .int .i64 2]) (by simp [results, Try.results12, go_sem]) rfl ?_
  exact ⟨_, rfl, sl_nil _, Y1.out⟩
theorem pChain_nil (v u : Value) (w : World) : Calls Try.prog 13 #[.pointer none, v, u] w fun e w' => ∃ vo, e = .returned (.tuple #[vo, .int .i64 2]) ∧ SlAt w' vo [] ∧ Below w.heap.size w w' := by
  have HR := hidD (fun w => pRefCh_nil v u w)
  go_enter Try.func13, Try.ntmps13
  go_wp2_with (go_at_call 28; refine (HR.out _).mono ?_; rintro e w1 ⟨rfl, hw1⟩; subst hw1)
  refine bodyPost_ret (v := .tuple #[.slice none 0 0, .int .i64 2]) (by simp [results, Try.results13, go_sem]) rfl ?_
  exact ⟨_, rfl, sl_nil _, Below.refl _ _⟩
theorem pUnchain_nil (v u : Value) (w : World) : Calls Try.prog 14 #[.pointer none, v, u] w fun e w' => ∃ vo, e = .returned (.tuple #[vo, .int .i64 2]) ∧ SlAt w' vo [] ∧ Below w.heap.size w w' := by
  have HR := hidD (fun w => pRefCh_nil v u w)
  have Y1 : Hid (Below w.heap.size w (w.alloc (.cells #[.pointer none] (24 : TypeId)))) := (Below.refl _ _).alloc (Nat.le_refl _) _
  have y2 : (w.alloc (.cells #[.pointer none] (24 : TypeId))).cell? ⟨w.heap.size, 0, none⟩ = some (.pointer none) := by rw [cell_of_row _ _ _ _ _ _ (heap_alloc_last _ _)]; rfl
  go_enter Try.func14, Try.ntmps14
  go_wp2_with (go_at_call 28; refine (HR.out _).mono ?_; rintro e w1 ⟨rfl, hw1⟩; subst hw1)
  refine bodyPost_ret (v := .tuple #[.slice none 0 0, .int .i64 2]) (by simp [results, Try.results14, go_sem]) rfl ?_
  exact ⟨_, rfl, sl_nil _, Y1.out⟩
theorem pMac_nil (v : Value) (w : World) : Calls Try.prog 15 #[.pointer none, v] w fun e w' => ∃ vo, e = .returned (.tuple #[vo, .int .i64 2]) ∧ SlAt w' vo [] ∧ Below w.heap.size w w' := by
  go_enter Try.func15, Try.ntmps15
  go_wp2_with fail
  refine bodyPost_ret (v := .tuple #[.slice none 0 0, .int .i64 2]) (by simp [results, Try.results15, go_sem]) rfl ?_
  exact ⟨_, rfl, sl_nil _, Below.refl _ _⟩
end Go.Proofs.Ytgefampdfhbmbab
