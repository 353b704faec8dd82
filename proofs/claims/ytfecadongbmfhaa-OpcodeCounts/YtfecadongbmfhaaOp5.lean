/- What the program's withC2 answers. -/
import Derived.Test.YtfecadongbmfhaaOp2
namespace Go.Proofs.Ytfecadongbmfhaa
open Go.RowKit
set_option linter.unusedVariables false

set_option maxRecDepth 100000 in
theorem withC2_00 (w : World) : Calls Try.prog 57 #[.int .i64 0, .int .i64 0] w fun e w' => e = .returned (.agg (inC 0 0)) ∧ Below w.heap.size w w' := by
  have hi : ∀ w, (Instr.index 81 (.agg #[.int .i64 3, .int .i64 40, .int .i64 33, .int .i64 41, .int .i64 49, .int .i64 31, .int .i64 21, .int .i64 25]) (.int .i64 0)).run Try.prog w = .ok (.int .i64 3) w := fun w => ix8 3 40 33 41 49 31 21 25 0 (by decide) w
  go_enter Try.func57, Try.ntmps57
  go_wp2_with (first | (refine wpList_store_row rfl 64 _ _ rfl w.heap.size (inC 0 0) rfl rfl 64 #[.int .i64 0, .int .i64 0] (in_new w) in_size rfl (in_one 0 0) ?_))
  refine bodyPost_ret (results_cell_row (P := Try.prog) (p := 4) (ty := 64) (by kernel_rfl) _ _ w.heap.size 64 (inC 0 0) (0, 0) _ rfl (setRow_heap _ _ _ _ _ _ (in_new w)) Try.underlying64 rfl in_size) rfl ?_
  exact ⟨rfl, in_bel w _⟩
set_option maxRecDepth 100000 in
theorem withC2_01 (w : World) : Calls Try.prog 57 #[.int .i64 1, .int .i64 0] w fun e w' => e = .returned (.agg (inC 0 0)) ∧ Below w.heap.size w w' := by
  have hi : ∀ w, (Instr.index 81 (.agg #[.int .i64 3, .int .i64 40, .int .i64 33, .int .i64 41, .int .i64 49, .int .i64 31, .int .i64 21, .int .i64 25]) (.int .i64 1)).run Try.prog w = .ok (.int .i64 40) w := fun w => ix8 3 40 33 41 49 31 21 25 1 (by decide) w
  go_enter Try.func57, Try.ntmps57
  go_wp2_with (first | (refine wpList_store_row rfl 64 _ _ rfl w.heap.size (inC 0 0) rfl rfl 64 #[.int .i64 0, .int .i64 0] (in_new w) in_size rfl (in_one 0 0) ?_))
  refine bodyPost_ret (results_cell_row (P := Try.prog) (p := 4) (ty := 64) (by kernel_rfl) _ _ w.heap.size 64 (inC 0 0) (0, 0) _ rfl (setRow_heap _ _ _ _ _ _ (in_new w)) Try.underlying64 rfl in_size) rfl ?_
  exact ⟨rfl, in_bel w _⟩
set_option maxRecDepth 100000 in
theorem withC2_02 (w : World) : Calls Try.prog 57 #[.int .i64 2, .int .i64 0] w fun e w' => e = .returned (.agg (inC 0 0)) ∧ Below w.heap.size w w' := by
  have hi : ∀ w, (Instr.index 81 (.agg #[.int .i64 3, .int .i64 40, .int .i64 33, .int .i64 41, .int .i64 49, .int .i64 31, .int .i64 21, .int .i64 25]) (.int .i64 2)).run Try.prog w = .ok (.int .i64 33) w := fun w => ix8 3 40 33 41 49 31 21 25 2 (by decide) w
  go_enter Try.func57, Try.ntmps57
  go_wp2_with (first | (refine wpList_store_row rfl 64 _ _ rfl w.heap.size (inC 0 0) rfl rfl 64 #[.int .i64 0, .int .i64 0] (in_new w) in_size rfl (in_one 0 0) ?_))
  refine bodyPost_ret (results_cell_row (P := Try.prog) (p := 4) (ty := 64) (by kernel_rfl) _ _ w.heap.size 64 (inC 0 0) (0, 0) _ rfl (setRow_heap _ _ _ _ _ _ (in_new w)) Try.underlying64 rfl in_size) rfl ?_
  exact ⟨rfl, in_bel w _⟩
set_option maxRecDepth 100000 in
theorem withC2_03 (w : World) : Calls Try.prog 57 #[.int .i64 3, .int .i64 0] w fun e w' => e = .returned (.agg (inC 0 0)) ∧ Below w.heap.size w w' := by
  have hi : ∀ w, (Instr.index 81 (.agg #[.int .i64 3, .int .i64 40, .int .i64 33, .int .i64 41, .int .i64 49, .int .i64 31, .int .i64 21, .int .i64 25]) (.int .i64 3)).run Try.prog w = .ok (.int .i64 41) w := fun w => ix8 3 40 33 41 49 31 21 25 3 (by decide) w
  go_enter Try.func57, Try.ntmps57
  go_wp2_with (first | (refine wpList_store_row rfl 64 _ _ rfl w.heap.size (inC 0 0) rfl rfl 64 #[.int .i64 0, .int .i64 0] (in_new w) in_size rfl (in_one 0 0) ?_))
  refine bodyPost_ret (results_cell_row (P := Try.prog) (p := 4) (ty := 64) (by kernel_rfl) _ _ w.heap.size 64 (inC 0 0) (0, 0) _ rfl (setRow_heap _ _ _ _ _ _ (in_new w)) Try.underlying64 rfl in_size) rfl ?_
  exact ⟨rfl, in_bel w _⟩
set_option maxRecDepth 100000 in
theorem withC2_04 (w : World) : Calls Try.prog 57 #[.int .i64 4, .int .i64 0] w fun e w' => e = .returned (.agg (inC 0 0)) ∧ Below w.heap.size w w' := by
  have hi : ∀ w, (Instr.index 81 (.agg #[.int .i64 3, .int .i64 40, .int .i64 33, .int .i64 41, .int .i64 49, .int .i64 31, .int .i64 21, .int .i64 25]) (.int .i64 4)).run Try.prog w = .ok (.int .i64 49) w := fun w => ix8 3 40 33 41 49 31 21 25 4 (by decide) w
  go_enter Try.func57, Try.ntmps57
  go_wp2_with (first | (refine wpList_store_row rfl 64 _ _ rfl w.heap.size (inC 0 0) rfl rfl 64 #[.int .i64 0, .int .i64 0] (in_new w) in_size rfl (in_one 0 0) ?_))
  refine bodyPost_ret (results_cell_row (P := Try.prog) (p := 4) (ty := 64) (by kernel_rfl) _ _ w.heap.size 64 (inC 0 0) (0, 0) _ rfl (setRow_heap _ _ _ _ _ _ (in_new w)) Try.underlying64 rfl in_size) rfl ?_
  exact ⟨rfl, in_bel w _⟩
set_option maxRecDepth 100000 in
theorem withC2_05 (w : World) : Calls Try.prog 57 #[.int .i64 5, .int .i64 0] w fun e w' => e = .returned (.agg (inC 31 2)) ∧ Below w.heap.size w w' := by
  have hi : ∀ w, (Instr.index 81 (.agg #[.int .i64 3, .int .i64 40, .int .i64 33, .int .i64 41, .int .i64 49, .int .i64 31, .int .i64 21, .int .i64 25]) (.int .i64 5)).run Try.prog w = .ok (.int .i64 31) w := fun w => ix8 3 40 33 41 49 31 21 25 5 (by decide) w
  go_enter Try.func57, Try.ntmps57
  go_wp2_with (first | (refine wpList_store_row rfl 64 _ _ rfl w.heap.size (inC 31 2) rfl rfl 64 #[.int .i64 0, .int .i64 0] (in_new w) in_size rfl (in_one 31 2) ?_))
  refine bodyPost_ret (results_cell_row (P := Try.prog) (p := 4) (ty := 64) (by kernel_rfl) _ _ w.heap.size 64 (inC 31 2) (0, 0) _ rfl (setRow_heap _ _ _ _ _ _ (in_new w)) Try.underlying64 rfl in_size) rfl ?_
  exact ⟨rfl, in_bel w _⟩
set_option maxRecDepth 100000 in
theorem withC2_06 (w : World) : Calls Try.prog 57 #[.int .i64 6, .int .i64 0] w fun e w' => e = .returned (.agg (inC 0 0)) ∧ Below w.heap.size w w' := by
  have hi : ∀ w, (Instr.index 81 (.agg #[.int .i64 3, .int .i64 40, .int .i64 33, .int .i64 41, .int .i64 49, .int .i64 31, .int .i64 21, .int .i64 25]) (.int .i64 6)).run Try.prog w = .ok (.int .i64 21) w := fun w => ix8 3 40 33 41 49 31 21 25 6 (by decide) w
  go_enter Try.func57, Try.ntmps57
  go_wp2_with (first | (refine wpList_store_row rfl 64 _ _ rfl w.heap.size (inC 0 0) rfl rfl 64 #[.int .i64 0, .int .i64 0] (in_new w) in_size rfl (in_one 0 0) ?_))
  refine bodyPost_ret (results_cell_row (P := Try.prog) (p := 4) (ty := 64) (by kernel_rfl) _ _ w.heap.size 64 (inC 0 0) (0, 0) _ rfl (setRow_heap _ _ _ _ _ _ (in_new w)) Try.underlying64 rfl in_size) rfl ?_
  exact ⟨rfl, in_bel w _⟩
set_option maxRecDepth 100000 in
theorem withC2_07 (w : World) : Calls Try.prog 57 #[.int .i64 7, .int .i64 0] w fun e w' => e = .returned (.agg (inC 0 0)) ∧ Below w.heap.size w w' := by
  have hi : ∀ w, (Instr.index 81 (.agg #[.int .i64 3, .int .i64 40, .int .i64 33, .int .i64 41, .int .i64 49, .int .i64 31, .int .i64 21, .int .i64 25]) (.int .i64 7)).run Try.prog w = .ok (.int .i64 25) w := fun w => ix8 3 40 33 41 49 31 21 25 7 (by decide) w
  go_enter Try.func57, Try.ntmps57
  go_wp2_with (first | (refine wpList_store_row rfl 64 _ _ rfl w.heap.size (inC 0 0) rfl rfl 64 #[.int .i64 0, .int .i64 0] (in_new w) in_size rfl (in_one 0 0) ?_))
  refine bodyPost_ret (results_cell_row (P := Try.prog) (p := 4) (ty := 64) (by kernel_rfl) _ _ w.heap.size 64 (inC 0 0) (0, 0) _ rfl (setRow_heap _ _ _ _ _ _ (in_new w)) Try.underlying64 rfl in_size) rfl ?_
  exact ⟨rfl, in_bel w _⟩
set_option maxRecDepth 100000 in
theorem withC2_10 (w : World) : Calls Try.prog 57 #[.int .i64 0, .int .i64 1] w fun e w' => e = .returned (.agg (inC 3 3)) ∧ Below w.heap.size w w' := by
  have hi : ∀ w, (Instr.index 81 (.agg #[.int .i64 3, .int .i64 40, .int .i64 33, .int .i64 41, .int .i64 49, .int .i64 31, .int .i64 21, .int .i64 25]) (.int .i64 0)).run Try.prog w = .ok (.int .i64 3) w := fun w => ix8 3 40 33 41 49 31 21 25 0 (by decide) w
  have HB : Hid (∀ w, Calls Try.prog 65 #[.int .i64 1] w fun e w' => e = .returned (.int .i64 3) ∧ w' = w) := fun w => byB_any 1 (by decide) w
  go_enter Try.func57, Try.ntmps57
  go_wp2_with (first | (go_at_call 65; refine (HB.out _).mono ?_; rintro e w2 ⟨rfl, hb2⟩) | (refine wpList_store_row rfl 64 _ _ rfl w.heap.size (inC 3 3) rfl rfl 64 #[.int .i64 0, .int .i64 0] (in_new w) in_size rfl (in_one 3 3) ?_))
  refine bodyPost_ret (results_cell_row (P := Try.prog) (p := 4) (ty := 64) (by kernel_rfl) _ _ w.heap.size 64 (inC 3 3) (0, 0) _ rfl (setRow_heap _ _ _ _ _ _ (in_new w)) Try.underlying64 rfl in_size) rfl ?_
  exact ⟨rfl, in_bel w _⟩
set_option maxRecDepth 100000 in
theorem withC2_11 (w : World) : Calls Try.prog 57 #[.int .i64 1, .int .i64 1] w fun e w' => e = .returned (.agg (inC 40 3)) ∧ Below w.heap.size w w' := by
  have hi : ∀ w, (Instr.index 81 (.agg #[.int .i64 3, .int .i64 40, .int .i64 33, .int .i64 41, .int .i64 49, .int .i64 31, .int .i64 21, .int .i64 25]) (.int .i64 1)).run Try.prog w = .ok (.int .i64 40) w := fun w => ix8 3 40 33 41 49 31 21 25 1 (by decide) w
  have HB : Hid (∀ w, Calls Try.prog 65 #[.int .i64 1] w fun e w' => e = .returned (.int .i64 3) ∧ w' = w) := fun w => byB_any 1 (by decide) w
  go_enter Try.func57, Try.ntmps57
  go_wp2_with (first | (go_at_call 65; refine (HB.out _).mono ?_; rintro e w2 ⟨rfl, hb2⟩) | (refine wpList_store_row rfl 64 _ _ rfl w.heap.size (inC 40 3) rfl rfl 64 #[.int .i64 0, .int .i64 0] (in_new w) in_size rfl (in_one 40 3) ?_))
  refine bodyPost_ret (results_cell_row (P := Try.prog) (p := 4) (ty := 64) (by kernel_rfl) _ _ w.heap.size 64 (inC 40 3) (0, 0) _ rfl (setRow_heap _ _ _ _ _ _ (in_new w)) Try.underlying64 rfl in_size) rfl ?_
  exact ⟨rfl, in_bel w _⟩
set_option maxRecDepth 100000 in
theorem withC2_12 (w : World) : Calls Try.prog 57 #[.int .i64 2, .int .i64 1] w fun e w' => e = .returned (.agg (inC 33 3)) ∧ Below w.heap.size w w' := by
  have hi : ∀ w, (Instr.index 81 (.agg #[.int .i64 3, .int .i64 40, .int .i64 33, .int .i64 41, .int .i64 49, .int .i64 31, .int .i64 21, .int .i64 25]) (.int .i64 2)).run Try.prog w = .ok (.int .i64 33) w := fun w => ix8 3 40 33 41 49 31 21 25 2 (by decide) w
  have HB : Hid (∀ w, Calls Try.prog 65 #[.int .i64 1] w fun e w' => e = .returned (.int .i64 3) ∧ w' = w) := fun w => byB_any 1 (by decide) w
  go_enter Try.func57, Try.ntmps57
  go_wp2_with (first | (go_at_call 65; refine (HB.out _).mono ?_; rintro e w2 ⟨rfl, hb2⟩) | (refine wpList_store_row rfl 64 _ _ rfl w.heap.size (inC 33 3) rfl rfl 64 #[.int .i64 0, .int .i64 0] (in_new w) in_size rfl (in_one 33 3) ?_))
  refine bodyPost_ret (results_cell_row (P := Try.prog) (p := 4) (ty := 64) (by kernel_rfl) _ _ w.heap.size 64 (inC 33 3) (0, 0) _ rfl (setRow_heap _ _ _ _ _ _ (in_new w)) Try.underlying64 rfl in_size) rfl ?_
  exact ⟨rfl, in_bel w _⟩
set_option maxRecDepth 100000 in
theorem withC2_13 (w : World) : Calls Try.prog 57 #[.int .i64 3, .int .i64 1] w fun e w' => e = .returned (.agg (inC 41 3)) ∧ Below w.heap.size w w' := by
  have hi : ∀ w, (Instr.index 81 (.agg #[.int .i64 3, .int .i64 40, .int .i64 33, .int .i64 41, .int .i64 49, .int .i64 31, .int .i64 21, .int .i64 25]) (.int .i64 3)).run Try.prog w = .ok (.int .i64 41) w := fun w => ix8 3 40 33 41 49 31 21 25 3 (by decide) w
  have HB : Hid (∀ w, Calls Try.prog 65 #[.int .i64 1] w fun e w' => e = .returned (.int .i64 3) ∧ w' = w) := fun w => byB_any 1 (by decide) w
  go_enter Try.func57, Try.ntmps57
  go_wp2_with (first | (go_at_call 65; refine (HB.out _).mono ?_; rintro e w2 ⟨rfl, hb2⟩) | (refine wpList_store_row rfl 64 _ _ rfl w.heap.size (inC 41 3) rfl rfl 64 #[.int .i64 0, .int .i64 0] (in_new w) in_size rfl (in_one 41 3) ?_))
  refine bodyPost_ret (results_cell_row (P := Try.prog) (p := 4) (ty := 64) (by kernel_rfl) _ _ w.heap.size 64 (inC 41 3) (0, 0) _ rfl (setRow_heap _ _ _ _ _ _ (in_new w)) Try.underlying64 rfl in_size) rfl ?_
  exact ⟨rfl, in_bel w _⟩
set_option maxRecDepth 100000 in
theorem withC2_14 (w : World) : Calls Try.prog 57 #[.int .i64 4, .int .i64 1] w fun e w' => e = .returned (.agg (inC 49 3)) ∧ Below w.heap.size w w' := by
  have hi : ∀ w, (Instr.index 81 (.agg #[.int .i64 3, .int .i64 40, .int .i64 33, .int .i64 41, .int .i64 49, .int .i64 31, .int .i64 21, .int .i64 25]) (.int .i64 4)).run Try.prog w = .ok (.int .i64 49) w := fun w => ix8 3 40 33 41 49 31 21 25 4 (by decide) w
  have HB : Hid (∀ w, Calls Try.prog 65 #[.int .i64 1] w fun e w' => e = .returned (.int .i64 3) ∧ w' = w) := fun w => byB_any 1 (by decide) w
  go_enter Try.func57, Try.ntmps57
  go_wp2_with (first | (go_at_call 65; refine (HB.out _).mono ?_; rintro e w2 ⟨rfl, hb2⟩) | (refine wpList_store_row rfl 64 _ _ rfl w.heap.size (inC 49 3) rfl rfl 64 #[.int .i64 0, .int .i64 0] (in_new w) in_size rfl (in_one 49 3) ?_))
  refine bodyPost_ret (results_cell_row (P := Try.prog) (p := 4) (ty := 64) (by kernel_rfl) _ _ w.heap.size 64 (inC 49 3) (0, 0) _ rfl (setRow_heap _ _ _ _ _ _ (in_new w)) Try.underlying64 rfl in_size) rfl ?_
  exact ⟨rfl, in_bel w _⟩
set_option maxRecDepth 100000 in
theorem withC2_15 (w : World) : Calls Try.prog 57 #[.int .i64 5, .int .i64 1] w fun e w' => e = .returned (.agg (inC 31 3)) ∧ Below w.heap.size w w' := by
  have hi : ∀ w, (Instr.index 81 (.agg #[.int .i64 3, .int .i64 40, .int .i64 33, .int .i64 41, .int .i64 49, .int .i64 31, .int .i64 21, .int .i64 25]) (.int .i64 5)).run Try.prog w = .ok (.int .i64 31) w := fun w => ix8 3 40 33 41 49 31 21 25 5 (by decide) w
  have HB : Hid (∀ w, Calls Try.prog 65 #[.int .i64 1] w fun e w' => e = .returned (.int .i64 3) ∧ w' = w) := fun w => byB_any 1 (by decide) w
  go_enter Try.func57, Try.ntmps57
  go_wp2_with (first | (go_at_call 65; refine (HB.out _).mono ?_; rintro e w2 ⟨rfl, hb2⟩) | (refine wpList_store_row rfl 64 _ _ rfl w.heap.size (inC 31 3) rfl rfl 64 #[.int .i64 0, .int .i64 0] (in_new w) in_size rfl (in_one 31 3) ?_))
  refine bodyPost_ret (results_cell_row (P := Try.prog) (p := 4) (ty := 64) (by kernel_rfl) _ _ w.heap.size 64 (inC 31 3) (0, 0) _ rfl (setRow_heap _ _ _ _ _ _ (in_new w)) Try.underlying64 rfl in_size) rfl ?_
  exact ⟨rfl, in_bel w _⟩
set_option maxRecDepth 100000 in
theorem withC2_16 (w : World) : Calls Try.prog 57 #[.int .i64 6, .int .i64 1] w fun e w' => e = .returned (.agg (inC 21 3)) ∧ Below w.heap.size w w' := by
  have hi : ∀ w, (Instr.index 81 (.agg #[.int .i64 3, .int .i64 40, .int .i64 33, .int .i64 41, .int .i64 49, .int .i64 31, .int .i64 21, .int .i64 25]) (.int .i64 6)).run Try.prog w = .ok (.int .i64 21) w := fun w => ix8 3 40 33 41 49 31 21 25 6 (by decide) w
  have HB : Hid (∀ w, Calls Try.prog 65 #[.int .i64 1] w fun e w' => e = .returned (.int .i64 3) ∧ w' = w) := fun w => byB_any 1 (by decide) w
  go_enter Try.func57, Try.ntmps57
  go_wp2_with (first | (go_at_call 65; refine (HB.out _).mono ?_; rintro e w2 ⟨rfl, hb2⟩) | (refine wpList_store_row rfl 64 _ _ rfl w.heap.size (inC 21 3) rfl rfl 64 #[.int .i64 0, .int .i64 0] (in_new w) in_size rfl (in_one 21 3) ?_))
  refine bodyPost_ret (results_cell_row (P := Try.prog) (p := 4) (ty := 64) (by kernel_rfl) _ _ w.heap.size 64 (inC 21 3) (0, 0) _ rfl (setRow_heap _ _ _ _ _ _ (in_new w)) Try.underlying64 rfl in_size) rfl ?_
  exact ⟨rfl, in_bel w _⟩
set_option maxRecDepth 100000 in
theorem withC2_17 (w : World) : Calls Try.prog 57 #[.int .i64 7, .int .i64 1] w fun e w' => e = .returned (.agg (inC 25 3)) ∧ Below w.heap.size w w' := by
  have hi : ∀ w, (Instr.index 81 (.agg #[.int .i64 3, .int .i64 40, .int .i64 33, .int .i64 41, .int .i64 49, .int .i64 31, .int .i64 21, .int .i64 25]) (.int .i64 7)).run Try.prog w = .ok (.int .i64 25) w := fun w => ix8 3 40 33 41 49 31 21 25 7 (by decide) w
  have HB : Hid (∀ w, Calls Try.prog 65 #[.int .i64 1] w fun e w' => e = .returned (.int .i64 3) ∧ w' = w) := fun w => byB_any 1 (by decide) w
  go_enter Try.func57, Try.ntmps57
  go_wp2_with (first | (go_at_call 65; refine (HB.out _).mono ?_; rintro e w2 ⟨rfl, hb2⟩) | (refine wpList_store_row rfl 64 _ _ rfl w.heap.size (inC 25 3) rfl rfl 64 #[.int .i64 0, .int .i64 0] (in_new w) in_size rfl (in_one 25 3) ?_))
  refine bodyPost_ret (results_cell_row (P := Try.prog) (p := 4) (ty := 64) (by kernel_rfl) _ _ w.heap.size 64 (inC 25 3) (0, 0) _ rfl (setRow_heap _ _ _ _ _ _ (in_new w)) Try.underlying64 rfl in_size) rfl ?_
  exact ⟨rfl, in_bel w _⟩
set_option maxRecDepth 100000 in
theorem withC2_20 (w : World) : Calls Try.prog 57 #[.int .i64 0, .int .i64 2] w fun e w' => e = .returned (.agg (inC 3 1)) ∧ Below w.heap.size w w' := by
  have hi : ∀ w, (Instr.index 81 (.agg #[.int .i64 3, .int .i64 40, .int .i64 33, .int .i64 41, .int .i64 49, .int .i64 31, .int .i64 21, .int .i64 25]) (.int .i64 0)).run Try.prog w = .ok (.int .i64 3) w := fun w => ix8 3 40 33 41 49 31 21 25 0 (by decide) w
  go_enter Try.func57, Try.ntmps57
  go_wp2_with (first | (refine wpList_store_row rfl 64 _ _ rfl w.heap.size (inC 3 1) rfl rfl 64 #[.int .i64 0, .int .i64 0] (in_new w) in_size rfl (in_one 3 1) ?_))
  refine bodyPost_ret (results_cell_row (P := Try.prog) (p := 4) (ty := 64) (by kernel_rfl) _ _ w.heap.size 64 (inC 3 1) (0, 0) _ rfl (setRow_heap _ _ _ _ _ _ (in_new w)) Try.underlying64 rfl in_size) rfl ?_
  exact ⟨rfl, in_bel w _⟩
set_option maxRecDepth 100000 in
theorem withC2_21 (w : World) : Calls Try.prog 57 #[.int .i64 1, .int .i64 2] w fun e w' => e = .returned (.agg (inC 40 1)) ∧ Below w.heap.size w w' := by
  have hi : ∀ w, (Instr.index 81 (.agg #[.int .i64 3, .int .i64 40, .int .i64 33, .int .i64 41, .int .i64 49, .int .i64 31, .int .i64 21, .int .i64 25]) (.int .i64 1)).run Try.prog w = .ok (.int .i64 40) w := fun w => ix8 3 40 33 41 49 31 21 25 1 (by decide) w
  go_enter Try.func57, Try.ntmps57
  go_wp2_with (first | (refine wpList_store_row rfl 64 _ _ rfl w.heap.size (inC 40 1) rfl rfl 64 #[.int .i64 0, .int .i64 0] (in_new w) in_size rfl (in_one 40 1) ?_))
  refine bodyPost_ret (results_cell_row (P := Try.prog) (p := 4) (ty := 64) (by kernel_rfl) _ _ w.heap.size 64 (inC 40 1) (0, 0) _ rfl (setRow_heap _ _ _ _ _ _ (in_new w)) Try.underlying64 rfl in_size) rfl ?_
  exact ⟨rfl, in_bel w _⟩
set_option maxRecDepth 100000 in
theorem withC2_22 (w : World) : Calls Try.prog 57 #[.int .i64 2, .int .i64 2] w fun e w' => e = .returned (.agg (inC 33 1)) ∧ Below w.heap.size w w' := by
  have hi : ∀ w, (Instr.index 81 (.agg #[.int .i64 3, .int .i64 40, .int .i64 33, .int .i64 41, .int .i64 49, .int .i64 31, .int .i64 21, .int .i64 25]) (.int .i64 2)).run Try.prog w = .ok (.int .i64 33) w := fun w => ix8 3 40 33 41 49 31 21 25 2 (by decide) w
  go_enter Try.func57, Try.ntmps57
  go_wp2_with (first | (refine wpList_store_row rfl 64 _ _ rfl w.heap.size (inC 33 1) rfl rfl 64 #[.int .i64 0, .int .i64 0] (in_new w) in_size rfl (in_one 33 1) ?_))
  refine bodyPost_ret (results_cell_row (P := Try.prog) (p := 4) (ty := 64) (by kernel_rfl) _ _ w.heap.size 64 (inC 33 1) (0, 0) _ rfl (setRow_heap _ _ _ _ _ _ (in_new w)) Try.underlying64 rfl in_size) rfl ?_
  exact ⟨rfl, in_bel w _⟩
set_option maxRecDepth 100000 in
theorem withC2_23 (w : World) : Calls Try.prog 57 #[.int .i64 3, .int .i64 2] w fun e w' => e = .returned (.agg (inC 41 1)) ∧ Below w.heap.size w w' := by
  have hi : ∀ w, (Instr.index 81 (.agg #[.int .i64 3, .int .i64 40, .int .i64 33, .int .i64 41, .int .i64 49, .int .i64 31, .int .i64 21, .int .i64 25]) (.int .i64 3)).run Try.prog w = .ok (.int .i64 41) w := fun w => ix8 3 40 33 41 49 31 21 25 3 (by decide) w
  go_enter Try.func57, Try.ntmps57
  go_wp2_with (first | (refine wpList_store_row rfl 64 _ _ rfl w.heap.size (inC 41 1) rfl rfl 64 #[.int .i64 0, .int .i64 0] (in_new w) in_size rfl (in_one 41 1) ?_))
  refine bodyPost_ret (results_cell_row (P := Try.prog) (p := 4) (ty := 64) (by kernel_rfl) _ _ w.heap.size 64 (inC 41 1) (0, 0) _ rfl (setRow_heap _ _ _ _ _ _ (in_new w)) Try.underlying64 rfl in_size) rfl ?_
  exact ⟨rfl, in_bel w _⟩
set_option maxRecDepth 100000 in
theorem withC2_24 (w : World) : Calls Try.prog 57 #[.int .i64 4, .int .i64 2] w fun e w' => e = .returned (.agg (inC 54 0)) ∧ Below w.heap.size w w' := by
  have hi : ∀ w, (Instr.index 81 (.agg #[.int .i64 3, .int .i64 40, .int .i64 33, .int .i64 41, .int .i64 49, .int .i64 31, .int .i64 21, .int .i64 25]) (.int .i64 4)).run Try.prog w = .ok (.int .i64 49) w := fun w => ix8 3 40 33 41 49 31 21 25 4 (by decide) w
  have hj : ∀ w, (Instr.index 81 (.agg #[.int .i64 0, .int .i64 0, .int .i64 0, .int .i64 0, .int .i64 54, .int .i64 51, .int .i64 22, .int .i64 34]) (.int .i64 4)).run Try.prog w = .ok (.int .i64 54) w := fun w => ix8 0 0 0 0 54 51 22 34 4 (by decide) w
  go_enter Try.func57, Try.ntmps57
  go_wp2_with (first | (refine wpList_store_row rfl 64 _ _ rfl w.heap.size (inC 54 0) rfl rfl 64 #[.int .i64 0, .int .i64 0] (in_new w) in_size rfl (in_one 54 0) ?_))
  refine bodyPost_ret (results_cell_row (P := Try.prog) (p := 4) (ty := 64) (by kernel_rfl) _ _ w.heap.size 64 (inC 54 0) (0, 0) _ rfl (setRow_heap _ _ _ _ _ _ (in_new w)) Try.underlying64 rfl in_size) rfl ?_
  exact ⟨rfl, in_bel w _⟩
set_option maxRecDepth 100000 in
theorem withC2_25 (w : World) : Calls Try.prog 57 #[.int .i64 5, .int .i64 2] w fun e w' => e = .returned (.agg (inC 51 0)) ∧ Below w.heap.size w w' := by
  have hi : ∀ w, (Instr.index 81 (.agg #[.int .i64 3, .int .i64 40, .int .i64 33, .int .i64 41, .int .i64 49, .int .i64 31, .int .i64 21, .int .i64 25]) (.int .i64 5)).run Try.prog w = .ok (.int .i64 31) w := fun w => ix8 3 40 33 41 49 31 21 25 5 (by decide) w
  have hj : ∀ w, (Instr.index 81 (.agg #[.int .i64 0, .int .i64 0, .int .i64 0, .int .i64 0, .int .i64 54, .int .i64 51, .int .i64 22, .int .i64 34]) (.int .i64 5)).run Try.prog w = .ok (.int .i64 51) w := fun w => ix8 0 0 0 0 54 51 22 34 5 (by decide) w
  go_enter Try.func57, Try.ntmps57
  go_wp2_with (first | (refine wpList_store_row rfl 64 _ _ rfl w.heap.size (inC 51 0) rfl rfl 64 #[.int .i64 0, .int .i64 0] (in_new w) in_size rfl (in_one 51 0) ?_))
  refine bodyPost_ret (results_cell_row (P := Try.prog) (p := 4) (ty := 64) (by kernel_rfl) _ _ w.heap.size 64 (inC 51 0) (0, 0) _ rfl (setRow_heap _ _ _ _ _ _ (in_new w)) Try.underlying64 rfl in_size) rfl ?_
  exact ⟨rfl, in_bel w _⟩
set_option maxRecDepth 100000 in
theorem withC2_26 (w : World) : Calls Try.prog 57 #[.int .i64 6, .int .i64 2] w fun e w' => e = .returned (.agg (inC 22 0)) ∧ Below w.heap.size w w' := by
  have hi : ∀ w, (Instr.index 81 (.agg #[.int .i64 3, .int .i64 40, .int .i64 33, .int .i64 41, .int .i64 49, .int .i64 31, .int .i64 21, .int .i64 25]) (.int .i64 6)).run Try.prog w = .ok (.int .i64 21) w := fun w => ix8 3 40 33 41 49 31 21 25 6 (by decide) w
  have hj : ∀ w, (Instr.index 81 (.agg #[.int .i64 0, .int .i64 0, .int .i64 0, .int .i64 0, .int .i64 54, .int .i64 51, .int .i64 22, .int .i64 34]) (.int .i64 6)).run Try.prog w = .ok (.int .i64 22) w := fun w => ix8 0 0 0 0 54 51 22 34 6 (by decide) w
  go_enter Try.func57, Try.ntmps57
  go_wp2_with (first | (refine wpList_store_row rfl 64 _ _ rfl w.heap.size (inC 22 0) rfl rfl 64 #[.int .i64 0, .int .i64 0] (in_new w) in_size rfl (in_one 22 0) ?_))
  refine bodyPost_ret (results_cell_row (P := Try.prog) (p := 4) (ty := 64) (by kernel_rfl) _ _ w.heap.size 64 (inC 22 0) (0, 0) _ rfl (setRow_heap _ _ _ _ _ _ (in_new w)) Try.underlying64 rfl in_size) rfl ?_
  exact ⟨rfl, in_bel w _⟩
set_option maxRecDepth 100000 in
theorem withC2_27 (w : World) : Calls Try.prog 57 #[.int .i64 7, .int .i64 2] w fun e w' => e = .returned (.agg (inC 34 0)) ∧ Below w.heap.size w w' := by
  have hi : ∀ w, (Instr.index 81 (.agg #[.int .i64 3, .int .i64 40, .int .i64 33, .int .i64 41, .int .i64 49, .int .i64 31, .int .i64 21, .int .i64 25]) (.int .i64 7)).run Try.prog w = .ok (.int .i64 25) w := fun w => ix8 3 40 33 41 49 31 21 25 7 (by decide) w
  have hj : ∀ w, (Instr.index 81 (.agg #[.int .i64 0, .int .i64 0, .int .i64 0, .int .i64 0, .int .i64 54, .int .i64 51, .int .i64 22, .int .i64 34]) (.int .i64 7)).run Try.prog w = .ok (.int .i64 34) w := fun w => ix8 0 0 0 0 54 51 22 34 7 (by decide) w
  go_enter Try.func57, Try.ntmps57
  go_wp2_with (first | (refine wpList_store_row rfl 64 _ _ rfl w.heap.size (inC 34 0) rfl rfl 64 #[.int .i64 0, .int .i64 0] (in_new w) in_size rfl (in_one 34 0) ?_))
  refine bodyPost_ret (results_cell_row (P := Try.prog) (p := 4) (ty := 64) (by kernel_rfl) _ _ w.heap.size 64 (inC 34 0) (0, 0) _ rfl (setRow_heap _ _ _ _ _ _ (in_new w)) Try.underlying64 rfl in_size) rfl ?_
  exact ⟨rfl, in_bel w _⟩
set_option maxRecDepth 100000 in
theorem withC2_30 (w : World) : Calls Try.prog 57 #[.int .i64 0, .int .i64 3] w fun e w' => e = .returned (.agg (inC 3 6)) ∧ Below w.heap.size w w' := by
  have hi : ∀ w, (Instr.index 81 (.agg #[.int .i64 3, .int .i64 40, .int .i64 33, .int .i64 41, .int .i64 49, .int .i64 31, .int .i64 21, .int .i64 25]) (.int .i64 0)).run Try.prog w = .ok (.int .i64 3) w := fun w => ix8 3 40 33 41 49 31 21 25 0 (by decide) w
  have HB : Hid (∀ w, Calls Try.prog 65 #[.int .i64 3] w fun e w' => e = .returned (.int .i64 6) ∧ w' = w) := fun w => byB_any 3 (by decide) w
  go_enter Try.func57, Try.ntmps57
  go_wp2_with (first | (go_at_call 65; refine (HB.out _).mono ?_; rintro e w2 ⟨rfl, hb2⟩) | (refine wpList_store_row rfl 64 _ _ rfl w.heap.size (inC 3 6) rfl rfl 64 #[.int .i64 0, .int .i64 0] (in_new w) in_size rfl (in_one 3 6) ?_))
  refine bodyPost_ret (results_cell_row (P := Try.prog) (p := 4) (ty := 64) (by kernel_rfl) _ _ w.heap.size 64 (inC 3 6) (0, 0) _ rfl (setRow_heap _ _ _ _ _ _ (in_new w)) Try.underlying64 rfl in_size) rfl ?_
  exact ⟨rfl, in_bel w _⟩
set_option maxRecDepth 100000 in
theorem withC2_31 (w : World) : Calls Try.prog 57 #[.int .i64 1, .int .i64 3] w fun e w' => e = .returned (.agg (inC 40 6)) ∧ Below w.heap.size w w' := by
  have hi : ∀ w, (Instr.index 81 (.agg #[.int .i64 3, .int .i64 40, .int .i64 33, .int .i64 41, .int .i64 49, .int .i64 31, .int .i64 21, .int .i64 25]) (.int .i64 1)).run Try.prog w = .ok (.int .i64 40) w := fun w => ix8 3 40 33 41 49 31 21 25 1 (by decide) w
  have HB : Hid (∀ w, Calls Try.prog 65 #[.int .i64 3] w fun e w' => e = .returned (.int .i64 6) ∧ w' = w) := fun w => byB_any 3 (by decide) w
  go_enter Try.func57, Try.ntmps57
  go_wp2_with (first | (go_at_call 65; refine (HB.out _).mono ?_; rintro e w2 ⟨rfl, hb2⟩) | (refine wpList_store_row rfl 64 _ _ rfl w.heap.size (inC 40 6) rfl rfl 64 #[.int .i64 0, .int .i64 0] (in_new w) in_size rfl (in_one 40 6) ?_))
  refine bodyPost_ret (results_cell_row (P := Try.prog) (p := 4) (ty := 64) (by kernel_rfl) _ _ w.heap.size 64 (inC 40 6) (0, 0) _ rfl (setRow_heap _ _ _ _ _ _ (in_new w)) Try.underlying64 rfl in_size) rfl ?_
  exact ⟨rfl, in_bel w _⟩
set_option maxRecDepth 100000 in
theorem withC2_32 (w : World) : Calls Try.prog 57 #[.int .i64 2, .int .i64 3] w fun e w' => e = .returned (.agg (inC 33 6)) ∧ Below w.heap.size w w' := by
  have hi : ∀ w, (Instr.index 81 (.agg #[.int .i64 3, .int .i64 40, .int .i64 33, .int .i64 41, .int .i64 49, .int .i64 31, .int .i64 21, .int .i64 25]) (.int .i64 2)).run Try.prog w = .ok (.int .i64 33) w := fun w => ix8 3 40 33 41 49 31 21 25 2 (by decide) w
  have HB : Hid (∀ w, Calls Try.prog 65 #[.int .i64 3] w fun e w' => e = .returned (.int .i64 6) ∧ w' = w) := fun w => byB_any 3 (by decide) w
  go_enter Try.func57, Try.ntmps57
  go_wp2_with (first | (go_at_call 65; refine (HB.out _).mono ?_; rintro e w2 ⟨rfl, hb2⟩) | (refine wpList_store_row rfl 64 _ _ rfl w.heap.size (inC 33 6) rfl rfl 64 #[.int .i64 0, .int .i64 0] (in_new w) in_size rfl (in_one 33 6) ?_))
  refine bodyPost_ret (results_cell_row (P := Try.prog) (p := 4) (ty := 64) (by kernel_rfl) _ _ w.heap.size 64 (inC 33 6) (0, 0) _ rfl (setRow_heap _ _ _ _ _ _ (in_new w)) Try.underlying64 rfl in_size) rfl ?_
  exact ⟨rfl, in_bel w _⟩
set_option maxRecDepth 100000 in
theorem withC2_33 (w : World) : Calls Try.prog 57 #[.int .i64 3, .int .i64 3] w fun e w' => e = .returned (.agg (inC 41 6)) ∧ Below w.heap.size w w' := by
  have hi : ∀ w, (Instr.index 81 (.agg #[.int .i64 3, .int .i64 40, .int .i64 33, .int .i64 41, .int .i64 49, .int .i64 31, .int .i64 21, .int .i64 25]) (.int .i64 3)).run Try.prog w = .ok (.int .i64 41) w := fun w => ix8 3 40 33 41 49 31 21 25 3 (by decide) w
  have HB : Hid (∀ w, Calls Try.prog 65 #[.int .i64 3] w fun e w' => e = .returned (.int .i64 6) ∧ w' = w) := fun w => byB_any 3 (by decide) w
  go_enter Try.func57, Try.ntmps57
  go_wp2_with (first | (go_at_call 65; refine (HB.out _).mono ?_; rintro e w2 ⟨rfl, hb2⟩) | (refine wpList_store_row rfl 64 _ _ rfl w.heap.size (inC 41 6) rfl rfl 64 #[.int .i64 0, .int .i64 0] (in_new w) in_size rfl (in_one 41 6) ?_))
  refine bodyPost_ret (results_cell_row (P := Try.prog) (p := 4) (ty := 64) (by kernel_rfl) _ _ w.heap.size 64 (inC 41 6) (0, 0) _ rfl (setRow_heap _ _ _ _ _ _ (in_new w)) Try.underlying64 rfl in_size) rfl ?_
  exact ⟨rfl, in_bel w _⟩
set_option maxRecDepth 100000 in
theorem withC2_34 (w : World) : Calls Try.prog 57 #[.int .i64 4, .int .i64 3] w fun e w' => e = .returned (.agg (inC 49 6)) ∧ Below w.heap.size w w' := by
  have hi : ∀ w, (Instr.index 81 (.agg #[.int .i64 3, .int .i64 40, .int .i64 33, .int .i64 41, .int .i64 49, .int .i64 31, .int .i64 21, .int .i64 25]) (.int .i64 4)).run Try.prog w = .ok (.int .i64 49) w := fun w => ix8 3 40 33 41 49 31 21 25 4 (by decide) w
  have HB : Hid (∀ w, Calls Try.prog 65 #[.int .i64 3] w fun e w' => e = .returned (.int .i64 6) ∧ w' = w) := fun w => byB_any 3 (by decide) w
  go_enter Try.func57, Try.ntmps57
  go_wp2_with (first | (go_at_call 65; refine (HB.out _).mono ?_; rintro e w2 ⟨rfl, hb2⟩) | (refine wpList_store_row rfl 64 _ _ rfl w.heap.size (inC 49 6) rfl rfl 64 #[.int .i64 0, .int .i64 0] (in_new w) in_size rfl (in_one 49 6) ?_))
  refine bodyPost_ret (results_cell_row (P := Try.prog) (p := 4) (ty := 64) (by kernel_rfl) _ _ w.heap.size 64 (inC 49 6) (0, 0) _ rfl (setRow_heap _ _ _ _ _ _ (in_new w)) Try.underlying64 rfl in_size) rfl ?_
  exact ⟨rfl, in_bel w _⟩
set_option maxRecDepth 100000 in
theorem withC2_35 (w : World) : Calls Try.prog 57 #[.int .i64 5, .int .i64 3] w fun e w' => e = .returned (.agg (inC 31 6)) ∧ Below w.heap.size w w' := by
  have hi : ∀ w, (Instr.index 81 (.agg #[.int .i64 3, .int .i64 40, .int .i64 33, .int .i64 41, .int .i64 49, .int .i64 31, .int .i64 21, .int .i64 25]) (.int .i64 5)).run Try.prog w = .ok (.int .i64 31) w := fun w => ix8 3 40 33 41 49 31 21 25 5 (by decide) w
  have HB : Hid (∀ w, Calls Try.prog 65 #[.int .i64 3] w fun e w' => e = .returned (.int .i64 6) ∧ w' = w) := fun w => byB_any 3 (by decide) w
  go_enter Try.func57, Try.ntmps57
  go_wp2_with (first | (go_at_call 65; refine (HB.out _).mono ?_; rintro e w2 ⟨rfl, hb2⟩) | (refine wpList_store_row rfl 64 _ _ rfl w.heap.size (inC 31 6) rfl rfl 64 #[.int .i64 0, .int .i64 0] (in_new w) in_size rfl (in_one 31 6) ?_))
  refine bodyPost_ret (results_cell_row (P := Try.prog) (p := 4) (ty := 64) (by kernel_rfl) _ _ w.heap.size 64 (inC 31 6) (0, 0) _ rfl (setRow_heap _ _ _ _ _ _ (in_new w)) Try.underlying64 rfl in_size) rfl ?_
  exact ⟨rfl, in_bel w _⟩
set_option maxRecDepth 100000 in
theorem withC2_36 (w : World) : Calls Try.prog 57 #[.int .i64 6, .int .i64 3] w fun e w' => e = .returned (.agg (inC 21 6)) ∧ Below w.heap.size w w' := by
  have hi : ∀ w, (Instr.index 81 (.agg #[.int .i64 3, .int .i64 40, .int .i64 33, .int .i64 41, .int .i64 49, .int .i64 31, .int .i64 21, .int .i64 25]) (.int .i64 6)).run Try.prog w = .ok (.int .i64 21) w := fun w => ix8 3 40 33 41 49 31 21 25 6 (by decide) w
  have HB : Hid (∀ w, Calls Try.prog 65 #[.int .i64 3] w fun e w' => e = .returned (.int .i64 6) ∧ w' = w) := fun w => byB_any 3 (by decide) w
  go_enter Try.func57, Try.ntmps57
  go_wp2_with (first | (go_at_call 65; refine (HB.out _).mono ?_; rintro e w2 ⟨rfl, hb2⟩) | (refine wpList_store_row rfl 64 _ _ rfl w.heap.size (inC 21 6) rfl rfl 64 #[.int .i64 0, .int .i64 0] (in_new w) in_size rfl (in_one 21 6) ?_))
  refine bodyPost_ret (results_cell_row (P := Try.prog) (p := 4) (ty := 64) (by kernel_rfl) _ _ w.heap.size 64 (inC 21 6) (0, 0) _ rfl (setRow_heap _ _ _ _ _ _ (in_new w)) Try.underlying64 rfl in_size) rfl ?_
  exact ⟨rfl, in_bel w _⟩
set_option maxRecDepth 100000 in
theorem withC2_37 (w : World) : Calls Try.prog 57 #[.int .i64 7, .int .i64 3] w fun e w' => e = .returned (.agg (inC 25 6)) ∧ Below w.heap.size w w' := by
  have hi : ∀ w, (Instr.index 81 (.agg #[.int .i64 3, .int .i64 40, .int .i64 33, .int .i64 41, .int .i64 49, .int .i64 31, .int .i64 21, .int .i64 25]) (.int .i64 7)).run Try.prog w = .ok (.int .i64 25) w := fun w => ix8 3 40 33 41 49 31 21 25 7 (by decide) w
  have HB : Hid (∀ w, Calls Try.prog 65 #[.int .i64 3] w fun e w' => e = .returned (.int .i64 6) ∧ w' = w) := fun w => byB_any 3 (by decide) w
  go_enter Try.func57, Try.ntmps57
  go_wp2_with (first | (go_at_call 65; refine (HB.out _).mono ?_; rintro e w2 ⟨rfl, hb2⟩) | (refine wpList_store_row rfl 64 _ _ rfl w.heap.size (inC 25 6) rfl rfl 64 #[.int .i64 0, .int .i64 0] (in_new w) in_size rfl (in_one 25 6) ?_))
  refine bodyPost_ret (results_cell_row (P := Try.prog) (p := 4) (ty := 64) (by kernel_rfl) _ _ w.heap.size 64 (inC 25 6) (0, 0) _ rfl (setRow_heap _ _ _ _ _ _ (in_new w)) Try.underlying64 rfl in_size) rfl ?_
  exact ⟨rfl, in_bel w _⟩
set_option maxRecDepth 100000 in
theorem withC2_40 (w : World) : Calls Try.prog 57 #[.int .i64 0, .int .i64 4] w fun e w' => e = .returned (.agg (inC 0 0)) ∧ Below w.heap.size w w' := by
  have hi : ∀ w, (Instr.index 81 (.agg #[.int .i64 3, .int .i64 40, .int .i64 33, .int .i64 41, .int .i64 49, .int .i64 31, .int .i64 21, .int .i64 25]) (.int .i64 0)).run Try.prog w = .ok (.int .i64 3) w := fun w => ix8 3 40 33 41 49 31 21 25 0 (by decide) w
  go_enter Try.func57, Try.ntmps57
  go_wp2_with (first | (refine wpList_store_row rfl 64 _ _ rfl w.heap.size (inC 0 0) rfl rfl 64 #[.int .i64 0, .int .i64 0] (in_new w) in_size rfl (in_one 0 0) ?_))
  refine bodyPost_ret (results_cell_row (P := Try.prog) (p := 4) (ty := 64) (by kernel_rfl) _ _ w.heap.size 64 (inC 0 0) (0, 0) _ rfl (setRow_heap _ _ _ _ _ _ (in_new w)) Try.underlying64 rfl in_size) rfl ?_
  exact ⟨rfl, in_bel w _⟩
set_option maxRecDepth 100000 in
theorem withC2_41 (w : World) : Calls Try.prog 57 #[.int .i64 1, .int .i64 4] w fun e w' => e = .returned (.agg (inC 0 0)) ∧ Below w.heap.size w w' := by
  have hi : ∀ w, (Instr.index 81 (.agg #[.int .i64 3, .int .i64 40, .int .i64 33, .int .i64 41, .int .i64 49, .int .i64 31, .int .i64 21, .int .i64 25]) (.int .i64 1)).run Try.prog w = .ok (.int .i64 40) w := fun w => ix8 3 40 33 41 49 31 21 25 1 (by decide) w
  go_enter Try.func57, Try.ntmps57
  go_wp2_with (first | (refine wpList_store_row rfl 64 _ _ rfl w.heap.size (inC 0 0) rfl rfl 64 #[.int .i64 0, .int .i64 0] (in_new w) in_size rfl (in_one 0 0) ?_))
  refine bodyPost_ret (results_cell_row (P := Try.prog) (p := 4) (ty := 64) (by kernel_rfl) _ _ w.heap.size 64 (inC 0 0) (0, 0) _ rfl (setRow_heap _ _ _ _ _ _ (in_new w)) Try.underlying64 rfl in_size) rfl ?_
  exact ⟨rfl, in_bel w _⟩
set_option maxRecDepth 100000 in
theorem withC2_42 (w : World) : Calls Try.prog 57 #[.int .i64 2, .int .i64 4] w fun e w' => e = .returned (.agg (inC 0 0)) ∧ Below w.heap.size w w' := by
  have hi : ∀ w, (Instr.index 81 (.agg #[.int .i64 3, .int .i64 40, .int .i64 33, .int .i64 41, .int .i64 49, .int .i64 31, .int .i64 21, .int .i64 25]) (.int .i64 2)).run Try.prog w = .ok (.int .i64 33) w := fun w => ix8 3 40 33 41 49 31 21 25 2 (by decide) w
  go_enter Try.func57, Try.ntmps57
  go_wp2_with (first | (refine wpList_store_row rfl 64 _ _ rfl w.heap.size (inC 0 0) rfl rfl 64 #[.int .i64 0, .int .i64 0] (in_new w) in_size rfl (in_one 0 0) ?_))
  refine bodyPost_ret (results_cell_row (P := Try.prog) (p := 4) (ty := 64) (by kernel_rfl) _ _ w.heap.size 64 (inC 0 0) (0, 0) _ rfl (setRow_heap _ _ _ _ _ _ (in_new w)) Try.underlying64 rfl in_size) rfl ?_
  exact ⟨rfl, in_bel w _⟩
set_option maxRecDepth 100000 in
theorem withC2_43 (w : World) : Calls Try.prog 57 #[.int .i64 3, .int .i64 4] w fun e w' => e = .returned (.agg (inC 0 0)) ∧ Below w.heap.size w w' := by
  have hi : ∀ w, (Instr.index 81 (.agg #[.int .i64 3, .int .i64 40, .int .i64 33, .int .i64 41, .int .i64 49, .int .i64 31, .int .i64 21, .int .i64 25]) (.int .i64 3)).run Try.prog w = .ok (.int .i64 41) w := fun w => ix8 3 40 33 41 49 31 21 25 3 (by decide) w
  go_enter Try.func57, Try.ntmps57
  go_wp2_with (first | (refine wpList_store_row rfl 64 _ _ rfl w.heap.size (inC 0 0) rfl rfl 64 #[.int .i64 0, .int .i64 0] (in_new w) in_size rfl (in_one 0 0) ?_))
  refine bodyPost_ret (results_cell_row (P := Try.prog) (p := 4) (ty := 64) (by kernel_rfl) _ _ w.heap.size 64 (inC 0 0) (0, 0) _ rfl (setRow_heap _ _ _ _ _ _ (in_new w)) Try.underlying64 rfl in_size) rfl ?_
  exact ⟨rfl, in_bel w _⟩
set_option maxRecDepth 100000 in
theorem withC2_44 (w : World) : Calls Try.prog 57 #[.int .i64 4, .int .i64 4] w fun e w' => e = .returned (.agg (inC 0 0)) ∧ Below w.heap.size w w' := by
  have hi : ∀ w, (Instr.index 81 (.agg #[.int .i64 3, .int .i64 40, .int .i64 33, .int .i64 41, .int .i64 49, .int .i64 31, .int .i64 21, .int .i64 25]) (.int .i64 4)).run Try.prog w = .ok (.int .i64 49) w := fun w => ix8 3 40 33 41 49 31 21 25 4 (by decide) w
  go_enter Try.func57, Try.ntmps57
  go_wp2_with (first | (refine wpList_store_row rfl 64 _ _ rfl w.heap.size (inC 0 0) rfl rfl 64 #[.int .i64 0, .int .i64 0] (in_new w) in_size rfl (in_one 0 0) ?_))
  refine bodyPost_ret (results_cell_row (P := Try.prog) (p := 4) (ty := 64) (by kernel_rfl) _ _ w.heap.size 64 (inC 0 0) (0, 0) _ rfl (setRow_heap _ _ _ _ _ _ (in_new w)) Try.underlying64 rfl in_size) rfl ?_
  exact ⟨rfl, in_bel w _⟩
set_option maxRecDepth 100000 in
theorem withC2_45 (w : World) : Calls Try.prog 57 #[.int .i64 5, .int .i64 4] w fun e w' => e = .returned (.agg (inC 0 0)) ∧ Below w.heap.size w w' := by
  have hi : ∀ w, (Instr.index 81 (.agg #[.int .i64 3, .int .i64 40, .int .i64 33, .int .i64 41, .int .i64 49, .int .i64 31, .int .i64 21, .int .i64 25]) (.int .i64 5)).run Try.prog w = .ok (.int .i64 31) w := fun w => ix8 3 40 33 41 49 31 21 25 5 (by decide) w
  go_enter Try.func57, Try.ntmps57
  go_wp2_with (first | (refine wpList_store_row rfl 64 _ _ rfl w.heap.size (inC 0 0) rfl rfl 64 #[.int .i64 0, .int .i64 0] (in_new w) in_size rfl (in_one 0 0) ?_))
  refine bodyPost_ret (results_cell_row (P := Try.prog) (p := 4) (ty := 64) (by kernel_rfl) _ _ w.heap.size 64 (inC 0 0) (0, 0) _ rfl (setRow_heap _ _ _ _ _ _ (in_new w)) Try.underlying64 rfl in_size) rfl ?_
  exact ⟨rfl, in_bel w _⟩
set_option maxRecDepth 100000 in
theorem withC2_46 (w : World) : Calls Try.prog 57 #[.int .i64 6, .int .i64 4] w fun e w' => e = .returned (.agg (inC 0 0)) ∧ Below w.heap.size w w' := by
  have hi : ∀ w, (Instr.index 81 (.agg #[.int .i64 3, .int .i64 40, .int .i64 33, .int .i64 41, .int .i64 49, .int .i64 31, .int .i64 21, .int .i64 25]) (.int .i64 6)).run Try.prog w = .ok (.int .i64 21) w := fun w => ix8 3 40 33 41 49 31 21 25 6 (by decide) w
  go_enter Try.func57, Try.ntmps57
  go_wp2_with (first | (refine wpList_store_row rfl 64 _ _ rfl w.heap.size (inC 0 0) rfl rfl 64 #[.int .i64 0, .int .i64 0] (in_new w) in_size rfl (in_one 0 0) ?_))
  refine bodyPost_ret (results_cell_row (P := Try.prog) (p := 4) (ty := 64) (by kernel_rfl) _ _ w.heap.size 64 (inC 0 0) (0, 0) _ rfl (setRow_heap _ _ _ _ _ _ (in_new w)) Try.underlying64 rfl in_size) rfl ?_
  exact ⟨rfl, in_bel w _⟩
set_option maxRecDepth 100000 in
theorem withC2_47 (w : World) : Calls Try.prog 57 #[.int .i64 7, .int .i64 4] w fun e w' => e = .returned (.agg (inC 0 0)) ∧ Below w.heap.size w w' := by
  have hi : ∀ w, (Instr.index 81 (.agg #[.int .i64 3, .int .i64 40, .int .i64 33, .int .i64 41, .int .i64 49, .int .i64 31, .int .i64 21, .int .i64 25]) (.int .i64 7)).run Try.prog w = .ok (.int .i64 25) w := fun w => ix8 3 40 33 41 49 31 21 25 7 (by decide) w
  go_enter Try.func57, Try.ntmps57
  go_wp2_with (first | (refine wpList_store_row rfl 64 _ _ rfl w.heap.size (inC 0 0) rfl rfl 64 #[.int .i64 0, .int .i64 0] (in_new w) in_size rfl (in_one 0 0) ?_))
  refine bodyPost_ret (results_cell_row (P := Try.prog) (p := 4) (ty := 64) (by kernel_rfl) _ _ w.heap.size 64 (inC 0 0) (0, 0) _ rfl (setRow_heap _ _ _ _ _ _ (in_new w)) Try.underlying64 rfl in_size) rfl ?_
  exact ⟨rfl, in_bel w _⟩
set_option maxRecDepth 100000 in
theorem withC2_50 (w : World) : Calls Try.prog 57 #[.int .i64 0, .int .i64 5] w fun e w' => e = .returned (.agg (inC 3 4)) ∧ Below w.heap.size w w' := by
  have hi : ∀ w, (Instr.index 81 (.agg #[.int .i64 3, .int .i64 40, .int .i64 33, .int .i64 41, .int .i64 49, .int .i64 31, .int .i64 21, .int .i64 25]) (.int .i64 0)).run Try.prog w = .ok (.int .i64 3) w := fun w => ix8 3 40 33 41 49 31 21 25 0 (by decide) w
  have HB : Hid (∀ w, Calls Try.prog 65 #[.int .i64 5] w fun e w' => e = .returned (.int .i64 4) ∧ w' = w) := fun w => byB_any 5 (by decide) w
  go_enter Try.func57, Try.ntmps57
  go_wp2_with (first | (go_at_call 65; refine (HB.out _).mono ?_; rintro e w2 ⟨rfl, hb2⟩) | (refine wpList_store_row rfl 64 _ _ rfl w.heap.size (inC 3 4) rfl rfl 64 #[.int .i64 0, .int .i64 0] (in_new w) in_size rfl (in_one 3 4) ?_))
  refine bodyPost_ret (results_cell_row (P := Try.prog) (p := 4) (ty := 64) (by kernel_rfl) _ _ w.heap.size 64 (inC 3 4) (0, 0) _ rfl (setRow_heap _ _ _ _ _ _ (in_new w)) Try.underlying64 rfl in_size) rfl ?_
  exact ⟨rfl, in_bel w _⟩
set_option maxRecDepth 100000 in
theorem withC2_51 (w : World) : Calls Try.prog 57 #[.int .i64 1, .int .i64 5] w fun e w' => e = .returned (.agg (inC 40 4)) ∧ Below w.heap.size w w' := by
  have hi : ∀ w, (Instr.index 81 (.agg #[.int .i64 3, .int .i64 40, .int .i64 33, .int .i64 41, .int .i64 49, .int .i64 31, .int .i64 21, .int .i64 25]) (.int .i64 1)).run Try.prog w = .ok (.int .i64 40) w := fun w => ix8 3 40 33 41 49 31 21 25 1 (by decide) w
  have HB : Hid (∀ w, Calls Try.prog 65 #[.int .i64 5] w fun e w' => e = .returned (.int .i64 4) ∧ w' = w) := fun w => byB_any 5 (by decide) w
  go_enter Try.func57, Try.ntmps57
  go_wp2_with (first | (go_at_call 65; refine (HB.out _).mono ?_; rintro e w2 ⟨rfl, hb2⟩) | (refine wpList_store_row rfl 64 _ _ rfl w.heap.size (inC 40 4) rfl rfl 64 #[.int .i64 0, .int .i64 0] (in_new w) in_size rfl (in_one 40 4) ?_))
  refine bodyPost_ret (results_cell_row (P := Try.prog) (p := 4) (ty := 64) (by kernel_rfl) _ _ w.heap.size 64 (inC 40 4) (0, 0) _ rfl (setRow_heap _ _ _ _ _ _ (in_new w)) Try.underlying64 rfl in_size) rfl ?_
  exact ⟨rfl, in_bel w _⟩
set_option maxRecDepth 100000 in
theorem withC2_52 (w : World) : Calls Try.prog 57 #[.int .i64 2, .int .i64 5] w fun e w' => e = .returned (.agg (inC 33 4)) ∧ Below w.heap.size w w' := by
  have hi : ∀ w, (Instr.index 81 (.agg #[.int .i64 3, .int .i64 40, .int .i64 33, .int .i64 41, .int .i64 49, .int .i64 31, .int .i64 21, .int .i64 25]) (.int .i64 2)).run Try.prog w = .ok (.int .i64 33) w := fun w => ix8 3 40 33 41 49 31 21 25 2 (by decide) w
  have HB : Hid (∀ w, Calls Try.prog 65 #[.int .i64 5] w fun e w' => e = .returned (.int .i64 4) ∧ w' = w) := fun w => byB_any 5 (by decide) w
  go_enter Try.func57, Try.ntmps57
  go_wp2_with (first | (go_at_call 65; refine (HB.out _).mono ?_; rintro e w2 ⟨rfl, hb2⟩) | (refine wpList_store_row rfl 64 _ _ rfl w.heap.size (inC 33 4) rfl rfl 64 #[.int .i64 0, .int .i64 0] (in_new w) in_size rfl (in_one 33 4) ?_))
  refine bodyPost_ret (results_cell_row (P := Try.prog) (p := 4) (ty := 64) (by kernel_rfl) _ _ w.heap.size 64 (inC 33 4) (0, 0) _ rfl (setRow_heap _ _ _ _ _ _ (in_new w)) Try.underlying64 rfl in_size) rfl ?_
  exact ⟨rfl, in_bel w _⟩
set_option maxRecDepth 100000 in
theorem withC2_53 (w : World) : Calls Try.prog 57 #[.int .i64 3, .int .i64 5] w fun e w' => e = .returned (.agg (inC 41 4)) ∧ Below w.heap.size w w' := by
  have hi : ∀ w, (Instr.index 81 (.agg #[.int .i64 3, .int .i64 40, .int .i64 33, .int .i64 41, .int .i64 49, .int .i64 31, .int .i64 21, .int .i64 25]) (.int .i64 3)).run Try.prog w = .ok (.int .i64 41) w := fun w => ix8 3 40 33 41 49 31 21 25 3 (by decide) w
  have HB : Hid (∀ w, Calls Try.prog 65 #[.int .i64 5] w fun e w' => e = .returned (.int .i64 4) ∧ w' = w) := fun w => byB_any 5 (by decide) w
  go_enter Try.func57, Try.ntmps57
  go_wp2_with (first | (go_at_call 65; refine (HB.out _).mono ?_; rintro e w2 ⟨rfl, hb2⟩) | (refine wpList_store_row rfl 64 _ _ rfl w.heap.size (inC 41 4) rfl rfl 64 #[.int .i64 0, .int .i64 0] (in_new w) in_size rfl (in_one 41 4) ?_))
  refine bodyPost_ret (results_cell_row (P := Try.prog) (p := 4) (ty := 64) (by kernel_rfl) _ _ w.heap.size 64 (inC 41 4) (0, 0) _ rfl (setRow_heap _ _ _ _ _ _ (in_new w)) Try.underlying64 rfl in_size) rfl ?_
  exact ⟨rfl, in_bel w _⟩
set_option maxRecDepth 100000 in
theorem withC2_54 (w : World) : Calls Try.prog 57 #[.int .i64 4, .int .i64 5] w fun e w' => e = .returned (.agg (inC 49 5)) ∧ Below w.heap.size w w' := by
  have hi : ∀ w, (Instr.index 81 (.agg #[.int .i64 3, .int .i64 40, .int .i64 33, .int .i64 41, .int .i64 49, .int .i64 31, .int .i64 21, .int .i64 25]) (.int .i64 4)).run Try.prog w = .ok (.int .i64 49) w := fun w => ix8 3 40 33 41 49 31 21 25 4 (by decide) w
  have HB : Hid (∀ w, Calls Try.prog 65 #[.int .i64 5] w fun e w' => e = .returned (.int .i64 4) ∧ w' = w) := fun w => byB_any 5 (by decide) w
  have HY : Hid (∀ w, Calls Try.prog 66 #[.int .i64 4] w fun e w' => e = .returned (.int .i64 5) ∧ w' = w) := fun w => overY_any 4 w
  go_enter Try.func57, Try.ntmps57
  go_wp2_with (first | (go_at_call 66; refine (HY.out _).mono ?_; rintro e w3 ⟨rfl, hb3⟩) | (go_at_call 65; refine (HB.out _).mono ?_; rintro e w2 ⟨rfl, hb2⟩) | (refine wpList_store_row rfl 64 _ _ rfl w.heap.size (inC 49 5) rfl rfl 64 #[.int .i64 0, .int .i64 0] (in_new w) in_size rfl (in_one 49 5) ?_))
  refine bodyPost_ret (results_cell_row (P := Try.prog) (p := 4) (ty := 64) (by kernel_rfl) _ _ w.heap.size 64 (inC 49 5) (0, 0) _ rfl (setRow_heap _ _ _ _ _ _ (in_new w)) Try.underlying64 rfl in_size) rfl ?_
  exact ⟨rfl, in_bel w _⟩
set_option maxRecDepth 100000 in
theorem withC2_55 (w : World) : Calls Try.prog 57 #[.int .i64 5, .int .i64 5] w fun e w' => e = .returned (.agg (inC 31 5)) ∧ Below w.heap.size w w' := by
  have hi : ∀ w, (Instr.index 81 (.agg #[.int .i64 3, .int .i64 40, .int .i64 33, .int .i64 41, .int .i64 49, .int .i64 31, .int .i64 21, .int .i64 25]) (.int .i64 5)).run Try.prog w = .ok (.int .i64 31) w := fun w => ix8 3 40 33 41 49 31 21 25 5 (by decide) w
  have HB : Hid (∀ w, Calls Try.prog 65 #[.int .i64 5] w fun e w' => e = .returned (.int .i64 4) ∧ w' = w) := fun w => byB_any 5 (by decide) w
  have HY : Hid (∀ w, Calls Try.prog 66 #[.int .i64 4] w fun e w' => e = .returned (.int .i64 5) ∧ w' = w) := fun w => overY_any 4 w
  go_enter Try.func57, Try.ntmps57
  go_wp2_with (first | (go_at_call 66; refine (HY.out _).mono ?_; rintro e w3 ⟨rfl, hb3⟩) | (go_at_call 65; refine (HB.out _).mono ?_; rintro e w2 ⟨rfl, hb2⟩) | (refine wpList_store_row rfl 64 _ _ rfl w.heap.size (inC 31 5) rfl rfl 64 #[.int .i64 0, .int .i64 0] (in_new w) in_size rfl (in_one 31 5) ?_))
  refine bodyPost_ret (results_cell_row (P := Try.prog) (p := 4) (ty := 64) (by kernel_rfl) _ _ w.heap.size 64 (inC 31 5) (0, 0) _ rfl (setRow_heap _ _ _ _ _ _ (in_new w)) Try.underlying64 rfl in_size) rfl ?_
  exact ⟨rfl, in_bel w _⟩
set_option maxRecDepth 100000 in
theorem withC2_56 (w : World) : Calls Try.prog 57 #[.int .i64 6, .int .i64 5] w fun e w' => e = .returned (.agg (inC 21 4)) ∧ Below w.heap.size w w' := by
  have hi : ∀ w, (Instr.index 81 (.agg #[.int .i64 3, .int .i64 40, .int .i64 33, .int .i64 41, .int .i64 49, .int .i64 31, .int .i64 21, .int .i64 25]) (.int .i64 6)).run Try.prog w = .ok (.int .i64 21) w := fun w => ix8 3 40 33 41 49 31 21 25 6 (by decide) w
  have HB : Hid (∀ w, Calls Try.prog 65 #[.int .i64 5] w fun e w' => e = .returned (.int .i64 4) ∧ w' = w) := fun w => byB_any 5 (by decide) w
  go_enter Try.func57, Try.ntmps57
  go_wp2_with (first | (go_at_call 65; refine (HB.out _).mono ?_; rintro e w2 ⟨rfl, hb2⟩) | (refine wpList_store_row rfl 64 _ _ rfl w.heap.size (inC 21 4) rfl rfl 64 #[.int .i64 0, .int .i64 0] (in_new w) in_size rfl (in_one 21 4) ?_))
  refine bodyPost_ret (results_cell_row (P := Try.prog) (p := 4) (ty := 64) (by kernel_rfl) _ _ w.heap.size 64 (inC 21 4) (0, 0) _ rfl (setRow_heap _ _ _ _ _ _ (in_new w)) Try.underlying64 rfl in_size) rfl ?_
  exact ⟨rfl, in_bel w _⟩
set_option maxRecDepth 100000 in
theorem withC2_57 (w : World) : Calls Try.prog 57 #[.int .i64 7, .int .i64 5] w fun e w' => e = .returned (.agg (inC 25 4)) ∧ Below w.heap.size w w' := by
  have hi : ∀ w, (Instr.index 81 (.agg #[.int .i64 3, .int .i64 40, .int .i64 33, .int .i64 41, .int .i64 49, .int .i64 31, .int .i64 21, .int .i64 25]) (.int .i64 7)).run Try.prog w = .ok (.int .i64 25) w := fun w => ix8 3 40 33 41 49 31 21 25 7 (by decide) w
  have HB : Hid (∀ w, Calls Try.prog 65 #[.int .i64 5] w fun e w' => e = .returned (.int .i64 4) ∧ w' = w) := fun w => byB_any 5 (by decide) w
  go_enter Try.func57, Try.ntmps57
  go_wp2_with (first | (go_at_call 65; refine (HB.out _).mono ?_; rintro e w2 ⟨rfl, hb2⟩) | (refine wpList_store_row rfl 64 _ _ rfl w.heap.size (inC 25 4) rfl rfl 64 #[.int .i64 0, .int .i64 0] (in_new w) in_size rfl (in_one 25 4) ?_))
  refine bodyPost_ret (results_cell_row (P := Try.prog) (p := 4) (ty := 64) (by kernel_rfl) _ _ w.heap.size 64 (inC 25 4) (0, 0) _ rfl (setRow_heap _ _ _ _ _ _ (in_new w)) Try.underlying64 rfl in_size) rfl ?_
  exact ⟨rfl, in_bel w _⟩
set_option maxRecDepth 100000 in
theorem withC2_60 (w : World) : Calls Try.prog 57 #[.int .i64 0, .int .i64 6] w fun e w' => e = .returned (.agg (inC 0 0)) ∧ Below w.heap.size w w' := by
  have hi : ∀ w, (Instr.index 81 (.agg #[.int .i64 3, .int .i64 40, .int .i64 33, .int .i64 41, .int .i64 49, .int .i64 31, .int .i64 21, .int .i64 25]) (.int .i64 0)).run Try.prog w = .ok (.int .i64 3) w := fun w => ix8 3 40 33 41 49 31 21 25 0 (by decide) w
  have hj : ∀ w, (Instr.index 81 (.agg #[.int .i64 0, .int .i64 0, .int .i64 0, .int .i64 0, .int .i64 55, .int .i64 53, .int .i64 0, .int .i64 0]) (.int .i64 0)).run Try.prog w = .ok (.int .i64 0) w := fun w => ix8 0 0 0 0 55 53 0 0 0 (by decide) w
  go_enter Try.func57, Try.ntmps57
  go_wp2_with (first | (refine wpList_store_row rfl 64 _ _ rfl w.heap.size (inC 0 0) rfl rfl 64 #[.int .i64 0, .int .i64 0] (in_new w) in_size rfl (in_one 0 0) ?_))
  refine bodyPost_ret (results_cell_row (P := Try.prog) (p := 4) (ty := 64) (by kernel_rfl) _ _ w.heap.size 64 (inC 0 0) (0, 0) _ rfl (setRow_heap _ _ _ _ _ _ (in_new w)) Try.underlying64 rfl in_size) rfl ?_
  exact ⟨rfl, in_bel w _⟩
set_option maxRecDepth 100000 in
theorem withC2_61 (w : World) : Calls Try.prog 57 #[.int .i64 1, .int .i64 6] w fun e w' => e = .returned (.agg (inC 0 0)) ∧ Below w.heap.size w w' := by
  have hi : ∀ w, (Instr.index 81 (.agg #[.int .i64 3, .int .i64 40, .int .i64 33, .int .i64 41, .int .i64 49, .int .i64 31, .int .i64 21, .int .i64 25]) (.int .i64 1)).run Try.prog w = .ok (.int .i64 40) w := fun w => ix8 3 40 33 41 49 31 21 25 1 (by decide) w
  have hj : ∀ w, (Instr.index 81 (.agg #[.int .i64 0, .int .i64 0, .int .i64 0, .int .i64 0, .int .i64 55, .int .i64 53, .int .i64 0, .int .i64 0]) (.int .i64 1)).run Try.prog w = .ok (.int .i64 0) w := fun w => ix8 0 0 0 0 55 53 0 0 1 (by decide) w
  go_enter Try.func57, Try.ntmps57
  go_wp2_with (first | (refine wpList_store_row rfl 64 _ _ rfl w.heap.size (inC 0 0) rfl rfl 64 #[.int .i64 0, .int .i64 0] (in_new w) in_size rfl (in_one 0 0) ?_))
  refine bodyPost_ret (results_cell_row (P := Try.prog) (p := 4) (ty := 64) (by kernel_rfl) _ _ w.heap.size 64 (inC 0 0) (0, 0) _ rfl (setRow_heap _ _ _ _ _ _ (in_new w)) Try.underlying64 rfl in_size) rfl ?_
  exact ⟨rfl, in_bel w _⟩
set_option maxRecDepth 100000 in
theorem withC2_62 (w : World) : Calls Try.prog 57 #[.int .i64 2, .int .i64 6] w fun e w' => e = .returned (.agg (inC 0 0)) ∧ Below w.heap.size w w' := by
  have hi : ∀ w, (Instr.index 81 (.agg #[.int .i64 3, .int .i64 40, .int .i64 33, .int .i64 41, .int .i64 49, .int .i64 31, .int .i64 21, .int .i64 25]) (.int .i64 2)).run Try.prog w = .ok (.int .i64 33) w := fun w => ix8 3 40 33 41 49 31 21 25 2 (by decide) w
  have hj : ∀ w, (Instr.index 81 (.agg #[.int .i64 0, .int .i64 0, .int .i64 0, .int .i64 0, .int .i64 55, .int .i64 53, .int .i64 0, .int .i64 0]) (.int .i64 2)).run Try.prog w = .ok (.int .i64 0) w := fun w => ix8 0 0 0 0 55 53 0 0 2 (by decide) w
  go_enter Try.func57, Try.ntmps57
  go_wp2_with (first | (refine wpList_store_row rfl 64 _ _ rfl w.heap.size (inC 0 0) rfl rfl 64 #[.int .i64 0, .int .i64 0] (in_new w) in_size rfl (in_one 0 0) ?_))
  refine bodyPost_ret (results_cell_row (P := Try.prog) (p := 4) (ty := 64) (by kernel_rfl) _ _ w.heap.size 64 (inC 0 0) (0, 0) _ rfl (setRow_heap _ _ _ _ _ _ (in_new w)) Try.underlying64 rfl in_size) rfl ?_
  exact ⟨rfl, in_bel w _⟩
set_option maxRecDepth 100000 in
theorem withC2_63 (w : World) : Calls Try.prog 57 #[.int .i64 3, .int .i64 6] w fun e w' => e = .returned (.agg (inC 0 0)) ∧ Below w.heap.size w w' := by
  have hi : ∀ w, (Instr.index 81 (.agg #[.int .i64 3, .int .i64 40, .int .i64 33, .int .i64 41, .int .i64 49, .int .i64 31, .int .i64 21, .int .i64 25]) (.int .i64 3)).run Try.prog w = .ok (.int .i64 41) w := fun w => ix8 3 40 33 41 49 31 21 25 3 (by decide) w
  have hj : ∀ w, (Instr.index 81 (.agg #[.int .i64 0, .int .i64 0, .int .i64 0, .int .i64 0, .int .i64 55, .int .i64 53, .int .i64 0, .int .i64 0]) (.int .i64 3)).run Try.prog w = .ok (.int .i64 0) w := fun w => ix8 0 0 0 0 55 53 0 0 3 (by decide) w
  go_enter Try.func57, Try.ntmps57
  go_wp2_with (first | (refine wpList_store_row rfl 64 _ _ rfl w.heap.size (inC 0 0) rfl rfl 64 #[.int .i64 0, .int .i64 0] (in_new w) in_size rfl (in_one 0 0) ?_))
  refine bodyPost_ret (results_cell_row (P := Try.prog) (p := 4) (ty := 64) (by kernel_rfl) _ _ w.heap.size 64 (inC 0 0) (0, 0) _ rfl (setRow_heap _ _ _ _ _ _ (in_new w)) Try.underlying64 rfl in_size) rfl ?_
  exact ⟨rfl, in_bel w _⟩
set_option maxRecDepth 100000 in
theorem withC2_64 (w : World) : Calls Try.prog 57 #[.int .i64 4, .int .i64 6] w fun e w' => e = .returned (.agg (inC 55 0)) ∧ Below w.heap.size w w' := by
  have hi : ∀ w, (Instr.index 81 (.agg #[.int .i64 3, .int .i64 40, .int .i64 33, .int .i64 41, .int .i64 49, .int .i64 31, .int .i64 21, .int .i64 25]) (.int .i64 4)).run Try.prog w = .ok (.int .i64 49) w := fun w => ix8 3 40 33 41 49 31 21 25 4 (by decide) w
  have hj : ∀ w, (Instr.index 81 (.agg #[.int .i64 0, .int .i64 0, .int .i64 0, .int .i64 0, .int .i64 55, .int .i64 53, .int .i64 0, .int .i64 0]) (.int .i64 4)).run Try.prog w = .ok (.int .i64 55) w := fun w => ix8 0 0 0 0 55 53 0 0 4 (by decide) w
  go_enter Try.func57, Try.ntmps57
  go_wp2_with (first | (refine wpList_store_row rfl 64 _ _ rfl w.heap.size (inC 55 0) rfl rfl 64 #[.int .i64 0, .int .i64 0] (in_new w) in_size rfl (in_one 55 0) ?_))
  refine bodyPost_ret (results_cell_row (P := Try.prog) (p := 4) (ty := 64) (by kernel_rfl) _ _ w.heap.size 64 (inC 55 0) (0, 0) _ rfl (setRow_heap _ _ _ _ _ _ (in_new w)) Try.underlying64 rfl in_size) rfl ?_
  exact ⟨rfl, in_bel w _⟩
set_option maxRecDepth 100000 in
theorem withC2_65 (w : World) : Calls Try.prog 57 #[.int .i64 5, .int .i64 6] w fun e w' => e = .returned (.agg (inC 53 0)) ∧ Below w.heap.size w w' := by
  have hi : ∀ w, (Instr.index 81 (.agg #[.int .i64 3, .int .i64 40, .int .i64 33, .int .i64 41, .int .i64 49, .int .i64 31, .int .i64 21, .int .i64 25]) (.int .i64 5)).run Try.prog w = .ok (.int .i64 31) w := fun w => ix8 3 40 33 41 49 31 21 25 5 (by decide) w
  have hj : ∀ w, (Instr.index 81 (.agg #[.int .i64 0, .int .i64 0, .int .i64 0, .int .i64 0, .int .i64 55, .int .i64 53, .int .i64 0, .int .i64 0]) (.int .i64 5)).run Try.prog w = .ok (.int .i64 53) w := fun w => ix8 0 0 0 0 55 53 0 0 5 (by decide) w
  go_enter Try.func57, Try.ntmps57
  go_wp2_with (first | (refine wpList_store_row rfl 64 _ _ rfl w.heap.size (inC 53 0) rfl rfl 64 #[.int .i64 0, .int .i64 0] (in_new w) in_size rfl (in_one 53 0) ?_))
  refine bodyPost_ret (results_cell_row (P := Try.prog) (p := 4) (ty := 64) (by kernel_rfl) _ _ w.heap.size 64 (inC 53 0) (0, 0) _ rfl (setRow_heap _ _ _ _ _ _ (in_new w)) Try.underlying64 rfl in_size) rfl ?_
  exact ⟨rfl, in_bel w _⟩
set_option maxRecDepth 100000 in
theorem withC2_66 (w : World) : Calls Try.prog 57 #[.int .i64 6, .int .i64 6] w fun e w' => e = .returned (.agg (inC 0 0)) ∧ Below w.heap.size w w' := by
  have hi : ∀ w, (Instr.index 81 (.agg #[.int .i64 3, .int .i64 40, .int .i64 33, .int .i64 41, .int .i64 49, .int .i64 31, .int .i64 21, .int .i64 25]) (.int .i64 6)).run Try.prog w = .ok (.int .i64 21) w := fun w => ix8 3 40 33 41 49 31 21 25 6 (by decide) w
  have hj : ∀ w, (Instr.index 81 (.agg #[.int .i64 0, .int .i64 0, .int .i64 0, .int .i64 0, .int .i64 55, .int .i64 53, .int .i64 0, .int .i64 0]) (.int .i64 6)).run Try.prog w = .ok (.int .i64 0) w := fun w => ix8 0 0 0 0 55 53 0 0 6 (by decide) w
  go_enter Try.func57, Try.ntmps57
  go_wp2_with (first | (refine wpList_store_row rfl 64 _ _ rfl w.heap.size (inC 0 0) rfl rfl 64 #[.int .i64 0, .int .i64 0] (in_new w) in_size rfl (in_one 0 0) ?_))
  refine bodyPost_ret (results_cell_row (P := Try.prog) (p := 4) (ty := 64) (by kernel_rfl) _ _ w.heap.size 64 (inC 0 0) (0, 0) _ rfl (setRow_heap _ _ _ _ _ _ (in_new w)) Try.underlying64 rfl in_size) rfl ?_
  exact ⟨rfl, in_bel w _⟩
set_option maxRecDepth 100000 in
theorem withC2_67 (w : World) : Calls Try.prog 57 #[.int .i64 7, .int .i64 6] w fun e w' => e = .returned (.agg (inC 0 0)) ∧ Below w.heap.size w w' := by
  have hi : ∀ w, (Instr.index 81 (.agg #[.int .i64 3, .int .i64 40, .int .i64 33, .int .i64 41, .int .i64 49, .int .i64 31, .int .i64 21, .int .i64 25]) (.int .i64 7)).run Try.prog w = .ok (.int .i64 25) w := fun w => ix8 3 40 33 41 49 31 21 25 7 (by decide) w
  have hj : ∀ w, (Instr.index 81 (.agg #[.int .i64 0, .int .i64 0, .int .i64 0, .int .i64 0, .int .i64 55, .int .i64 53, .int .i64 0, .int .i64 0]) (.int .i64 7)).run Try.prog w = .ok (.int .i64 0) w := fun w => ix8 0 0 0 0 55 53 0 0 7 (by decide) w
  go_enter Try.func57, Try.ntmps57
  go_wp2_with (first | (refine wpList_store_row rfl 64 _ _ rfl w.heap.size (inC 0 0) rfl rfl 64 #[.int .i64 0, .int .i64 0] (in_new w) in_size rfl (in_one 0 0) ?_))
  refine bodyPost_ret (results_cell_row (P := Try.prog) (p := 4) (ty := 64) (by kernel_rfl) _ _ w.heap.size 64 (inC 0 0) (0, 0) _ rfl (setRow_heap _ _ _ _ _ _ (in_new w)) Try.underlying64 rfl in_size) rfl ?_
  exact ⟨rfl, in_bel w _⟩
set_option maxRecDepth 100000 in
theorem withC2_70 (w : World) : Calls Try.prog 57 #[.int .i64 0, .int .i64 7] w fun e w' => e = .returned (.agg (inC 3 7)) ∧ Below w.heap.size w w' := by
  have hi : ∀ w, (Instr.index 81 (.agg #[.int .i64 3, .int .i64 40, .int .i64 33, .int .i64 41, .int .i64 49, .int .i64 31, .int .i64 21, .int .i64 25]) (.int .i64 0)).run Try.prog w = .ok (.int .i64 3) w := fun w => ix8 3 40 33 41 49 31 21 25 0 (by decide) w
  have HB : Hid (∀ w, Calls Try.prog 65 #[.int .i64 7] w fun e w' => e = .returned (.int .i64 7) ∧ w' = w) := fun w => byB_any 7 (by decide) w
  go_enter Try.func57, Try.ntmps57
  go_wp2_with (first | (go_at_call 65; refine (HB.out _).mono ?_; rintro e w2 ⟨rfl, hb2⟩) | (refine wpList_store_row rfl 64 _ _ rfl w.heap.size (inC 3 7) rfl rfl 64 #[.int .i64 0, .int .i64 0] (in_new w) in_size rfl (in_one 3 7) ?_))
  refine bodyPost_ret (results_cell_row (P := Try.prog) (p := 4) (ty := 64) (by kernel_rfl) _ _ w.heap.size 64 (inC 3 7) (0, 0) _ rfl (setRow_heap _ _ _ _ _ _ (in_new w)) Try.underlying64 rfl in_size) rfl ?_
  exact ⟨rfl, in_bel w _⟩
set_option maxRecDepth 100000 in
theorem withC2_71 (w : World) : Calls Try.prog 57 #[.int .i64 1, .int .i64 7] w fun e w' => e = .returned (.agg (inC 40 7)) ∧ Below w.heap.size w w' := by
  have hi : ∀ w, (Instr.index 81 (.agg #[.int .i64 3, .int .i64 40, .int .i64 33, .int .i64 41, .int .i64 49, .int .i64 31, .int .i64 21, .int .i64 25]) (.int .i64 1)).run Try.prog w = .ok (.int .i64 40) w := fun w => ix8 3 40 33 41 49 31 21 25 1 (by decide) w
  have HB : Hid (∀ w, Calls Try.prog 65 #[.int .i64 7] w fun e w' => e = .returned (.int .i64 7) ∧ w' = w) := fun w => byB_any 7 (by decide) w
  go_enter Try.func57, Try.ntmps57
  go_wp2_with (first | (go_at_call 65; refine (HB.out _).mono ?_; rintro e w2 ⟨rfl, hb2⟩) | (refine wpList_store_row rfl 64 _ _ rfl w.heap.size (inC 40 7) rfl rfl 64 #[.int .i64 0, .int .i64 0] (in_new w) in_size rfl (in_one 40 7) ?_))
  refine bodyPost_ret (results_cell_row (P := Try.prog) (p := 4) (ty := 64) (by kernel_rfl) _ _ w.heap.size 64 (inC 40 7) (0, 0) _ rfl (setRow_heap _ _ _ _ _ _ (in_new w)) Try.underlying64 rfl in_size) rfl ?_
  exact ⟨rfl, in_bel w _⟩
set_option maxRecDepth 100000 in
theorem withC2_72 (w : World) : Calls Try.prog 57 #[.int .i64 2, .int .i64 7] w fun e w' => e = .returned (.agg (inC 33 7)) ∧ Below w.heap.size w w' := by
  have hi : ∀ w, (Instr.index 81 (.agg #[.int .i64 3, .int .i64 40, .int .i64 33, .int .i64 41, .int .i64 49, .int .i64 31, .int .i64 21, .int .i64 25]) (.int .i64 2)).run Try.prog w = .ok (.int .i64 33) w := fun w => ix8 3 40 33 41 49 31 21 25 2 (by decide) w
  have HB : Hid (∀ w, Calls Try.prog 65 #[.int .i64 7] w fun e w' => e = .returned (.int .i64 7) ∧ w' = w) := fun w => byB_any 7 (by decide) w
  go_enter Try.func57, Try.ntmps57
  go_wp2_with (first | (go_at_call 65; refine (HB.out _).mono ?_; rintro e w2 ⟨rfl, hb2⟩) | (refine wpList_store_row rfl 64 _ _ rfl w.heap.size (inC 33 7) rfl rfl 64 #[.int .i64 0, .int .i64 0] (in_new w) in_size rfl (in_one 33 7) ?_))
  refine bodyPost_ret (results_cell_row (P := Try.prog) (p := 4) (ty := 64) (by kernel_rfl) _ _ w.heap.size 64 (inC 33 7) (0, 0) _ rfl (setRow_heap _ _ _ _ _ _ (in_new w)) Try.underlying64 rfl in_size) rfl ?_
  exact ⟨rfl, in_bel w _⟩
set_option maxRecDepth 100000 in
theorem withC2_73 (w : World) : Calls Try.prog 57 #[.int .i64 3, .int .i64 7] w fun e w' => e = .returned (.agg (inC 41 7)) ∧ Below w.heap.size w w' := by
  have hi : ∀ w, (Instr.index 81 (.agg #[.int .i64 3, .int .i64 40, .int .i64 33, .int .i64 41, .int .i64 49, .int .i64 31, .int .i64 21, .int .i64 25]) (.int .i64 3)).run Try.prog w = .ok (.int .i64 41) w := fun w => ix8 3 40 33 41 49 31 21 25 3 (by decide) w
  have HB : Hid (∀ w, Calls Try.prog 65 #[.int .i64 7] w fun e w' => e = .returned (.int .i64 7) ∧ w' = w) := fun w => byB_any 7 (by decide) w
  go_enter Try.func57, Try.ntmps57
  go_wp2_with (first | (go_at_call 65; refine (HB.out _).mono ?_; rintro e w2 ⟨rfl, hb2⟩) | (refine wpList_store_row rfl 64 _ _ rfl w.heap.size (inC 41 7) rfl rfl 64 #[.int .i64 0, .int .i64 0] (in_new w) in_size rfl (in_one 41 7) ?_))
  refine bodyPost_ret (results_cell_row (P := Try.prog) (p := 4) (ty := 64) (by kernel_rfl) _ _ w.heap.size 64 (inC 41 7) (0, 0) _ rfl (setRow_heap _ _ _ _ _ _ (in_new w)) Try.underlying64 rfl in_size) rfl ?_
  exact ⟨rfl, in_bel w _⟩
set_option maxRecDepth 100000 in
theorem withC2_74 (w : World) : Calls Try.prog 57 #[.int .i64 4, .int .i64 7] w fun e w' => e = .returned (.agg (inC 0 0)) ∧ Below w.heap.size w w' := by
  have hi : ∀ w, (Instr.index 81 (.agg #[.int .i64 3, .int .i64 40, .int .i64 33, .int .i64 41, .int .i64 49, .int .i64 31, .int .i64 21, .int .i64 25]) (.int .i64 4)).run Try.prog w = .ok (.int .i64 49) w := fun w => ix8 3 40 33 41 49 31 21 25 4 (by decide) w
  have HB : Hid (∀ w, Calls Try.prog 65 #[.int .i64 7] w fun e w' => e = .returned (.int .i64 7) ∧ w' = w) := fun w => byB_any 7 (by decide) w
  have HY : Hid (∀ w, Calls Try.prog 66 #[.int .i64 7] w fun e w' => e = .returned (.int .i64 8) ∧ w' = w) := fun w => overY_any 7 w
  go_enter Try.func57, Try.ntmps57
  go_wp2_with (first | (go_at_call 66; refine (HY.out _).mono ?_; rintro e w3 ⟨rfl, hb3⟩) | (go_at_call 65; refine (HB.out _).mono ?_; rintro e w2 ⟨rfl, hb2⟩) | (refine wpList_store_row rfl 64 _ _ rfl w.heap.size (inC 0 0) rfl rfl 64 #[.int .i64 0, .int .i64 0] (in_new w) in_size rfl (in_one 0 0) ?_))
  refine bodyPost_ret (results_cell_row (P := Try.prog) (p := 4) (ty := 64) (by kernel_rfl) _ _ w.heap.size 64 (inC 0 0) (0, 0) _ rfl (setRow_heap _ _ _ _ _ _ (in_new w)) Try.underlying64 rfl in_size) rfl ?_
  exact ⟨rfl, in_bel w _⟩
set_option maxRecDepth 100000 in
theorem withC2_75 (w : World) : Calls Try.prog 57 #[.int .i64 5, .int .i64 7] w fun e w' => e = .returned (.agg (inC 31 8)) ∧ Below w.heap.size w w' := by
  have hi : ∀ w, (Instr.index 81 (.agg #[.int .i64 3, .int .i64 40, .int .i64 33, .int .i64 41, .int .i64 49, .int .i64 31, .int .i64 21, .int .i64 25]) (.int .i64 5)).run Try.prog w = .ok (.int .i64 31) w := fun w => ix8 3 40 33 41 49 31 21 25 5 (by decide) w
  have HB : Hid (∀ w, Calls Try.prog 65 #[.int .i64 7] w fun e w' => e = .returned (.int .i64 7) ∧ w' = w) := fun w => byB_any 7 (by decide) w
  have HY : Hid (∀ w, Calls Try.prog 66 #[.int .i64 7] w fun e w' => e = .returned (.int .i64 8) ∧ w' = w) := fun w => overY_any 7 w
  go_enter Try.func57, Try.ntmps57
  go_wp2_with (first | (go_at_call 66; refine (HY.out _).mono ?_; rintro e w3 ⟨rfl, hb3⟩) | (go_at_call 65; refine (HB.out _).mono ?_; rintro e w2 ⟨rfl, hb2⟩) | (refine wpList_store_row rfl 64 _ _ rfl w.heap.size (inC 31 8) rfl rfl 64 #[.int .i64 0, .int .i64 0] (in_new w) in_size rfl (in_one 31 8) ?_))
  refine bodyPost_ret (results_cell_row (P := Try.prog) (p := 4) (ty := 64) (by kernel_rfl) _ _ w.heap.size 64 (inC 31 8) (0, 0) _ rfl (setRow_heap _ _ _ _ _ _ (in_new w)) Try.underlying64 rfl in_size) rfl ?_
  exact ⟨rfl, in_bel w _⟩
set_option maxRecDepth 100000 in
theorem withC2_76 (w : World) : Calls Try.prog 57 #[.int .i64 6, .int .i64 7] w fun e w' => e = .returned (.agg (inC 21 7)) ∧ Below w.heap.size w w' := by
  have hi : ∀ w, (Instr.index 81 (.agg #[.int .i64 3, .int .i64 40, .int .i64 33, .int .i64 41, .int .i64 49, .int .i64 31, .int .i64 21, .int .i64 25]) (.int .i64 6)).run Try.prog w = .ok (.int .i64 21) w := fun w => ix8 3 40 33 41 49 31 21 25 6 (by decide) w
  have HB : Hid (∀ w, Calls Try.prog 65 #[.int .i64 7] w fun e w' => e = .returned (.int .i64 7) ∧ w' = w) := fun w => byB_any 7 (by decide) w
  go_enter Try.func57, Try.ntmps57
  go_wp2_with (first | (go_at_call 65; refine (HB.out _).mono ?_; rintro e w2 ⟨rfl, hb2⟩) | (refine wpList_store_row rfl 64 _ _ rfl w.heap.size (inC 21 7) rfl rfl 64 #[.int .i64 0, .int .i64 0] (in_new w) in_size rfl (in_one 21 7) ?_))
  refine bodyPost_ret (results_cell_row (P := Try.prog) (p := 4) (ty := 64) (by kernel_rfl) _ _ w.heap.size 64 (inC 21 7) (0, 0) _ rfl (setRow_heap _ _ _ _ _ _ (in_new w)) Try.underlying64 rfl in_size) rfl ?_
  exact ⟨rfl, in_bel w _⟩
set_option maxRecDepth 100000 in
theorem withC2_77 (w : World) : Calls Try.prog 57 #[.int .i64 7, .int .i64 7] w fun e w' => e = .returned (.agg (inC 25 7)) ∧ Below w.heap.size w w' := by
  have hi : ∀ w, (Instr.index 81 (.agg #[.int .i64 3, .int .i64 40, .int .i64 33, .int .i64 41, .int .i64 49, .int .i64 31, .int .i64 21, .int .i64 25]) (.int .i64 7)).run Try.prog w = .ok (.int .i64 25) w := fun w => ix8 3 40 33 41 49 31 21 25 7 (by decide) w
  have HB : Hid (∀ w, Calls Try.prog 65 #[.int .i64 7] w fun e w' => e = .returned (.int .i64 7) ∧ w' = w) := fun w => byB_any 7 (by decide) w
  go_enter Try.func57, Try.ntmps57
  go_wp2_with (first | (go_at_call 65; refine (HB.out _).mono ?_; rintro e w2 ⟨rfl, hb2⟩) | (refine wpList_store_row rfl 64 _ _ rfl w.heap.size (inC 25 7) rfl rfl 64 #[.int .i64 0, .int .i64 0] (in_new w) in_size rfl (in_one 25 7) ?_))
  refine bodyPost_ret (results_cell_row (P := Try.prog) (p := 4) (ty := 64) (by kernel_rfl) _ _ w.heap.size 64 (inC 25 7) (0, 0) _ rfl (setRow_heap _ _ _ _ _ _ (in_new w)) Try.underlying64 rfl in_size) rfl ?_
  exact ⟨rfl, in_bel w _⟩
theorem withC2_any (a b : Nat) (ha : a < 8) (hb : b < 8) (w : World) : Calls Try.prog 57 #[.int .i64 (a : Int), .int .i64 (b : Int)] w fun e w' => e = .returned (.agg (inC (c2S a b).1 (c2S a b).2)) ∧ Below w.heap.size w w' := by
  rcases lt8 hb with rfl | rfl | rfl | rfl | rfl | rfl | rfl | rfl
  · rcases lt8 ha with rfl | rfl | rfl | rfl | rfl | rfl | rfl | rfl
    · exact withC2_00 w
    · exact withC2_01 w
    · exact withC2_02 w
    · exact withC2_03 w
    · exact withC2_04 w
    · exact withC2_05 w
    · exact withC2_06 w
    · exact withC2_07 w
  · rcases lt8 ha with rfl | rfl | rfl | rfl | rfl | rfl | rfl | rfl
    · exact withC2_10 w
    · exact withC2_11 w
    · exact withC2_12 w
    · exact withC2_13 w
    · exact withC2_14 w
    · exact withC2_15 w
    · exact withC2_16 w
    · exact withC2_17 w
  · rcases lt8 ha with rfl | rfl | rfl | rfl | rfl | rfl | rfl | rfl
    · exact withC2_20 w
    · exact withC2_21 w
    · exact withC2_22 w
    · exact withC2_23 w
    · exact withC2_24 w
    · exact withC2_25 w
    · exact withC2_26 w
    · exact withC2_27 w
  · rcases lt8 ha with rfl | rfl | rfl | rfl | rfl | rfl | rfl | rfl
    · exact withC2_30 w
    · exact withC2_31 w
    · exact withC2_32 w
    · exact withC2_33 w
    · exact withC2_34 w
    · exact withC2_35 w
    · exact withC2_36 w
    · exact withC2_37 w
  · rcases lt8 ha with rfl | rfl | rfl | rfl | rfl | rfl | rfl | rfl
    · exact withC2_40 w
    · exact withC2_41 w
    · exact withC2_42 w
    · exact withC2_43 w
    · exact withC2_44 w
    · exact withC2_45 w
    · exact withC2_46 w
    · exact withC2_47 w
  · rcases lt8 ha with rfl | rfl | rfl | rfl | rfl | rfl | rfl | rfl
    · exact withC2_50 w
    · exact withC2_51 w
    · exact withC2_52 w
    · exact withC2_53 w
    · exact withC2_54 w
    · exact withC2_55 w
    · exact withC2_56 w
    · exact withC2_57 w
  · rcases lt8 ha with rfl | rfl | rfl | rfl | rfl | rfl | rfl | rfl
    · exact withC2_60 w
    · exact withC2_61 w
    · exact withC2_62 w
    · exact withC2_63 w
    · exact withC2_64 w
    · exact withC2_65 w
    · exact withC2_66 w
    · exact withC2_67 w
  · rcases lt8 ha with rfl | rfl | rfl | rfl | rfl | rfl | rfl | rfl
    · exact withC2_70 w
    · exact withC2_71 w
    · exact withC2_72 w
    · exact withC2_73 w
    · exact withC2_74 w
    · exact withC2_75 w
    · exact withC2_76 w
    · exact withC2_77 w
end Go.Proofs.Ytfecadongbmfhaa
