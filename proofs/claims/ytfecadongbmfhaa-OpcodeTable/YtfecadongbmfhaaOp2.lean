/- What the program's withC0 answers. -/
import Derived.Test.YtfecadongbmfhaaOp1
namespace Go.Proofs.Ytfecadongbmfhaa
open Go.RowKit
set_option linter.unusedVariables false

theorem in_new (w : World) : (w.alloc (.cells #[.int .i64 0, .int .i64 0] (64 : TypeId))).heap[w.heap.size]? = some (.cells #[.int .i64 0, .int .i64 0] (64 : TypeId) (0, 0)) := heap_alloc_last _ _
theorem in_bel (w : World) (cs : Array Value) : Below w.heap.size w ((w.alloc (.cells #[.int .i64 0, .int .i64 0] (64 : TypeId))).setRow w.heap.size cs) := below_setRow ((Below.refl _ _).alloc (Nat.le_refl _) _) (Nat.le_refl _) cs
theorem in_newB (w : World) (i : BW (w.alloc (.cells #[.int .i64 0, .int .i64 0] (64 : TypeId)))) : i.v.heap[w.heap.size]? = some (.cells #[.int .i64 0, .int .i64 0] (64 : TypeId) (0, 0)) := (i.below.block _ (by simp)).trans (heap_alloc_last _ _)
theorem in_belB (w : World) (i : BW (w.alloc (.cells #[.int .i64 0, .int .i64 0] (64 : TypeId)))) (cs : Array Value) : Below w.heap.size w (i.v.setRow w.heap.size cs) := below_setRow (Below.next ((Below.refl _ _).alloc (Nat.le_refl _) _) i.below) (Nat.le_refl _) cs

set_option maxRecDepth 100000 in
set_option maxHeartbeats 800000 in
theorem withC0_2 (a : Nat) (ha : a < 8) (w : World) : Calls Try.prog 55 #[.int .i64 (a : Int), .int .i64 2] w fun e w' => e = .returned (.agg (inC (row8 37 39 36 38 23 52 27 26 a) 0)) ∧ Below w.heap.size w w' := by
  have hi := ix8 37 39 36 38 23 52 27 26 a ha
  generalize row8 37 39 36 38 23 52 27 26 a = R at *
  simp only [Int.cast_ofNat_Int] at hi
  go_enter Try.func55, Try.ntmps55
  go_wp2_with (refine wpList_store_row rfl 64 _ _ rfl w.heap.size (inC R 0) rfl rfl 64 #[.int .i64 0, .int .i64 0] (in_new w) in_size rfl (in_one R 0) ?_)
  refine bodyPost_ret (results_cell_row (P := Try.prog) (p := 4) (ty := 64) (by kernel_rfl) _ _ w.heap.size 64 (inC R 0) (0, 0) _ rfl (setRow_heap _ _ _ _ _ _ (in_new w)) Try.underlying64 rfl in_size) rfl ?_
  exact ⟨rfl, in_bel w _⟩
set_option maxRecDepth 100000 in
set_option maxHeartbeats 800000 in
theorem withC0_4 (a : Nat) (ha : a < 8) (w : World) : Calls Try.prog 55 #[.int .i64 (a : Int), .int .i64 4] w fun e w' => e = .returned (.agg (inC (row8 10 8 12 13 4 5 9 6 a) 12)) ∧ Below w.heap.size w w' := by
  have hi := ix8 10 8 12 13 4 5 9 6 a ha
  generalize row8 10 8 12 13 4 5 9 6 a = R at *
  simp only [Int.cast_ofNat_Int] at hi
  go_enter Try.func55, Try.ntmps55
  go_wp2_with (refine wpList_store_row rfl 64 _ _ rfl w.heap.size (inC R 12) rfl rfl 64 #[.int .i64 0, .int .i64 0] (in_new w) in_size rfl (in_one R 12) ?_)
  refine bodyPost_ret (results_cell_row (P := Try.prog) (p := 4) (ty := 64) (by kernel_rfl) _ _ w.heap.size 64 (inC R 12) (0, 0) _ rfl (setRow_heap _ _ _ _ _ _ (in_new w)) Try.underlying64 rfl in_size) rfl ?_
  exact ⟨rfl, in_bel w _⟩
set_option maxRecDepth 100000 in
set_option maxHeartbeats 800000 in
theorem withC0_6 (a : Nat) (ha : a < 8) (w : World) : Calls Try.prog 55 #[.int .i64 (a : Int), .int .i64 6] w fun e w' => e = .returned (.agg (inC (row8 14 45 16 47 56 17 15 46 a) 0)) ∧ Below w.heap.size w w' := by
  have hi := ix8 14 45 16 47 56 17 15 46 a ha
  generalize row8 14 45 16 47 56 17 15 46 a = R at *
  simp only [Int.cast_ofNat_Int] at hi
  go_enter Try.func55, Try.ntmps55
  go_wp2_with (refine wpList_store_row rfl 64 _ _ rfl w.heap.size (inC R 0) rfl rfl 64 #[.int .i64 0, .int .i64 0] (in_new w) in_size rfl (in_one R 0) ?_)
  refine bodyPost_ret (results_cell_row (P := Try.prog) (p := 4) (ty := 64) (by kernel_rfl) _ _ w.heap.size 64 (inC R 0) (0, 0) _ rfl (setRow_heap _ _ _ _ _ _ (in_new w)) Try.underlying64 rfl in_size) rfl ?_
  exact ⟨rfl, in_bel w _⟩
set_option maxRecDepth 100000 in
set_option maxHeartbeats 800000 in
theorem withC0_0 (a : Nat) (ha : a < 8) (w : World) : Calls Try.prog 55 #[.int .i64 (a : Int), .int .i64 0] w fun e w' => e = .returned (.agg (inC (row8 11 29 42 43 0 32 20 19 a) (row8 0 6 0 0 0 2 2 2 a))) ∧ Below w.heap.size w w' := by
  have hi := ix8 11 29 42 43 0 32 20 19 a ha
  have hj := ix8 0 6 0 0 0 2 2 2 a ha
  generalize row8 11 29 42 43 0 32 20 19 a = R at *
  generalize row8 0 6 0 0 0 2 2 2 a = S at *
  simp only [Int.cast_ofNat_Int] at hi hj
  go_enter Try.func55, Try.ntmps55
  go_wp2_with fail
  refine wp_region_put (by simp) (by kernel_rfl) rfl (by kernel_rfl) (by kernel_rfl) (by kernel_rfl) ?_
  simp only [List.dropLast_cons_cons, List.dropLast_singleton, List.getLast_cons_cons, List.getLast_singleton, List.cons_append, List.nil_append, mute]
  repeat (go_big_quiet_step (fail))
  refine wpQuiet_nil ?_
  intro i
  have HN := in_newB w i
  have HL := in_belB w i
  go_wp2_with (refine wpList_store_row rfl 64 _ _ rfl w.heap.size (inC R S) rfl rfl 64 #[.int .i64 0, .int .i64 0] HN in_size rfl (in_one R S) ?_)
  refine bodyPost_ret (results_cell_row (P := Try.prog) (p := 4) (ty := 64) (by kernel_rfl) _ _ w.heap.size 64 (inC R S) (0, 0) _ rfl (setRow_heap _ _ _ _ _ _ HN) Try.underlying64 rfl in_size) rfl ?_
  exact ⟨rfl, HL _⟩
set_option maxRecDepth 100000 in
set_option maxHeartbeats 800000 in
theorem withC0_1 (a : Nat) (ha : a < 8) (w : World) : Calls Try.prog 55 #[.int .i64 (a : Int), .int .i64 1] w fun e w' => e = .returned (.agg (inC (row8 0 7 0 0 50 32 20 19 a) (byBS 1))) ∧ Below w.heap.size w w' := by
  have hi := ix8 0 7 0 0 50 32 20 19 a ha
  have HB : Hid (∀ w, Calls Try.prog 65 #[.int .i64 1] w fun e w' => e = .returned (.int .i64 (byBS 1 : Int)) ∧ w' = w) := fun w => byB_any 1 (by decide) w
  generalize row8 0 7 0 0 50 32 20 19 a = R at *
  generalize byBS 1 = S at *
  simp only [Int.cast_ofNat_Int] at hi
  go_enter Try.func55, Try.ntmps55
  go_wp2_with fail
  refine wp_region_put (by simp) (by kernel_rfl) rfl (by kernel_rfl) (by kernel_rfl) (by kernel_rfl) ?_
  simp only [List.dropLast_cons_cons, List.dropLast_singleton, List.getLast_cons_cons, List.getLast_singleton, List.cons_append, List.nil_append, mute]
  repeat (go_big_quiet_step ((go_at_call 65; exact Calls.below_of ((HB.out _).mono fun e w' ⟨h1, h2⟩ => ⟨h1, by rw [h2]; exact Below.refl _ _⟩))))
  refine wpQuiet_nil ?_
  intro i
  have HN := in_newB w i
  have HL := in_belB w i
  go_wp2_with (refine wpList_store_row rfl 64 _ _ rfl w.heap.size (inC R S) rfl rfl 64 #[.int .i64 0, .int .i64 0] HN in_size rfl (in_one R S) ?_)
  refine bodyPost_ret (results_cell_row (P := Try.prog) (p := 4) (ty := 64) (by kernel_rfl) _ _ w.heap.size 64 (inC R S) (0, 0) _ rfl (setRow_heap _ _ _ _ _ _ HN) Try.underlying64 rfl in_size) rfl ?_
  exact ⟨rfl, HL _⟩
set_option maxRecDepth 100000 in
set_option maxHeartbeats 800000 in
theorem withC0_3 (a : Nat) (ha : a < 8) (h2 : a ≠ 2) (h3 : a ≠ 3) (w : World) : Calls Try.prog 55 #[.int .i64 (a : Int), .int .i64 3] w fun e w' => e = .returned (.agg (inC (row8 0 7 0 0 50 32 20 19 a) (byBS 3))) ∧ Below w.heap.size w w' := by
  have hi := ix8 0 7 0 0 50 32 20 19 a ha
  have HB : Hid (∀ w, Calls Try.prog 65 #[.int .i64 3] w fun e w' => e = .returned (.int .i64 (byBS 3 : Int)) ∧ w' = w) := fun w => byB_any 3 (by decide) w
  generalize row8 0 7 0 0 50 32 20 19 a = R at *
  generalize byBS 3 = S at *
  simp only [Int.cast_ofNat_Int] at hi
  have h2i : ¬ (a : Int) = 2 := by omega
  have h3i : ¬ (a : Int) = 3 := by omega
  go_enter Try.func55, Try.ntmps55
  go_wp2_with fail
  refine wp_region_put (by simp) (by kernel_rfl) rfl (by kernel_rfl) (by kernel_rfl) (by kernel_rfl) ?_
  simp only [List.dropLast_cons_cons, List.dropLast_singleton, List.getLast_cons_cons, List.getLast_singleton, List.cons_append, List.nil_append, mute]
  repeat (go_big_quiet_step ((go_at_call 65; exact Calls.below_of ((HB.out _).mono fun e w' ⟨h1, h2⟩ => ⟨h1, by rw [h2]; exact Below.refl _ _⟩))))
  refine wpQuiet_nil ?_
  intro i
  have HN := in_newB w i
  have HL := in_belB w i
  go_wp2_with (refine wpList_store_row rfl 64 _ _ rfl w.heap.size (inC R S) rfl rfl 64 #[.int .i64 0, .int .i64 0] HN in_size rfl (in_one R S) ?_)
  refine bodyPost_ret (results_cell_row (P := Try.prog) (p := 4) (ty := 64) (by kernel_rfl) _ _ w.heap.size 64 (inC R S) (0, 0) _ rfl (setRow_heap _ _ _ _ _ _ HN) Try.underlying64 rfl in_size) rfl ?_
  exact ⟨rfl, HL _⟩
set_option maxRecDepth 100000 in
set_option maxHeartbeats 800000 in
theorem withC0_32  (w : World) : Calls Try.prog 55 #[.int .i64 2, .int .i64 3] w fun e w' => e = .returned (.agg (inC 28 6)) ∧ Below w.heap.size w w' := by
  go_enter Try.func55, Try.ntmps55
  go_wp2_with (refine wpList_store_row rfl 64 _ _ rfl w.heap.size (inC 28 6) rfl rfl 64 #[.int .i64 0, .int .i64 0] (in_new w) in_size rfl (in_one 28 6) ?_)
  refine bodyPost_ret (results_cell_row (P := Try.prog) (p := 4) (ty := 64) (by kernel_rfl) _ _ w.heap.size 64 (inC 28 6) (0, 0) _ rfl (setRow_heap _ _ _ _ _ _ (in_new w)) Try.underlying64 rfl in_size) rfl ?_
  exact ⟨rfl, in_bel w _⟩
set_option maxRecDepth 100000 in
set_option maxHeartbeats 800000 in
theorem withC0_33  (w : World) : Calls Try.prog 55 #[.int .i64 3, .int .i64 3] w fun e w' => e = .returned (.agg (inC 28 9)) ∧ Below w.heap.size w w' := by
  go_enter Try.func55, Try.ntmps55
  go_wp2_with (refine wpList_store_row rfl 64 _ _ rfl w.heap.size (inC 28 9) rfl rfl 64 #[.int .i64 0, .int .i64 0] (in_new w) in_size rfl (in_one 28 9) ?_)
  refine bodyPost_ret (results_cell_row (P := Try.prog) (p := 4) (ty := 64) (by kernel_rfl) _ _ w.heap.size 64 (inC 28 9) (0, 0) _ rfl (setRow_heap _ _ _ _ _ _ (in_new w)) Try.underlying64 rfl in_size) rfl ?_
  exact ⟨rfl, in_bel w _⟩
set_option maxRecDepth 100000 in
set_option maxHeartbeats 800000 in
theorem withC0_54  (w : World) : Calls Try.prog 55 #[.int .i64 4, .int .i64 5] w fun e w' => e = .returned (.agg (inC 50 (byBS 5))) ∧ Below w.heap.size w w' := by
  have HB : Hid (∀ w, Calls Try.prog 65 #[.int .i64 5] w fun e w' => e = .returned (.int .i64 (byBS 5 : Int)) ∧ w' = w) := fun w => byB_any 5 (by decide) w
  generalize byBS 5 = S at *
  go_enter Try.func55, Try.ntmps55
  go_wp2_with (first | (go_at_call 65; refine (HB.out _).mono ?_; rintro e w2 ⟨rfl, hb2⟩) | (refine wpList_store_row rfl 64 _ _ rfl w.heap.size (inC 50 S) rfl rfl 64 #[.int .i64 0, .int .i64 0] (in_new w) in_size rfl (in_one 50 S) ?_))
  refine bodyPost_ret (results_cell_row (P := Try.prog) (p := 4) (ty := 64) (by kernel_rfl) _ _ w.heap.size 64 (inC 50 S) (0, 0) _ rfl (setRow_heap _ _ _ _ _ _ (in_new w)) Try.underlying64 rfl in_size) rfl ?_
  exact ⟨rfl, in_bel w _⟩
set_option maxRecDepth 100000 in
set_option maxHeartbeats 800000 in
theorem withC0_55  (w : World) : Calls Try.prog 55 #[.int .i64 5, .int .i64 5] w fun e w' => e = .returned (.agg (inC 32 (byBS 5))) ∧ Below w.heap.size w w' := by
  have HB : Hid (∀ w, Calls Try.prog 65 #[.int .i64 5] w fun e w' => e = .returned (.int .i64 (byBS 5 : Int)) ∧ w' = w) := fun w => byB_any 5 (by decide) w
  generalize byBS 5 = S at *
  go_enter Try.func55, Try.ntmps55
  go_wp2_with (first | (go_at_call 65; refine (HB.out _).mono ?_; rintro e w2 ⟨rfl, hb2⟩) | (refine wpList_store_row rfl 64 _ _ rfl w.heap.size (inC 32 S) rfl rfl 64 #[.int .i64 0, .int .i64 0] (in_new w) in_size rfl (in_one 32 S) ?_))
  refine bodyPost_ret (results_cell_row (P := Try.prog) (p := 4) (ty := 64) (by kernel_rfl) _ _ w.heap.size 64 (inC 32 S) (0, 0) _ rfl (setRow_heap _ _ _ _ _ _ (in_new w)) Try.underlying64 rfl in_size) rfl ?_
  exact ⟨rfl, in_bel w _⟩
set_option maxRecDepth 100000 in
set_option maxHeartbeats 800000 in
theorem withC0_75  (w : World) : Calls Try.prog 55 #[.int .i64 5, .int .i64 7] w fun e w' => e = .returned (.agg (inC 32 (byBS 7))) ∧ Below w.heap.size w w' := by
  have HB : Hid (∀ w, Calls Try.prog 65 #[.int .i64 7] w fun e w' => e = .returned (.int .i64 (byBS 7 : Int)) ∧ w' = w) := fun w => byB_any 7 (by decide) w
  generalize byBS 7 = S at *
  go_enter Try.func55, Try.ntmps55
  go_wp2_with (first | (go_at_call 65; refine (HB.out _).mono ?_; rintro e w2 ⟨rfl, hb2⟩) | (refine wpList_store_row rfl 64 _ _ rfl w.heap.size (inC 32 S) rfl rfl 64 #[.int .i64 0, .int .i64 0] (in_new w) in_size rfl (in_one 32 S) ?_))
  refine bodyPost_ret (results_cell_row (P := Try.prog) (p := 4) (ty := 64) (by kernel_rfl) _ _ w.heap.size 64 (inC 32 S) (0, 0) _ rfl (setRow_heap _ _ _ _ _ _ (in_new w)) Try.underlying64 rfl in_size) rfl ?_
  exact ⟨rfl, in_bel w _⟩
set_option maxRecDepth 100000 in
set_option maxHeartbeats 800000 in
theorem withC0_5x (a : Nat) (h5 : a ≠ 5) (h4 : a ≠ 4) (w : World) : Calls Try.prog 55 #[.int .i64 (a : Int), .int .i64 5] w fun e w' => e = .returned (.agg (inC 0 0)) ∧ Below w.heap.size w w' := by
  have h5i : ¬ (a : Int) = 5 := by omega
  have h4i : ¬ (a : Int) = 4 := by omega
  go_enter Try.func55, Try.ntmps55
  go_wp2_with (refine wpList_store_row rfl 64 _ _ rfl w.heap.size (inC 0 0) rfl rfl 64 #[.int .i64 0, .int .i64 0] (in_new w) in_size rfl (in_one 0 0) ?_)
  refine bodyPost_ret (results_cell_row (P := Try.prog) (p := 4) (ty := 64) (by kernel_rfl) _ _ w.heap.size 64 (inC 0 0) (0, 0) _ rfl (setRow_heap _ _ _ _ _ _ (in_new w)) Try.underlying64 rfl in_size) rfl ?_
  exact ⟨rfl, in_bel w _⟩
set_option maxRecDepth 100000 in
set_option maxHeartbeats 800000 in
theorem withC0_7x (a : Nat) (h5 : a ≠ 5) (w : World) : Calls Try.prog 55 #[.int .i64 (a : Int), .int .i64 7] w fun e w' => e = .returned (.agg (inC 0 0)) ∧ Below w.heap.size w w' := by
  have h5i : ¬ (a : Int) = 5 := by omega
  go_enter Try.func55, Try.ntmps55
  go_wp2_with (refine wpList_store_row rfl 64 _ _ rfl w.heap.size (inC 0 0) rfl rfl 64 #[.int .i64 0, .int .i64 0] (in_new w) in_size rfl (in_one 0 0) ?_)
  refine bodyPost_ret (results_cell_row (P := Try.prog) (p := 4) (ty := 64) (by kernel_rfl) _ _ w.heap.size 64 (inC 0 0) (0, 0) _ rfl (setRow_heap _ _ _ _ _ _ (in_new w)) Try.underlying64 rfl in_size) rfl ?_
  exact ⟨rfl, in_bel w _⟩

theorem withC0_any (a b : Nat) (ha : a < 8) (hb : b < 8) (w : World) : Calls Try.prog 55 #[.int .i64 (a : Int), .int .i64 (b : Int)] w fun e w' => e = .returned (.agg (inC (c0S a b).1 (c0S a b).2)) ∧ Below w.heap.size w w' := by
  rcases lt8 hb with rfl | rfl | rfl | rfl | rfl | rfl | rfl | rfl
  · rw [show c0S a 0 = (row8 11 29 42 43 0 32 20 19 a, row8 0 6 0 0 0 2 2 2 a) from (by decide : ∀ a < 8, c0S a 0 = (row8 11 29 42 43 0 32 20 19 a, row8 0 6 0 0 0 2 2 2 a)) a ha]; exact withC0_0 a ha w
  · rw [show c0S a 1 = (row8 0 7 0 0 50 32 20 19 a, byBS 1) from (by decide : ∀ a < 8, c0S a 1 = (row8 0 7 0 0 50 32 20 19 a, byBS 1)) a ha]; exact withC0_1 a ha w
  · rw [show c0S a 2 = (row8 37 39 36 38 23 52 27 26 a, 0) from (by decide : ∀ a < 8, c0S a 2 = (row8 37 39 36 38 23 52 27 26 a, 0)) a ha]; exact withC0_2 a ha w
  · by_cases h2 : a = 2
    · subst h2; exact withC0_32 w
    by_cases h3 : a = 3
    · subst h3; exact withC0_33 w
    rw [show c0S a 3 = (row8 0 7 0 0 50 32 20 19 a, byBS 3) from (by decide : ∀ a < 8, a ≠ 2 → a ≠ 3 → c0S a 3 = (row8 0 7 0 0 50 32 20 19 a, byBS 3)) a ha h2 h3]; exact withC0_3 a ha h2 h3 w
  · rw [show c0S a 4 = (row8 10 8 12 13 4 5 9 6 a, 12) from (by decide : ∀ a < 8, c0S a 4 = (row8 10 8 12 13 4 5 9 6 a, 12)) a ha]; exact withC0_4 a ha w
  · by_cases h4 : a = 4
    · subst h4; exact withC0_54 w
    by_cases h5 : a = 5
    · subst h5; exact withC0_55 w
    rw [show c0S a 5 = (0, 0) from (by decide : ∀ a < 8, a ≠ 4 → a ≠ 5 → c0S a 5 = (0, 0)) a ha h4 h5]; exact withC0_5x a h5 h4 w
  · rw [show c0S a 6 = (row8 14 45 16 47 56 17 15 46 a, 0) from (by decide : ∀ a < 8, c0S a 6 = (row8 14 45 16 47 56 17 15 46 a, 0)) a ha]; exact withC0_6 a ha w
  · by_cases h5 : a = 5
    · subst h5; exact withC0_75 w
    rw [show c0S a 7 = (0, 0) from (by decide : ∀ a < 8, a ≠ 5 → c0S a 7 = (0, 0)) a ha h5]; exact withC0_7x a h5 w
end Go.Proofs.Ytfecadongbmfhaa
