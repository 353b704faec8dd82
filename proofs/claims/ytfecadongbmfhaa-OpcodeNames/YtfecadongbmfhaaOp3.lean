/- What the program's withC1 answers. -/
import Derived.Test.YtfecadongbmfhaaOp2
import Derived.Deep.RegionWith
namespace Go.Proofs.Ytfecadongbmfhaa
open Go.RowKit
set_option linter.unusedVariables false

theorem two_new (w : World) (R S : Nat) : ((w.alloc (.cells #[.int .i64 0, .int .i64 0] (64 : TypeId))).alloc (.cells #[.int .i64 (R : Int), .int .i64 (S : Int)] (64 : TypeId))).drew.heap[w.heap.size]? = some (.cells #[.int .i64 0, .int .i64 0] (64 : TypeId) (0, 0))
    ∧ ((w.alloc (.cells #[.int .i64 0, .int .i64 0] (64 : TypeId))).alloc (.cells #[.int .i64 (R : Int), .int .i64 (S : Int)] (64 : TypeId))).drew.heap[w.heap.size + 1]? = some (.cells (inC R S) (64 : TypeId) (0, 0))
    ∧ Below w.heap.size w ((w.alloc (.cells #[.int .i64 0, .int .i64 0] (64 : TypeId))).alloc (.cells #[.int .i64 (R : Int), .int .i64 (S : Int)] (64 : TypeId))).drew := by
  obtain ⟨h1, h2, h3, _⟩ := two_blocks w #[.int .i64 0, .int .i64 0] #[.int .i64 (R : Int), .int .i64 (S : Int)] (64 : TypeId)
  exact ⟨h1, h2, h3.drew⟩
set_option maxRecDepth 100000 in
set_option maxHeartbeats 1600000 in
theorem withC1_go (R S : Nat) (a b : Nat) (hi : ∀ w, (Instr.index 81 (.agg #[.int .i64 35, .int .i64 2, .int .i64 24, .int .i64 1, .int .i64 48, .int .i64 30, .int .i64 18, .int .i64 44]) (.int .i64 (a : Int))).run Try.prog w = .ok (.int .i64 (R : Int)) w)
    (HB : Hid (∀ w, Calls Try.prog 65 #[.int .i64 (b : Int)] w fun e w' => e = .returned (.int .i64 (S : Int)) ∧ w' = w)) (w : World) : Calls Try.prog 56 #[.int .i64 (a : Int), .int .i64 (b : Int)] w fun e w' => e = .returned (.agg (if R = 48 ∧ S = 2 then inC 0 0 else inC R S)) ∧ Below w.heap.size w w' := by
  obtain ⟨hA, hN, hL⟩ := two_new w R S
  have HA := hidD hA
  have HN := hidD hN
  have HL := hidD hL
  clear hA hN hL
  go_enter Try.func56, Try.ntmps56
  go_wp2_with fail
  go_region_with (go_at_call 65; refine (HB.out _).mono ?_; rintro e w2 ⟨rfl, hb2⟩)
  all_goals
    clear hb2
    generalize (World.drew _) = W2 at *
    by_cases h48 : R = 48
    · subst h48
      by_cases h2 : S = 2
      · subst h2
        go_wp2_with (first | (refine wpList_load_row rfl 64 _ rfl (w.heap.size + 1) rfl 64 #[.int .i64 ((48 : Nat) : Int), .int .i64 ((2 : Nat) : Int)] (0, 0) _ HN.out Try.underlying64 rfl in_size ?_) | (refine wpList_store_row rfl 64 _ _ rfl w.heap.size (inC 0 0) rfl rfl 64 #[.int .i64 0, .int .i64 0] HA.out in_size rfl (in_one 0 0) ?_))
        refine bodyPost_ret (results_cell_row (P := Try.prog) (p := 4) (ty := 64) (by kernel_rfl) _ _ w.heap.size 64 (inC 0 0) (0, 0) _ rfl (setRow_heap _ _ _ _ _ _ HA.out) Try.underlying64 rfl in_size) rfl ?_
        exact ⟨rfl, below_setRow HL.out (Nat.le_refl _) _⟩
      · have h2i : ((S : Int) == 2) = false := by simp; omega
        have h2j : ¬ (S : Int) = 2 := by omega
        go_wp2_with (first | (refine wpList_load_row rfl 64 _ rfl (w.heap.size + 1) rfl 64 #[.int .i64 ((48 : Nat) : Int), .int .i64 (S : Int)] (0, 0) _ HN.out Try.underlying64 rfl in_size ?_) | (refine wpList_store_row rfl 64 _ _ rfl w.heap.size (inC 48 S) rfl rfl 64 #[.int .i64 0, .int .i64 0] HA.out in_size rfl (in_one 48 S) ?_))
        refine bodyPost_ret (results_cell_row (P := Try.prog) (p := 4) (ty := 64) (by kernel_rfl) _ _ w.heap.size 64 (inC 48 S) (0, 0) _ rfl (setRow_heap _ _ _ _ _ _ HA.out) Try.underlying64 rfl in_size) rfl ?_
        exact ⟨by first | rfl | rw [if_neg (fun h => h2 h.2)], below_setRow HL.out (Nat.le_refl _) _⟩
    · have h48i : ((R : Int) == 48) = false := by simp; omega
      have h48j : ¬ (R : Int) = 48 := by omega
      go_wp2_with (first | (refine wpList_load_row rfl 64 _ rfl (w.heap.size + 1) rfl 64 #[.int .i64 (R : Int), .int .i64 (S : Int)] (0, 0) _ HN.out Try.underlying64 rfl in_size ?_) | (refine wpList_store_row rfl 64 _ _ rfl w.heap.size (inC R S) rfl rfl 64 #[.int .i64 0, .int .i64 0] HA.out in_size rfl (in_one R S) ?_))
      refine bodyPost_ret (results_cell_row (P := Try.prog) (p := 4) (ty := 64) (by kernel_rfl) _ _ w.heap.size 64 (inC R S) (0, 0) _ rfl (setRow_heap _ _ _ _ _ _ HA.out) Try.underlying64 rfl in_size) rfl ?_
      exact ⟨by first | rfl | rw [if_neg (fun h => h48 h.1)], below_setRow HL.out (Nat.le_refl _) _⟩
theorem withC1_any (a b : Nat) (ha : a < 8) (hb : b < 8) (w : World) : Calls Try.prog 56 #[.int .i64 (a : Int), .int .i64 (b : Int)] w fun e w' => e = .returned (.agg (inC (c1S a b).1 (c1S a b).2)) ∧ Below w.heap.size w w' := by
  have h := withC1_go (row8 35 2 24 1 48 30 18 44 a) (byBS b) a b (ix8 35 2 24 1 48 30 18 44 a ha) (fun w => byB_any b hb w) w
  rw [show inC (c1S a b).1 (c1S a b).2 = if row8 35 2 24 1 48 30 18 44 a = 48 ∧ byBS b = 2 then inC 0 0 else inC (row8 35 2 24 1 48 30 18 44 a) (byBS b) from ?_]
  · exact h
  · have := (by decide : ∀ a < 8, ∀ b < 8, c1S a b = if row8 35 2 24 1 48 30 18 44 a = 48 ∧ byBS b = 2 then (0, 0) else (row8 35 2 24 1 48 30 18 44 a, byBS b)) a ha b hb
    rw [this]
    split <;> rfl
end Go.Proofs.Ytfecadongbmfhaa
