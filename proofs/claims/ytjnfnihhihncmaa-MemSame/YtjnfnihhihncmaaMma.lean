/- Regions: their small calls. -/
import Derived.Test.YtjnfnihhihncmaaE5
import Derived.Test.YtjnfnihhihncmaaE7
namespace Go.Proofs.Ytjnfnihhihncmaa
open Go.RowKit
set_option linter.unusedVariables false

theorem rg_cells (w : World) (f t k : Int) : (w.alloc (.cells #[.int .i64 f, .int .i64 t, .int .i64 k] 35)).cell? ⟨w.heap.size, 0, none⟩ = some (.int .i64 f) ∧ (w.alloc (.cells #[.int .i64 f, .int .i64 t, .int .i64 k] 35)).cell? ⟨w.heap.size, 1, none⟩ = some (.int .i64 t) ∧ (w.alloc (.cells #[.int .i64 f, .int .i64 t, .int .i64 k] 35)).cell? ⟨w.heap.size, 2, none⟩ = some (.int .i64 k) := by
  refine ⟨?_, ?_, ?_⟩ <;> rw [cell_of_row _ _ _ _ _ _ (heap_alloc_last _ _)] <;> rfl
set_option maxRecDepth 100000 in
theorem isPlace_any (a : Int) (w : World) : Calls Try.prog 56 #[.int .i64 a] w fun e w' => e = .returned (.bool (decide (0 ≤ a ∧ a < 65536))) ∧ w' = w := by
  by_cases h0 : 0 ≤ a
  · by_cases h1 : a < 65536
    · rw [decide_eq_true ⟨h0, h1⟩]
      go_enter Try.func56, Try.ntmps56
      go_wp2_with fail
      go_ret
      exact ⟨rfl, rfl⟩
    · rw [decide_eq_false (fun h => h1 h.2)]
      go_enter Try.func56, Try.ntmps56
      go_wp2_with fail
      go_ret
      exact ⟨rfl, rfl⟩
  · rw [decide_eq_false (fun h => h0 h.1)]
    go_enter Try.func56, Try.ntmps56
    go_wp2_with fail
    go_ret
    exact ⟨rfl, rfl⟩
set_option maxRecDepth 100000 in
theorem hasCells_any (f t k : Int) (w : World) : Calls Try.prog 52 #[.agg #[.int .i64 f, .int .i64 t, .int .i64 k]] w fun e w' => e = .returned (.bool (decide (k = 1 ∨ k = 2))) ∧ Below w.heap.size w w' := by
  obtain ⟨h0, h1, h2⟩ := rg_cells w f t k
  have HB : Hid (Below w.heap.size w (w.alloc (.cells #[.int .i64 f, .int .i64 t, .int .i64 k] 35))) := (Below.refl _ _).alloc (Nat.le_refl _) _
  by_cases ha : k = 1
  · subst ha
    rw [decide_eq_true (Or.inl rfl)]
    go_enter Try.func52, Try.ntmps52
    go_wp2_with fail
    go_ret
    exact ⟨rfl, HB.out⟩
  · by_cases hb : k = 2
    · subst hb
      rw [decide_eq_true (Or.inr rfl)]
      go_enter Try.func52, Try.ntmps52
      go_wp2_with fail
      go_ret
      exact ⟨rfl, HB.out⟩
    · rw [decide_eq_false (fun h => h.elim ha hb)]
      go_enter Try.func52, Try.ntmps52
      go_wp2_with fail
      go_ret
      exact ⟨by show Ending.returned (.bool (k == 1 || k == 2)) = _; simp [ha, hb], HB.out⟩
set_option maxRecDepth 100000 in
theorem has_any (f t k a : Int) (w : World) : Calls Try.prog 70 #[.agg #[.int .i64 f, .int .i64 t, .int .i64 k], .int .i64 a] w fun e w' => e = .returned (.bool (decide (f ≤ a ∧ a < t))) ∧ Below w.heap.size w w' := by
  obtain ⟨h0, h1, h2⟩ := rg_cells w f t k
  have HB : Hid (Below w.heap.size w (w.alloc (.cells #[.int .i64 f, .int .i64 t, .int .i64 k] 35))) := (Below.refl _ _).alloc (Nat.le_refl _) _
  by_cases ha : f ≤ a
  · by_cases hb : a < t
    · rw [decide_eq_true ⟨ha, hb⟩]
      go_enter Try.func70, Try.ntmps70
      go_wp2_with fail
      go_ret
      exact ⟨rfl, HB.out⟩
    · rw [decide_eq_false (fun h => hb h.2)]
      go_enter Try.func70, Try.ntmps70
      go_wp2_with fail
      go_ret
      exact ⟨rfl, HB.out⟩
  · rw [decide_eq_false (fun h => ha h.1)]
    go_enter Try.func70, Try.ntmps70
    go_wp2_with fail
    go_ret
    exact ⟨rfl, HB.out⟩
set_option maxRecDepth 100000 in
theorem isRegion_any (f t k : Int) (w : World) : Calls Try.prog 28 #[.agg #[.int .i64 f, .int .i64 t, .int .i64 k]] w fun e w' => e = .returned (.bool (decide (0 ≤ f ∧ t ≤ 65536 ∧ f < t ∧ 1 ≤ k ∧ k ≤ 3))) ∧ Below w.heap.size w w' := by
  obtain ⟨h0, h1, h2⟩ := rg_cells w f t k
  have HB : Hid (Below w.heap.size w (w.alloc (.cells #[.int .i64 f, .int .i64 t, .int .i64 k] 35))) := (Below.refl _ _).alloc (Nat.le_refl _) _
  by_cases g0 : 0 ≤ f
  · by_cases g1 : t ≤ 65536
    · by_cases g2 : f < t
      · by_cases g3 : 1 ≤ k
        · by_cases g4 : k ≤ 3
          · rw [decide_eq_true ⟨g0, g1, g2, g3, g4⟩]
            go_enter Try.func28, Try.ntmps28
            go_wp2_with fail
            go_ret
            exact ⟨rfl, HB.out⟩
          · rw [decide_eq_false (fun h => g4 h.2.2.2.2)]
            go_enter Try.func28, Try.ntmps28
            go_wp2_with fail
            go_ret
            exact ⟨rfl, HB.out⟩
        · rw [decide_eq_false (fun h => g3 h.2.2.2.1)]
          go_enter Try.func28, Try.ntmps28
          go_wp2_with fail
          go_ret
          exact ⟨rfl, HB.out⟩
      · rw [decide_eq_false (fun h => g2 h.2.2.1)]
        go_enter Try.func28, Try.ntmps28
        go_wp2_with fail
        go_ret
        exact ⟨rfl, HB.out⟩
    · rw [decide_eq_false (fun h => g1 h.2.1)]
      go_enter Try.func28, Try.ntmps28
      go_wp2_with fail
      go_ret
      exact ⟨rfl, HB.out⟩
  · rw [decide_eq_false (fun h => g0 h.1)]
    go_enter Try.func28, Try.ntmps28
    go_wp2_with fail
    go_ret
    exact ⟨rfl, HB.out⟩
end Go.Proofs.Ytjnfnihhihncmaa
