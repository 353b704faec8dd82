/- What the program's classOf, mayCross, toOperand, moreThanRead, ofOthers, baseOf and extraOf answer. -/
import Derived.Test.YtfecadongbmfhaaOp1
namespace Go.Proofs.Ytfecadongbmfhaa
open Go.RowKit
set_option linter.unusedVariables false

def crS (k : Nat) : Bool := k == 7 || k == 8 || k == 11
def toS (k : Nat) : Nat := [2, 2, 2, 3, 4, 4, 4, 4, 4, 2, 6, 5, 2].getD k 2
def moS (c k : Nat) : Nat := if c = 3 then (if k = 1 then 0 else 2 + (crS k).toNat) else if c = 2 then (crS k).toNat else 0
def otS (m k : Nat) : Nat := if m = 11 then 7 else if m = 29 ∨ m = 42 ∨ m = 43 then 6 else if m = 38 ∨ m = 39 then 4 else if m = 36 ∨ m = 37 then 3 else if m = 28 then (if k = 9 then 5 else 3) else 2
def baS (m k : Nat) : Nat := if clS m = 1 ∨ clS m = 2 ∨ clS m = 3 then toS k + moS (clS m) k else if clS m = 4 then 2 else otS m k
def exS (m k : Nat) : Nat := if clS m = 1 ∧ crS k = true then 1 else 0
theorem to_le (k : Nat) (h : k ≤ 12) : toS k ≤ 6 := (by decide : ∀ k ≤ 12, toS k ≤ 6) k h
theorem mo_le (c k : Nat) : moS c k ≤ 3 := by
  unfold moS
  cases crS k <;> simp <;> split <;> (try split) <;> omega
theorem cl_le (m : Nat) : clS m ≤ 5 := by
  unfold clS
  repeat (first | (split; omega) | omega)

theorem lt13 {n : Nat} (h : n ≤ 12) : n = 0 ∨ n = 1 ∨ n = 2 ∨ n = 3 ∨ n = 4 ∨ n = 5 ∨ n = 6 ∨ n = 7 ∨ n = 8 ∨ n = 9 ∨ n = 10 ∨ n = 11 ∨ n = 12 := by omega
theorem lt57 {n : Nat} (h : n ≤ 56) : n = 0 ∨ n = 1 ∨ n = 2 ∨ n = 3 ∨ n = 4 ∨ n = 5 ∨ n = 6 ∨ n = 7 ∨ n = 8 ∨ n = 9 ∨ n = 10 ∨ n = 11 ∨ n = 12 ∨ n = 13 ∨ n = 14 ∨ n = 15 ∨ n = 16 ∨ n = 17 ∨ n = 18 ∨ n = 19 ∨ n = 20 ∨ n = 21 ∨ n = 22 ∨ n = 23 ∨ n = 24 ∨ n = 25 ∨ n = 26 ∨ n = 27 ∨ n = 28 ∨ n = 29 ∨ n = 30 ∨ n = 31 ∨ n = 32 ∨ n = 33 ∨ n = 34 ∨ n = 35 ∨ n = 36 ∨ n = 37 ∨ n = 38 ∨ n = 39 ∨ n = 40 ∨ n = 41 ∨ n = 42 ∨ n = 43 ∨ n = 44 ∨ n = 45 ∨ n = 46 ∨ n = 47 ∨ n = 48 ∨ n = 49 ∨ n = 50 ∨ n = 51 ∨ n = 52 ∨ n = 53 ∨ n = 54 ∨ n = 55 ∨ n = 56 := by omega
set_option maxRecDepth 100000 in
set_option maxHeartbeats 400000 in
theorem mayCross_any (k : Nat) (hk : k ≤ 12) (w : World) : Calls Try.prog 61 #[.int .i64 (k : Int)] w fun e w' => e = .returned (.bool (crS k)) ∧ w' = w := by
  rcases lt13 hk with rfl | rfl | rfl | rfl | rfl | rfl | rfl | rfl | rfl | rfl | rfl | rfl | rfl
  all_goals
    go_enter Try.func61, Try.ntmps61
    go_wp2_with fail
    go_ret
    exact ⟨rfl, rfl⟩
set_option maxRecDepth 100000 in
set_option maxHeartbeats 400000 in
theorem toOperand_any (k : Nat) (hk : k ≤ 12) (w : World) : Calls Try.prog 58 #[.int .i64 (k : Int)] w fun e w' => e = .returned (.int .i64 (toS k : Int)) ∧ w' = w := by
  rcases lt13 hk with rfl | rfl | rfl | rfl | rfl | rfl | rfl | rfl | rfl | rfl | rfl | rfl | rfl
  all_goals
    go_enter Try.func58, Try.ntmps58
    go_wp2_with fail
    go_ret
    exact ⟨rfl, rfl⟩
set_option maxRecDepth 100000 in
set_option maxHeartbeats 4000000 in
theorem classOf_any (m : Nat) (hm : m ≤ 56) (w : World) : Calls Try.prog 49 #[.int .i64 (m : Int)] w fun e w' => e = .returned (.int .i64 (clS m : Int)) ∧ w' = w := by
  rcases lt57 hm with rfl | rfl | rfl | rfl | rfl | rfl | rfl | rfl | rfl | rfl | rfl | rfl | rfl | rfl | rfl | rfl | rfl | rfl | rfl | rfl | rfl | rfl | rfl | rfl | rfl | rfl | rfl | rfl | rfl | rfl | rfl | rfl | rfl | rfl | rfl | rfl | rfl | rfl | rfl | rfl | rfl | rfl | rfl | rfl | rfl | rfl | rfl | rfl | rfl | rfl | rfl | rfl | rfl | rfl | rfl | rfl | rfl
  all_goals
    go_enter Try.func49, Try.ntmps49
    go_wp2_with fail
    go_ret
    exact ⟨rfl, rfl⟩
set_option maxRecDepth 100000 in
theorem moreThanRead_any (c k : Nat) (hc : c = 1 ∨ c = 2 ∨ c = 3) (hk : k ≤ 12) (w : World) : Calls Try.prog 59 #[.int .i64 (c : Int), .int .i64 (k : Int)] w fun e w' => e = .returned (.int .i64 (moS c k : Int)) ∧ w' = w := by
  have HC : Hid (∀ w, Calls Try.prog 61 #[.int .i64 (k : Int)] w fun e w' => e = .returned (.bool (crS k)) ∧ w' = w) := fun w => mayCross_any k hk w
  rcases hc with rfl | rfl | rfl
  · go_enter Try.func59, Try.ntmps59
    go_wp2_with fail
    go_ret
    exact ⟨rfl, rfl⟩
  · have HR : Hid (moS 2 k = (crS k).toNat) := rfl
    generalize moS 2 k = R at *
    generalize crS k = B at *
    cases B
    all_goals
      have h := HR.out
      simp only [Bool.toNat_false, Bool.toNat_true] at h
      subst h
      go_enter Try.func59, Try.ntmps59
      go_wp2_with (go_at_call 61; refine (HC.out _).mono ?_; rintro e w2 ⟨rfl, hb2⟩)
      go_ret
      exact ⟨rfl, rfl⟩
  · by_cases h1 : k = 1
    · subst h1
      go_enter Try.func59, Try.ntmps59
      go_wp2_with fail
      go_ret
      exact ⟨rfl, rfl⟩
    · have h1i : ¬ (k : Int) = 1 := by omega
      have HR : Hid (moS 3 k = 2 + (crS k).toNat) := by show _ = _; unfold moS; rw [if_pos rfl, if_neg h1]
      generalize moS 3 k = R at *
      generalize crS k = B at *
      cases B
      all_goals
        have h := HR.out
        simp only [Bool.toNat_false, Bool.toNat_true] at h
        subst h
        go_enter Try.func59, Try.ntmps59
        go_wp2_with (go_at_call 61; refine (HC.out _).mono ?_; rintro e w2 ⟨rfl, hb2⟩)
        go_ret
        exact ⟨rfl, rfl⟩
theorem box_cells (w : World) (m k : Nat) (ty : TypeId) : (w.alloc (.cells (inC m k) ty)).cell? ⟨w.heap.size, 0, none⟩ = some (.int .i64 (m : Int)) ∧ (w.alloc (.cells (inC m k) ty)).cell? ⟨w.heap.size, 1, none⟩ = some (.int .i64 (k : Int)) := by
  constructor
  · rw [cell_of_row _ _ _ _ _ _ (heap_alloc_last _ _)]; rfl
  · rw [cell_of_row _ _ _ _ _ _ (heap_alloc_last _ _)]; rfl
theorem box_bel (w : World) (m k : Nat) (ty : TypeId) : Below w.heap.size w (w.alloc (.cells (inC m k) ty)) := (Below.refl _ _).alloc (Nat.le_refl _) _
set_option maxRecDepth 100000 in
set_option maxHeartbeats 4000000 in
theorem ofOthers_any (m k : Nat) (hm : m ≤ 56) (w : World) : Calls Try.prog 60 #[.agg (inC m k)] w fun e w' => e = .returned (.int .i64 (otS m k : Int)) ∧ Below w.heap.size w w' := by
  have HB := hidD (box_bel w m k 64)
  obtain ⟨h0, h1⟩ := box_cells w m k 64
  by_cases hj : m = 28
  · subst hj
    unfold inC at *
    by_cases h9 : k = 9
    · subst h9
      go_enter Try.func60, Try.ntmps60
      go_wp2_with fail
      go_ret
      exact ⟨rfl, HB.out⟩
    · have h9i : ¬ (k : Int) = 9 := by omega
      have HR : Hid (otS 28 k = 3) := by show _ = _; unfold otS; simp [h9]
      rw [HR.out]
      go_enter Try.func60, Try.ntmps60
      go_wp2_with fail
      go_ret
      exact ⟨rfl, HB.out⟩
  · unfold inC at *
    rcases lt57 hm with rfl | rfl | rfl | rfl | rfl | rfl | rfl | rfl | rfl | rfl | rfl | rfl | rfl | rfl | rfl | rfl | rfl | rfl | rfl | rfl | rfl | rfl | rfl | rfl | rfl | rfl | rfl | rfl | rfl | rfl | rfl | rfl | rfl | rfl | rfl | rfl | rfl | rfl | rfl | rfl | rfl | rfl | rfl | rfl | rfl | rfl | rfl | rfl | rfl | rfl | rfl | rfl | rfl | rfl | rfl | rfl | rfl
    all_goals first
      | exact absurd rfl hj
      | (clear hj
         go_enter Try.func60, Try.ntmps60
         go_wp2_with fail
         go_ret
         exact ⟨rfl, HB.out⟩)
end Go.Proofs.Ytfecadongbmfhaa
