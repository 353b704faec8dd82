/- What the document's pick, one, two, none and Of answer. -/
import Derived.Test.YtfecadongbmfhaaOpD
namespace Go.Proofs.Ytfecadongbmfhaa
open Go.RowKit
set_option linter.unusedVariables false

def pkS (l : List UInt8) (k : Nat) : List UInt8 := if (l.drop (3 * k)).take 3 = [32, 32, 32] then [] else (l.drop (3 * k)).take 3
theorem blank_list : (⟨#[32, 32, 32]⟩ : ByteArray).toList = [32, 32, 32] := ba_list [32, 32, 32]
set_option maxRecDepth 100000 in
theorem pick_any (l : List UInt8) (k : Nat) (h : 3 * k + 3 ≤ l.length) (hl : l.length ≤ 1000) (w : World) : Calls Try.prog 36 #[.string (bA l), .int .i64 (k : Int)] w fun e w' => e = .returned (.string (bA (pkS l k))) ∧ w' = w := by
  have hsl : ∀ w, (Instr.slice 9 (.string (bA l)) (some (.int .i64 ((3 * k : Nat) : Int))) (some (.int .i64 ((3 * k + 3 : Nat) : Int))) none).run Try.prog w = .ok (.string (bA ((l.drop (3 * k)).take 3))) w := fun w => by
    have := slice_str l (3 * k) (3 * k + 3) (by omega) h w
    rw [show 3 * k + 3 - 3 * k = 3 by omega] at this
    exact this
  have e1 : (3 : Int) * (k : Int) = ((3 * k : Nat) : Int) := by omega
  have e2 : ((3 * k : Nat) : Int) + 3 = ((3 * k + 3 : Nat) : Int) := by omega
  have q1 : 3 * k ≤ 1000 := by omega
  have q2 : 3 * k + 3 ≤ 1000 := by omega
  have hbl := bA_list ((l.drop (3 * k)).take 3)
  unfold pkS
  generalize (l.drop (3 * k)).take 3 = P at *
  generalize 3 * k + 3 = E at *
  generalize 3 * k = S at *
  generalize bA l = LL at *
  by_cases hb : P = [32, 32, 32]
  · rw [if_pos hb]
    have hq : ((bA P).toList == [32, 32, 32]) = true := by rw [hbl]; exact beq_iff_eq.2 hb
    clear hb hbl
    generalize bA P = N at *
    go_enter Try.func36, Try.ntmps36
    go_wp2_with fail
    all_goals first | (go_ret; exact ⟨rfl, rfl⟩) | (exfalso; simp_all; done)
  · rw [if_neg hb]
    have hq : ((bA P).toList == [32, 32, 32]) = false := by rw [hbl]; exact beq_eq_false_iff_ne.2 hb
    clear hb hbl
    generalize bA P = N at *
    go_enter Try.func36, Try.ntmps36
    go_wp2_with fail
    all_goals first | (go_ret; exact ⟨rfl, rfl⟩) | (exfalso; simp_all; done)

theorem pk_one : ∀ a < 8, pkS [79, 82, 65, 65, 78, 68, 69, 79, 82, 65, 68, 67, 83, 84, 65, 76, 68, 65, 67, 77, 80, 83, 66, 67] a = nmS ([35, 2, 24, 1, 48, 30, 18, 44].getD a 0) := by decide +kernel
theorem pk_two : ∀ a < 8, pkS [65, 83, 76, 82, 79, 76, 76, 83, 82, 82, 79, 82, 83, 84, 88, 76, 68, 88, 68, 69, 67, 73, 78, 67] a = nmS ([3, 40, 33, 41, 49, 31, 21, 25].getD a 0) := by decide +kernel
theorem pk_twx : ∀ a < 4, pkS [84, 88, 65, 84, 65, 88, 68, 69, 88, 78, 79, 80] a = nmS ([54, 51, 22, 34].getD a 0) := by decide +kernel
theorem pk_n0 : ∀ a < 8, pkS [66, 82, 75, 74, 83, 82, 82, 84, 73, 82, 84, 83, 32, 32, 32, 76, 68, 89, 67, 80, 89, 67, 80, 88] a = nmS ([11, 29, 42, 43, 0, 32, 20, 19].getD a 0) := by decide +kernel
theorem pk_n1 : ∀ a < 8, pkS [32, 32, 32, 66, 73, 84, 32, 32, 32, 32, 32, 32, 83, 84, 89, 76, 68, 89, 67, 80, 89, 67, 80, 88] a = nmS ([0, 7, 0, 0, 50, 32, 20, 19].getD a 0) := by decide +kernel
theorem pk_n2 : ∀ a < 8, pkS [80, 72, 80, 80, 76, 80, 80, 72, 65, 80, 76, 65, 68, 69, 89, 84, 65, 89, 73, 78, 89, 73, 78, 88] a = nmS ([37, 39, 36, 38, 23, 52, 27, 26].getD a 0) := by decide +kernel
theorem pk_n3 : ∀ a < 8, pkS [32, 32, 32, 66, 73, 84, 74, 77, 80, 32, 32, 32, 83, 84, 89, 76, 68, 89, 67, 80, 89, 67, 80, 88] a = nmS ([0, 7, 28, 0, 50, 32, 20, 19].getD a 0) := by decide +kernel
theorem pk_n4 : ∀ a < 8, pkS [66, 80, 76, 66, 77, 73, 66, 86, 67, 66, 86, 83, 66, 67, 67, 66, 67, 83, 66, 78, 69, 66, 69, 81] a = nmS ([10, 8, 12, 13, 4, 5, 9, 6].getD a 0) := by decide +kernel
theorem pk_n5 : ∀ a < 8, pkS [32, 32, 32, 32, 32, 32, 32, 32, 32, 32, 32, 32, 83, 84, 89, 76, 68, 89, 32, 32, 32, 32, 32, 32] a = nmS ([0, 0, 0, 0, 50, 32, 0, 0].getD a 0) := by decide +kernel
theorem pk_n6 : ∀ a < 8, pkS [67, 76, 67, 83, 69, 67, 67, 76, 73, 83, 69, 73, 84, 89, 65, 67, 76, 86, 67, 76, 68, 83, 69, 68] a = nmS ([14, 45, 16, 47, 56, 17, 15, 46].getD a 0) := by decide +kernel
theorem pk_n7 : ∀ a < 8, pkS [32, 32, 32, 32, 32, 32, 32, 32, 32, 32, 32, 32, 32, 32, 32, 76, 68, 89, 32, 32, 32, 32, 32, 32] a = nmS ([0, 0, 0, 0, 0, 32, 0, 0].getD a 0) := by decide +kernel
theorem row_cell8 (w : World) (x0 x1 x2 x3 x4 x5 x6 x7 k : Nat) (hk : k < 8) (i : BW (w.alloc (.cells #[.int .i64 (x0 : Int), .int .i64 (x1 : Int), .int .i64 (x2 : Int), .int .i64 (x3 : Int), .int .i64 (x4 : Int), .int .i64 (x5 : Int), .int .i64 (x6 : Int), .int .i64 (x7 : Int)] (76 : TypeId)))) : i.v.cell? ⟨w.heap.size, k, none⟩ = some (.int .i64 (row8 x0 x1 x2 x3 x4 x5 x6 x7 k : Int)) := by
  rw [i.cell (by simp), cell_of_row _ _ _ _ _ _ (heap_alloc_last _ _)]
  rcases lt8 hk with rfl | rfl | rfl | rfl | rfl | rfl | rfl | rfl <;> rfl
end Go.Proofs.Ytfecadongbmfhaa
