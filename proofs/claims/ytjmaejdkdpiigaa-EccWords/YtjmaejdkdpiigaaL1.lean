/- What the statements' own no and live answer. -/
import Derived.Test.YtjmaejdkdpiigaaE5
import Derived.Test.YtjmaejdkdpiigaaD3
namespace Go.Proofs.Ytjmaejdkdpiigaa
open Go.RowKit
set_option linter.unusedVariables false

theorem no_any (x : Int) (w : World) : Calls Try.prog 10 #[.int .i64 x] w fun e w' => e = .returned (.int .i64 x) ∧ w' = w := by
  go_enter Try.func10, Try.ntmps10
  go_wp2_with fail
  go_ret
  exact ⟨rfl, rfl⟩
/- a word is laid into a new block -/
theorem wd_put {w w1 w3 : World} {D C : Nat} {ty : TypeId} (h1 : Below w.heap.size w w1) (h3 : Below ((w1.alloc (.cells #[.int .u64 0, .int .u8 0] ty)).setRow w1.heap.size (wdC D C)).heap.size ((w1.alloc (.cells #[.int .u64 0, .int .u8 0] ty)).setRow w1.heap.size (wdC D C)) w3) : w3.cell? ⟨w1.heap.size, 0, none⟩ = some (.int .u64 (D : Int)) ∧ w3.cell? ⟨w1.heap.size, 1, none⟩ = some (.int .u8 (C : Int)) ∧ w3.heap[w1.heap.size]? = some (.cells (wdC D C) ty (0, 0)) ∧ Below w.heap.size w w3 := by
  have hr : ((w1.alloc (.cells #[.int .u64 0, .int .u8 0] ty)).setRow w1.heap.size (wdC D C)).heap[w1.heap.size]? = some (.cells (wdC D C) ty (0, 0)) := setRow_heap _ _ _ _ _ _ (heap_alloc_last _ _)
  have hr3 := (h3.block _ (row_lt hr)).trans hr
  refine ⟨?_, ?_, hr3, Below.next h1 (Below.next (below_setRow ((Below.refl _ _).alloc (Nat.le_refl _) _) (Nat.le_refl _) _) h3)⟩
  · rw [cell_of_row _ _ _ _ _ _ hr3]; rfl
  · rw [cell_of_row _ _ _ _ _ _ hr3]; rfl
theorem wd_keep {w w1 : World} {g D C : Nat} {ty : TypeId} (hr : w.heap[g]? = some (.cells (wdC D C) ty (0, 0))) (h : Below w.heap.size w w1) : w1.heap[g]? = some (.cells (wdC D C) ty (0, 0)) := (h.block _ (row_lt hr)).trans hr
theorem wd_cell {w : World} {g D C : Nat} {ty : TypeId} (hr : w.heap[g]? = some (.cells (wdC D C) ty (0, 0))) : w.cell? ⟨g, 0, none⟩ = some (.int .u64 (D : Int)) ∧ w.cell? ⟨g, 1, none⟩ = some (.int .u8 (C : Int)) := by
  constructor
  · rw [cell_of_row _ _ _ _ _ _ hr]; rfl
  · rw [cell_of_row _ _ _ _ _ _ hr]; rfl
theorem wd_new (w1 : World) (D C : Nat) (ty : TypeId) : ((w1.alloc (.cells #[.int .u64 0, .int .u8 0] ty)).setRow w1.heap.size (wdC D C)).heap[w1.heap.size]? = some (.cells (wdC D C) ty (0, 0)) := setRow_heap _ _ _ _ _ _ (heap_alloc_last _ _)
theorem wd_bel (w1 : World) (D C : Nat) (ty : TypeId) : Below w1.heap.size w1 ((w1.alloc (.cells #[.int .u64 0, .int .u8 0] ty)).setRow w1.heap.size (wdC D C)) := below_setRow ((Below.refl _ _).alloc (Nat.le_refl _) _) (Nat.le_refl _) _

theorem live_e : encS 8 4 1 = 19 := by decide +kernel
theorem live_d : DecIs 8 4 0 19 1 1 0 0 := DecIs.data (W := 8) (r := 4) (D := 0) (C := 19) 0 (by decide) (by decide +kernel) (by decide +kernel)
def lvA : List UInt8 := [55, 57, 57, 50, 55, 51, 57, 56, 55, 49]
def lvB : List UInt8 := [50, 51, 54]
theorem live_a : AllD lvA ∧ ckS (suTo (dgS lvA) 1 lvA.length) = 3 := by decide +kernel
theorem live_b : AllD lvB ∧ ivS (veTo (dgS lvB) 1 lvB.length) = 3 := by decide +kernel
set_option maxRecDepth 100000 in
set_option maxHeartbeats 1600000 in
theorem live_any (w : World) : Calls Try.prog 13 #[] w fun e w' => e = .returned (.bool true) ∧ Below w.heap.size w w' := by
  have w8 : Wid 8 4 := Or.inl ⟨rfl, rfl⟩
  have HE : Hid (∀ w, Calls Try.prog 14 #[.int .i64 8, .int .u64 1] w fun e w' => e = .returned (.tuple #[.agg (wdC 1 19), .int .i64 0]) ∧ Below w.heap.size w w') := fun w => by have := encode_ok w8 1 (by decide) w; rw [live_e] at this; exact this
  have HD : Hid (∀ w, Calls Try.prog 18 #[.int .i64 8, .agg #[.int .u64 0, .int .u8 19]] w fun e w' => e = .returned (.tuple #[.int .u64 1, .int .i64 1, .int .i64 0, .int .i64 0]) ∧ Below w.heap.size w w') := fun w => decode_ok w8 0 19 (by decide) (by decide) 1 1 0 0 live_d w
  have HL : Hid (∀ w, Calls Try.prog 24 #[.string ⟨#[55, 57, 57, 50, 55, 51, 57, 56, 55, 49]⟩] w fun e w' => e = .returned (.tuple #[.int .u8 51, .int .i64 0]) ∧ w' = w) := fun w => by have := luhn_ok lvA (by decide) live_a.1 w; rw [live_a.2] at this; exact this
  have HV : Hid (∀ w, Calls Try.prog 26 #[.string ⟨#[50, 51, 54]⟩] w fun e w' => e = .returned (.tuple #[.int .u8 51, .int .i64 0]) ∧ w' = w) := fun w => by have := verhoeff_ok lvB (by decide) live_b.1 w; rw [live_b.2] at this; exact this
  have HN : Hid (∀ w, Calls Try.prog 10 #[.int .i64 0] w fun e w' => e = .returned (.int .i64 0) ∧ w' = w) := fun w => no_any 0 w
  obtain ⟨hz, hsz⟩ := zero_of_info Try.zeroWd
  have HI : Hid ((Try.prog.info? 25).map (·.size) = some 2) := hsz
  clear hsz w8
  go_enter Try.func13, Try.ntmps13
  go_wp2_with (first | (go_at_call 14; refine (HE.out _).mono ?_; rintro e w1 ⟨rfl, hb1⟩) | (refine wpList_store_row rfl 25 _ _ rfl w1.heap.size (wdC 1 19) rfl rfl 25 #[.int .u64 0, .int .u8 0] (heap_alloc_last _ _) HI.out rfl (wd_one 1 19) ?_) | (go_at_call 18; refine (HD.out _).mono ?_; rintro e w2 ⟨rfl, hb2⟩; obtain ⟨c0, c1, hrow, hbel⟩ := wd_put hb1 hb2) | (go_at_call 24; refine (HL.out _).mono ?_; rintro e w3 ⟨rfl, hb3⟩) | (go_at_call 26; refine (HV.out _).mono ?_; rintro e w3 ⟨rfl, hb3⟩) | (go_at_call 10; refine (HN.out _).mono ?_; rintro e w3 ⟨rfl, hb3⟩))
  go_ret
  exact ⟨rfl, hbel⟩
end Go.Proofs.Ytjmaejdkdpiigaa
