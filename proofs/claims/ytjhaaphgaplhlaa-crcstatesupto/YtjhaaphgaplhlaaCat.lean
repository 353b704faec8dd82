/- What model32, Catalogue and Find of the program answer. -/
import Derived.Test.YtjhaaphgaplhlaaSm
namespace Go.Proofs.Ytjhaaphgaplhlaa
open Go.RowKit
set_option linter.unusedVariables false

/-- The catalogue. -/
def catL : List Md :=
  [⟨⟨#[67, 82, 67, 45, 56, 47, 83, 77, 66, 85, 83]⟩, 8, 7, 0, false, false, 0⟩,
   ⟨⟨#[67, 82, 67, 45, 49, 54, 47, 65, 82, 67]⟩, 16, 32773, 0, true, true, 0⟩,
   ⟨⟨#[67, 82, 67, 45, 49, 54, 47, 88, 77, 79, 68, 69, 77]⟩, 16, 4129, 0, false, false, 0⟩,
   ⟨⟨#[67, 82, 67, 45, 49, 54, 47, 73, 66, 77, 45, 51, 55, 52, 48]⟩, 16, 4129, 65535, false, false, 0⟩,
   ⟨⟨#[67, 82, 67, 45, 49, 54, 47, 75, 69, 82, 77, 73, 84]⟩, 16, 4129, 0, true, true, 0⟩,
   ⟨⟨#[67, 82, 67, 45, 50, 52, 47, 79, 80, 69, 78, 80, 71, 80]⟩, 24, 8801531, 11994318, false, false, 0⟩,
   ⟨⟨#[67, 82, 67, 45, 51, 50, 47, 73, 83, 79, 45, 72, 68, 76, 67]⟩, 32, 79764919, 4294967295, true, true, 4294967295⟩,
   ⟨⟨#[67, 82, 67, 45, 51, 50, 47, 66, 90, 73, 80, 50]⟩, 32, 79764919, 4294967295, false, false, 4294967295⟩,
   ⟨⟨#[67, 82, 67, 45, 51, 50, 47, 73, 83, 67, 83, 73]⟩, 32, 517762881, 4294967295, true, true, 4294967295⟩,
   ⟨⟨#[67, 82, 67, 45, 54, 52, 47, 88, 90]⟩, 64, 4823603603198064275, 18446744073709551615, true, true, 18446744073709551615⟩]
def md0 : Md := ⟨⟨#[]⟩, 0, 0, 0, false, false, 0⟩
def m32 : Md := catL.getD 6 md0
def catC : Array Value := (catL.flatMap fun m => m.cells.toList).toArray

set_option maxRecDepth 100000 in
set_option maxHeartbeats 400000 in
theorem model32_any (w : World) : Calls Try.prog 46 #[] w fun e w' => e = .returned m32.v ∧ Below w.heap.size w w' := by
  have HB : Hid (∀ o, Below w.heap.size w (w.alloc o)) := fun o => (Below.refl w.heap.size w).alloc (Nat.le_refl _) o
  go_enter Try.func46, Try.ntmps46
  go_wp2_with fail
  refine bodyPost_ret (v := m32.v) (by simp [results, Try.results46, go_sem, m32, catL, Md.v]) rfl ⟨rfl, HB.out _⟩

set_option maxRecDepth 100000 in
set_option maxHeartbeats 400000 in
theorem catalogue_any (w : World) : Calls Try.prog 14 #[] w fun e w' => ∃ g, e = .returned (.slice (some ⟨g, 0, none⟩) 10 10) ∧ w.heap.size ≤ g ∧ w'.heap[g]? = some (.cells catC 35 (0, 0)) ∧ Below w.heap.size w w' := by
  have HM := hidD model32_any
  go_enter Try.func14, Try.ntmps14
  go_wp2_with (go_at_call 46; refine (HM.out _).mono ?_; rintro e w2 ⟨rfl, hb2⟩; simp only [m32, catL, Md.v, List.getD_cons_succ, List.getD_cons_zero])
  go_ret
  exact ⟨w2.heap.size, rfl, hb2.size, heap_alloc_last _ _, hb2.alloc hb2.size _⟩
end Go.Proofs.Ytjhaaphgaplhlaa
