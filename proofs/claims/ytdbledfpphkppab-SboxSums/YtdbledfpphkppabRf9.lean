/- What the document's Mix, Unmix and Column answer. -/
import Derived.Test.YtdbledfpphkppabRf8
namespace Go.Proofs.Ytdbledfpphkppab
open Go.RowKit
set_option linter.unusedVariables false

def mixM (i : Nat) : UInt8 := [2, 3, 1, 1].getD i 0
def unmM (i : Nat) : UInt8 := [14, 11, 13, 9].getD i 0
theorem mixM_row : colR mixM = #[.int .u8 2, .int .u8 3, .int .u8 1, .int .u8 1] := rfl
theorem unmM_row : colR unmM = #[.int .u8 14, .int .u8 11, .int .u8 13, .int .u8 9] := rfl
theorem two_blocks (w : World) (C C0 : Array Value) (ty : TypeId) : ((w.alloc (.cells C ty)).alloc (.cells C0 ty)).heap[w.heap.size]? = some (.cells C ty (0, 0))
    ∧ ((w.alloc (.cells C ty)).alloc (.cells C0 ty)).heap[w.heap.size + 1]? = some (.cells C0 ty (0, 0)) ∧ Below w.heap.size w ((w.alloc (.cells C ty)).alloc (.cells C0 ty)) ∧ ((w.alloc (.cells C ty)).alloc (.cells C0 ty)).heap.size = w.heap.size + 2 := by
  have sz : ∀ (w : World) o, (w.alloc o).heap.size = w.heap.size + 1 := fun w o => by simp
  refine ⟨?_, ?_, (((Below.refl _ _).alloc (Nat.le_refl _) _).alloc (by rw [sz]; omega) _), by rw [sz, sz]⟩
  · rw [Below.heap_alloc _ _ _ (by rw [sz]; omega)]; exact heap_alloc_last _ _
  · have := heap_alloc_last (w.alloc (.cells C ty)) (.cells C0 ty); rw [sz] at this; exact this

theorem colR_lit (c : Nat → UInt8) : colR c = #[.int .u8 ((c 0).toNat : Int), .int .u8 ((c 1).toNat : Int), .int .u8 ((c 2).toNat : Int), .int .u8 ((c 3).toNat : Int)] := rfl
theorem Try.zero32' : (Try.prog.info? 32).map (fun i => (i.zero, i.size)) = some (some (.agg #[.int .u8 0, .int .u8 0, .int .u8 0, .int .u8 0]), 4) := by kernel_rfl
end Go.Proofs.Ytdbledfpphkppab
