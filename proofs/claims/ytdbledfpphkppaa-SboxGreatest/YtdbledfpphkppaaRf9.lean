/- What the document's Mix, Unmix and Column answer. -/
import Derived.Test.YtdbledfpphkppaaRf8
namespace Go.Proofs.Ytdbledfpphkppaa
open Go.RowKit
set_option linter.unusedVariables false

def mixM (i : Nat) : UInt8 := [2, 3, 1, 1].getD i 0
def unmM (i : Nat) : UInt8 := [14, 11, 13, 9].getD i 0
theorem mixM_row : colR mixM = #[.int .u8 2, .int .u8 3, .int .u8 1, .int .u8 1] := rfl
theorem unmM_row : colR unmM = #[.int .u8 14, .int .u8 11, .int .u8 13, .int .u8 9] := rfl
theorem two_blocks (w : World) (C C0 : Array Value) (ty : TypeId) : ((w.alloc (.cells C ty)).alloc (.cells C0 ty)).heap[w.heap.size]? = some (.cells C ty (0, 0))
    ∧ ((w.alloc (.cells C ty)).alloc (.cells C0 ty)).heap[w.heap.size + 1]? = some (.cells C0 ty (0, 0)) ∧ Below w.heap.size w ((w.alloc (.cells C ty)).alloc (.cells C0 ty)) ∧ ((w.alloc (.cells C ty)).alloc (.cells C0 ty)).heap.size = w.heap.size + 2 := by
  have sz : ∀ (w : World) o, (w.alloc o).heap.size = w.heap.size + 1 := fun w o => by simp
  refine ⟨?_, ?_, (((Below.refl _ _).alloc (Nat.le_refl _) _).alloc (by rw [sz]; omega) _), by rw [sz, sz]⟩
  · rw [Below.heap_alloc _ _ _ (by rw [sz]; omega)]; exact heap_alloc_last _ _
  · have := heap_alloc_last (w.alloc (.cells C ty)) (.cells C0 ty); rw [sz] at this; exact this

theorem colR_lit (c : Nat → UInt8) : colR c = #[.int .u8 ((c 0).toNat : Int), .int .u8 ((c 1).toNat : Int), .int .u8 ((c 2).toNat : Int), .int .u8 ((c 3).toNat : Int)] := rfl
theorem Try.zero22' : (Try.prog.info? 22).map (fun i => (i.zero, i.size)) = some (some (.agg #[.int .u8 0, .int .u8 0, .int .u8 0, .int .u8 0]), 4) := by kernel_rfl
set_option maxRecDepth 100000 in
set_option maxHeartbeats 400000 in
theorem refMix_any (c : Nat → UInt8) (w : World) : Calls Try.prog 16 #[.agg (colR c)] w fun e w' => e = .returned (.agg (colR (mixS c mixM))) ∧ Below w.heap.size w w' := by
  have HM := hidD (fun w => refMixed_any c mixM w)
  rw [mixM_row, colR_lit c, colR_lit (mixS c mixM)] at HM
  have HONE : Hid ((colR (mixS c mixM)).all (·.oneCell') = true) := rowZ_one _ _ _
  rw [colR_lit (mixS c mixM)] at HONE
  rw [colR_lit c, colR_lit (mixS c mixM)]
  obtain ⟨hz, hsz⟩ := zero_of_info Try.zero22'
  generalize ((c 0).toNat : Int) = c0 at *
  generalize ((c 1).toNat : Int) = c1 at *
  generalize ((c 2).toNat : Int) = c2 at *
  generalize ((c 3).toNat : Int) = c3 at *
  generalize ((mixS c mixM 0).toNat : Int) = r0 at *
  generalize ((mixS c mixM 1).toNat : Int) = r1 at *
  generalize ((mixS c mixM 2).toNat : Int) = r2 at *
  generalize ((mixS c mixM 3).toNat : Int) = r3 at *
  obtain ⟨b1, b2, b3, b4⟩ := two_blocks w #[.int .u8 c0, .int .u8 c1, .int .u8 c2, .int .u8 c3] #[.int .u8 0, .int .u8 0, .int .u8 0, .int .u8 0] 22
  have B2 := hidD b2
  have B3 := hidD b3
  have B4 := hidD b4
  clear b1 b2 b3 b4
  go_enter Try.func16, Try.ntmps16
  go_wp2_with (first | (go_at_call 47; refine (HM.out _).mono ?_; rintro e w3 ⟨rfl, hb3⟩; have HB3 := hidD hb3; clear hb3; have HO : Hid (w3.heap[w.heap.size + 1]? = some (.cells #[.int .u8 0, .int .u8 0, .int .u8 0, .int .u8 0] (22 : TypeId) (0, 0))) := (HB3.out.block _ (by rw [B4.out]; omega)).trans B2.out) | (refine wpList_store_row rfl 22 _ _ rfl (w.heap.size + 1) #[.int .u8 r0, .int .u8 r1, .int .u8 r2, .int .u8 r3] rfl rfl 22 #[.int .u8 0, .int .u8 0, .int .u8 0, .int .u8 0] HO.out (by rw [hsz]; rfl) rfl HONE.out ?_))
  refine bodyPost_ret (results_cell_row (P := Try.prog) (p := 2) (ty := 22) (by kernel_rfl) _ _ (w.heap.size + 1) 22 #[.int .u8 r0, .int .u8 r1, .int .u8 r2, .int .u8 r3] (0, 0) _ rfl (setRow_heap _ _ #[.int .u8 0, .int .u8 0, .int .u8 0, .int .u8 0] #[.int .u8 r0, .int .u8 r1, .int .u8 r2, .int .u8 r3] 22 (0, 0) HO.out) Try.underlying22 rfl (by rw [hsz]; rfl)) rfl ?_
  exact ⟨rfl, below_setRow (B3.out.trans (HB3.out.mono (by rw [B4.out]; omega))) (by omega) _⟩
set_option maxRecDepth 100000 in
set_option maxHeartbeats 400000 in
theorem refUnmix_any (c : Nat → UInt8) (w : World) : Calls Try.prog 18 #[.agg (colR c)] w fun e w' => e = .returned (.agg (colR (mixS c unmM))) ∧ Below w.heap.size w w' := by
  have HM := hidD (fun w => refMixed_any c unmM w)
  rw [unmM_row, colR_lit c, colR_lit (mixS c unmM)] at HM
  have HONE : Hid ((colR (mixS c unmM)).all (·.oneCell') = true) := rowZ_one _ _ _
  rw [colR_lit (mixS c unmM)] at HONE
  rw [colR_lit c, colR_lit (mixS c unmM)]
  obtain ⟨hz, hsz⟩ := zero_of_info Try.zero22'
  generalize ((c 0).toNat : Int) = c0 at *
  generalize ((c 1).toNat : Int) = c1 at *
  generalize ((c 2).toNat : Int) = c2 at *
  generalize ((c 3).toNat : Int) = c3 at *
  generalize ((mixS c unmM 0).toNat : Int) = r0 at *
  generalize ((mixS c unmM 1).toNat : Int) = r1 at *
  generalize ((mixS c unmM 2).toNat : Int) = r2 at *
  generalize ((mixS c unmM 3).toNat : Int) = r3 at *
  obtain ⟨b1, b2, b3, b4⟩ := two_blocks w #[.int .u8 c0, .int .u8 c1, .int .u8 c2, .int .u8 c3] #[.int .u8 0, .int .u8 0, .int .u8 0, .int .u8 0] 22
  have B2 := hidD b2
  have B3 := hidD b3
  have B4 := hidD b4
  clear b1 b2 b3 b4
  go_enter Try.func18, Try.ntmps18
  go_wp2_with (first | (go_at_call 47; refine (HM.out _).mono ?_; rintro e w3 ⟨rfl, hb3⟩; have HB3 := hidD hb3; clear hb3; have HO : Hid (w3.heap[w.heap.size + 1]? = some (.cells #[.int .u8 0, .int .u8 0, .int .u8 0, .int .u8 0] (22 : TypeId) (0, 0))) := (HB3.out.block _ (by rw [B4.out]; omega)).trans B2.out) | (refine wpList_store_row rfl 22 _ _ rfl (w.heap.size + 1) #[.int .u8 r0, .int .u8 r1, .int .u8 r2, .int .u8 r3] rfl rfl 22 #[.int .u8 0, .int .u8 0, .int .u8 0, .int .u8 0] HO.out (by rw [hsz]; rfl) rfl HONE.out ?_))
  refine bodyPost_ret (results_cell_row (P := Try.prog) (p := 2) (ty := 22) (by kernel_rfl) _ _ (w.heap.size + 1) 22 #[.int .u8 r0, .int .u8 r1, .int .u8 r2, .int .u8 r3] (0, 0) _ rfl (setRow_heap _ _ #[.int .u8 0, .int .u8 0, .int .u8 0, .int .u8 0] #[.int .u8 r0, .int .u8 r1, .int .u8 r2, .int .u8 r3] 22 (0, 0) HO.out) Try.underlying22 rfl (by rw [hsz]; rfl)) rfl ?_
  exact ⟨rfl, below_setRow (B3.out.trans (HB3.out.mono (by rw [B4.out]; omega))) (by omega) _⟩
end Go.Proofs.Ytdbledfpphkppaa
