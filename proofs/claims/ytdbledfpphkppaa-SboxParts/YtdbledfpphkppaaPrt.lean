/- SboxParts, walked. -/
import Derived.Test.YtdbledfpphkppaaAlv
namespace Go.Proofs.Ytdbledfpphkppaa
open Go.RowKit
set_option linter.unusedVariables false

theorem low_call {f : FuncId} {args : Array Value} {w : World} {v : Value} (h : Calls Try.prog f args w fun e w' => e = .returned v ∧ w' = w) : Calls Try.prog f args w fun e w' => e = .returned v ∧ Below w.heap.size w w' := h.mono fun e w' h => ⟨h.1, by rw [h.2]; exact Below.refl _ _⟩
set_option maxRecDepth 100000 in
set_option maxHeartbeats 2000000 in
theorem parts_any (b : UInt8) (c : Nat → UInt8) (n : Int) (hn : n < 9223372036854775808) (w : World) : Calls Try.prog 3 #[.int .u8 (b.toNat : Int), .agg (colR c), .int .i64 n] w fun e w' => e = .returned (.bool true) ∧ Below w.heap.size w w' := by
  have H1 := hidD (fun w => pAffine_any b w)
  have H2 := hidD (fun w => low_call (refAffine_any b w))
  have H3 := hidD (fun w => pSub_any b w)
  have H4 := hidD (fun w => refSub_any b w)
  have H5 := hidD (fun w => pUnsub_any b w)
  have H6 := hidD (fun w => refUnsub_any b w)
  have H7 := hidD (fun w => pMix_any c w)
  have H8 := hidD (fun w => refMix_any c w)
  have H9 := hidD (fun w => pUnmix_any c w)
  have H10 := hidD (fun w => refUnmix_any c w)
  have H11 := hidD (fun w => pColumn_any b w)
  have H12 := hidD (fun w => refColumn_any b w)
  have H13 := hidD (fun w => pRound_any n hn w)
  have H14 := hidD (fun w => low_call (refRound_any n hn w))
  have H15 := hidD (fun w => alive_any w)
  have hcs := col_cells (a := .int .u8 ((c 0).toNat : Int)) (b := .int .u8 ((c 1).toNat : Int)) (c := .int .u8 ((c 2).toNat : Int)) (d := .int .u8 ((c 3).toNat : Int)) (heap_alloc_last w (.cells #[.int .u8 ((c 0).toNat : Int), .int .u8 ((c 1).toNat : Int), .int .u8 ((c 2).toNat : Int), .int .u8 ((c 3).toNat : Int)] (22 : TypeId)))
  have HAL : Hid (∀ o, Below w.heap.size w (w.alloc o)) := fun o => (Below.refl _ _).alloc (Nat.le_refl _) o
  have hsl : w.heap.size < (w.alloc (.cells #[.int .u8 ((c 0).toNat : Int), .int .u8 ((c 1).toNat : Int), .int .u8 ((c 2).toNat : Int), .int .u8 ((c 3).toNat : Int)] (22 : TypeId))).heap.size := by simp
  rw [colR_lit c, colR_lit (mixS c mixM)] at H7 H8
  rw [colR_lit c, colR_lit (mixS c unmM)] at H9 H10
  rw [colR_lit c]
  clear hn
  generalize ((affS b).toNat : Int) = r1 at *
  generalize ((subS b).toNat : Int) = r2 at *
  generalize (unsS b : Int) = r3 at *
  generalize (colS b : Int) = r4 at *
  generalize (rndS n : Int) = r5 at *
  generalize (b.toNat : Int) = B at *
  generalize ((c 0).toNat : Int) = c0 at *
  generalize ((c 1).toNat : Int) = c1 at *
  generalize ((c 2).toNat : Int) = c2 at *
  generalize ((c 3).toNat : Int) = c3 at *
  generalize ((mixS c mixM 0).toNat : Int) = m0 at *
  generalize ((mixS c mixM 1).toNat : Int) = m1 at *
  generalize ((mixS c mixM 2).toNat : Int) = m2 at *
  generalize ((mixS c mixM 3).toNat : Int) = m3 at *
  generalize ((mixS c unmM 0).toNat : Int) = q0 at *
  generalize ((mixS c unmM 1).toNat : Int) = q1 at *
  generalize ((mixS c unmM 2).toNat : Int) = q2 at *
  generalize ((mixS c unmM 3).toNat : Int) = q3 at *
  obtain ⟨k0, k1, k2, k3⟩ := hcs
  go_enter Try.func3, Try.ntmps3
  go_wp2_with fail
  have hb1 := HAL.out (.cells #[.int .u8 c0, .int .u8 c1, .int .u8 c2, .int .u8 c3] (22 : TypeId))
  generalize w.alloc (.cells #[.int .u8 c0, .int .u8 c1, .int .u8 c2, .int .u8 c3] (22 : TypeId)) = W at *
  have j0 : ∀ i : BW W, i.v.cell? ⟨w.heap.size, 0, none⟩ = some (.int .u8 c0) := fun i => (i.cell hsl).trans k0
  have j1 : ∀ i : BW W, i.v.cell? ⟨w.heap.size, 1, none⟩ = some (.int .u8 c1) := fun i => (i.cell hsl).trans k1
  have j2 : ∀ i : BW W, i.v.cell? ⟨w.heap.size, 2, none⟩ = some (.int .u8 c2) := fun i => (i.cell hsl).trans k2
  have j3 : ∀ i : BW W, i.v.cell? ⟨w.heap.size, 3, none⟩ = some (.int .u8 c3) := fun i => (i.cell hsl).trans k3
  have HB1 := hidD hb1
  clear hb1 k0 k1 k2 k3 hsl
  have heq := fun a b c d w => eq22 a b c d w
  refine wp_region_below (by kernel_rfl) (by kernel_rfl) ?_
  repeat (go_big_quiet_step (first | (go_at_call 9; exact Calls.below_of (H1.out _)) | (go_at_call 10; exact Calls.below_of (H2.out _)) | (go_at_call 11; exact Calls.below_of (H3.out _)) | (go_at_call 12; exact Calls.below_of (H4.out _)) | (go_at_call 13; exact Calls.below_of (H5.out _)) | (go_at_call 14; exact Calls.below_of (H6.out _)) | (go_at_call 15; exact Calls.below_of (H7.out _)) | (go_at_call 16; exact Calls.below_of (H8.out _)) | (go_at_call 17; exact Calls.below_of (H9.out _)) | (go_at_call 18; exact Calls.below_of (H10.out _)) | (go_at_call 19; exact Calls.below_of (H11.out _)) | (go_at_call 20; exact Calls.below_of (H12.out _)) | (go_at_call 21; exact Calls.below_of (H13.out _)) | (go_at_call 22; exact Calls.below_of (H14.out _)) | (go_at_call 23; exact Calls.below_of (H15.out _))))
  refine wpQuiet_nil ?_
  intro i
  go_wp2_with fail
  go_ret
  exact ⟨rfl, Below.next HB1.out i.below⟩
end Go.Proofs.Ytdbledfpphkppaa
