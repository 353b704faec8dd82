/- cellOf; Counts. -/
import Derived.Test.YtjnfnihhihncmaaMmd
namespace Go.Proofs.Ytjnfnihhihncmaa
open Go.RowKit
set_option linter.unusedVariables false

set_option maxRecDepth 100000 in
set_option maxHeartbeats 800000 in
theorem cellOf_any (b : Nat) (hb : b < 256) (w : World) : Calls Try.prog 54 #[.int .u8 (b : Int)] w fun e w' => e = .returned (.agg (wdC (encZ b).1 (encZ b).2)) ∧ Below w.heap.size w w' := by
  have HE : Hid (∀ w, Calls Try.prog 74 #[.int .i64 8, .int .u64 (b : Int)] w fun e w' => e = .returned (.tuple #[.agg (wdC b (encS 8 4 b)), .int .i64 0]) ∧ Below w.heap.size w w') := fun w => encode_ok wid8 b hb w
  show Calls Try.prog 54 #[.int .u8 (b : Int)] w fun e w' => e = .returned (.agg (wdC b (encS 8 4 b))) ∧ Below w.heap.size w w'
  generalize encS 8 4 b = E at *
  have HR : Hid ((w.alloc (.cells #[.int .u64 0, .int .u8 0] (58 : TypeId))).heap[w.heap.size]? = some (.cells #[.int .u64 0, .int .u8 0] (58 : TypeId) (0, 0))) := heap_alloc_last _ _
  have HB1 : Hid (Below w.heap.size w (w.alloc (.cells #[.int .u64 0, .int .u8 0] (58 : TypeId)))) := (Below.refl _ _).alloc (Nat.le_refl _) _
  obtain ⟨hz, hsz⟩ := zero_of_info Try.zeroWd
  have HI : Hid ((Try.prog.info? 58).map (·.size) = some 2) := hsz
  clear hsz
  have hcv : (b : Int) % 18446744073709551616 = b := by omega
  unfold wdC at HE
  go_enter Try.func54, Try.ntmps54
  go_wp2_with (first
    | (go_at_call 74; refine (HE.out _).mono ?_; rintro e w2 ⟨rfl, hb2⟩
       have HA : Hid (Below w2.heap.size w2 (w2.alloc (.cells #[.int .u64 (b : Int), .int .u8 (E : Int)] 58))) := (Below.refl _ _).alloc (Nat.le_refl _) _
       have HA2 := hidD (heap_alloc_last w2 (.cells #[.int .u64 (b : Int), .int .u8 (E : Int)] 58))
       have HB2 := hidD (HB1.out.trans (hb2.mono HB1.out.size))
       have HB3 := hidD (HB2.out.trans (HA.out.mono HB2.out.size))
       have HR3 := hidD ((HA.out.block _ (Nat.lt_of_lt_of_le (row_lt HR.out) hb2.size)).trans ((hb2.block _ (row_lt HR.out)).trans HR.out))
       clear hb2)
    | (refine wpList_store_row rfl 58 _ _ rfl w.heap.size (wdC b E) rfl rfl 58 #[.int .u64 0, .int .u8 0] HR3.out HI.out rfl (wd_one b E) ?_))
  refine bodyPost_ret (v := .agg (wdC b E)) ?_ rfl ?_
  · exact results_cell_row (p := 2) (ty := 58) (by kernel_rfl) _ _ w.heap.size 58 (wdC b E) (0, 0) _ rfl (setRow_heap _ _ _ _ _ _ HR3.out) Try.underlying58 rfl HI.out
  exact ⟨rfl, below_setRow HB3.out (Nat.le_refl _) _⟩
set_option maxRecDepth 100000 in
theorem counts_nil (w : World) : Calls Try.prog 14 #[.pointer none] w fun e w' => e = .returned (.tuple #[.int .i64 0, .int .i64 0]) ∧ Below w.heap.size w w' := by
  go_enter Try.func14, Try.ntmps14
  go_wp2_with fail
  refine bodyPost_ret (v := .tuple #[.int .i64 0, .int .i64 0]) (by simp [results, Try.results14, go_sem]) rfl ?_
  exact ⟨rfl, Below.refl _ _⟩
set_option maxRecDepth 100000 in
theorem counts_any {w : World} {k : Mk} {Z : Nat → Nat × Nat} {x y : Int} (h : MeAt w k Z x y) : Calls Try.prog 14 #[.pointer (some ⟨k.m, 0, none⟩)] w fun e w' => e = .returned (.tuple #[.int .i64 x, .int .i64 y]) ∧ Below w.heap.size w w' := by
  obtain ⟨c0, c1, c2, c3, c4⟩ := h.cells
  have HW := hidD (Below.refl w.heap.size w)
  clear h c0 c1 c2
  generalize k.m = m at *
  go_enter Try.func14, Try.ntmps14
  go_wp2_with fail
  go_quiet (fail)
  go_wp2_with fail
  refine bodyPost_ret (v := .tuple #[.int .i64 x, .int .i64 y]) (by simp [results, Try.results14, go_sem]) rfl ?_
  exact ⟨rfl, below_drewN HW.out _⟩
end Go.Proofs.Ytjnfnihhihncmaa
