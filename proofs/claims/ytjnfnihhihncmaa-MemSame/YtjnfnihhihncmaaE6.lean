/- What Turn and Distance of ecc answer. -/
import Derived.Test.YtjnfnihhihncmaaE4
namespace Go.Proofs.Ytjnfnihhihncmaa
open Go.RowKit
set_option linter.unusedVariables false

theorem ones_split (d : Nat) (hd : d < 18446744073709551616) : onTo d 64 = onTo (d % 4294967296) 32 + onTo (d / 4294967296) 32 := by
  rw [show 64 = 32 + 32 from rfl, on_add, show 4294967296 = 2 ^ 32 from rfl, on_mod _ 32 32 (Nat.le_refl _)]

set_option maxRecDepth 100000 in
set_option maxHeartbeats 1600000 in
theorem turn_no (x : Int) (D C : Nat) (bit : Int) (r : Int) (er : Int) (HC : Hid (∀ w, Calls Try.prog 75 #[.int .i64 x] w fun e w' => e = .returned (.tuple #[.int .i64 r, .int .i64 er]) ∧ w' = w)) (hbad : er = 1 ∨ (er = 0 ∧ Hid (∀ w, Calls Try.prog 58 #[.int .i64 x, .agg (wdC D C)] w fun e w' => e = .returned (.bool false) ∧ Below w.heap.size w w')) ∨ (er = 0 ∧ Hid (∀ w, Calls Try.prog 58 #[.int .i64 x, .agg (wdC D C)] w fun e w' => e = .returned (.bool true) ∧ Below w.heap.size w w') ∧ 0 ≤ x ∧ x ≤ 64 ∧ 0 ≤ r ∧ r ≤ 8 ∧ (bit < 0 ∨ x + r < bit))) (w : World) : Calls Try.prog 57 #[.int .i64 x, .agg (wdC D C), .int .i64 bit] w fun e w' => e = .returned (.tuple #[.agg (wdC 0 0), .int .i64 1]) ∧ Below w.heap.size w w' := by
  have HT := hidD (two_blocks w (wdC D C) (wdC 0 0) 58)
  obtain ⟨hz, hsz⟩ := zero_of_info Try.zeroWd
  have HI : Hid ((Try.prog.info? 58).map (·.size) = some 2) := hsz
  clear hsz
  have HR1 : Hid (((w.alloc (.cells (wdC D C) (58 : TypeId))).alloc (.cells #[.int .u64 0, .int .u8 0] (58 : TypeId))).heap[w.heap.size]? = some (.cells (wdC D C) (58 : TypeId) (0, 0))) := HT.out.1
  have HR2 : Hid (((w.alloc (.cells (wdC D C) (58 : TypeId))).alloc (.cells #[.int .u64 0, .int .u8 0] (58 : TypeId))).heap[w.heap.size + 1]? = some (.cells #[.int .u64 0, .int .u8 0] (58 : TypeId) (0, 0))) := HT.out.2.1
  have HB : Hid (Below w.heap.size w ((w.alloc (.cells (wdC D C) (58 : TypeId))).alloc (.cells #[.int .u64 0, .int .u8 0] (58 : TypeId)))) := HT.out.2.2.1
  have HN : Hid (∀ w2, Below ((w.alloc (.cells (wdC D C) (58 : TypeId))).alloc (.cells #[.int .u64 0, .int .u8 0] (58 : TypeId))).heap.size ((w.alloc (.cells (wdC D C) (58 : TypeId))).alloc (.cells #[.int .u64 0, .int .u8 0] (58 : TypeId))) w2 → w2.heap[w.heap.size + 1]? = some (.cells #[.int .u64 0, .int .u8 0] (58 : TypeId) (0, 0)) ∧ Below w.heap.size w w2) := fun w2 hb => ⟨(hb.block _ (row_lt HT.out.2.1)).trans HT.out.2.1, Below.next HT.out.2.2.1 hb⟩
  clear HT
  rcases hbad with he | ⟨he, HV⟩ | ⟨he, HV, b1, b2, b3, b4, hb⟩
  · subst he
    go_enter Try.func57, Try.ntmps57
    go_wp2_with (first | (go_at_call 75; refine (HC.out _).mono ?_; rintro e w2 ⟨rfl, hb2⟩) | (refine wpList_store_row rfl 58 _ _ rfl (w.heap.size + 1) (wdC 0 0) (by first | rfl | simp) rfl 58 #[.int .u64 0, .int .u8 0] HR2.out HI.out rfl (wd_one 0 0) ?_))
    refine bodyPost_ret (v := .tuple #[.agg (wdC 0 0), .int .i64 1]) ?_ rfl ?_
    · exact res_word (p := 6) (u := 7) (by kernel_rfl) _ _ (w.heap.size + 1) (wdC 0 0) (by first | rfl | simp) (setRow_heap _ _ _ _ _ _ HR2.out) Try.underlying58 HI.out
    · exact ⟨rfl, below_setRow HB.out (Nat.le_succ _) _⟩
  · subst he
    go_enter Try.func57, Try.ntmps57
    go_wp2_with (first | (go_at_call 75; refine (HC.out _).mono ?_; rintro e w2 ⟨rfl, hb2⟩) | (go_at_call 58; refine (HV.out _).mono ?_; rintro e w3 ⟨rfl, hb3⟩; obtain ⟨hr3, hb4⟩ := HN.out _ hb3) | (refine wpList_load_row rfl 58 _ rfl w.heap.size rfl 58 (wdC D C) (0, 0) _ HR1.out Try.underlying58 rfl HI.out ?_) | (refine wpList_store_row rfl 58 _ _ rfl (w.heap.size + 1) (wdC 0 0) (by first | rfl | simp) rfl 58 #[.int .u64 0, .int .u8 0] (by assumption) HI.out rfl (wd_one 0 0) ?_))
    refine bodyPost_ret (v := .tuple #[.agg (wdC 0 0), .int .i64 1]) ?_ rfl ?_
    · exact res_word (p := 6) (u := 7) (by kernel_rfl) _ _ (w.heap.size + 1) (wdC 0 0) (by first | rfl | simp) (setRow_heap _ _ _ _ _ _ hr3) Try.underlying58 HI.out
    · exact ⟨rfl, below_setRow hb4 (Nat.le_succ _) _⟩
  · subst he
    rcases hb with hb | hb
    · go_enter Try.func57, Try.ntmps57
      go_wp2_with (first | (go_at_call 75; refine (HC.out _).mono ?_; rintro e w2 ⟨rfl, hb2⟩) | (go_at_call 58; refine (HV.out _).mono ?_; rintro e w3 ⟨rfl, hb3⟩; obtain ⟨hr3, hb4⟩ := HN.out _ hb3) | (refine wpList_load_row rfl 58 _ rfl w.heap.size rfl 58 (wdC D C) (0, 0) _ HR1.out Try.underlying58 rfl HI.out ?_) | (refine wpList_store_row rfl 58 _ _ rfl (w.heap.size + 1) (wdC 0 0) (by first | rfl | simp) rfl 58 #[.int .u64 0, .int .u8 0] (by assumption) HI.out rfl (wd_one 0 0) ?_))
      refine bodyPost_ret (v := .tuple #[.agg (wdC 0 0), .int .i64 1]) ?_ rfl ?_
      · exact res_word (p := 6) (u := 7) (by kernel_rfl) _ _ (w.heap.size + 1) (wdC 0 0) (by first | rfl | simp) (setRow_heap _ _ _ _ _ _ hr3) Try.underlying58 HI.out
      · exact ⟨rfl, below_setRow hb4 (Nat.le_succ _) _⟩
    · have hnb : ¬ bit < 0 := by omega
      go_enter Try.func57, Try.ntmps57
      go_wp2_with (first | (go_at_call 75; refine (HC.out _).mono ?_; rintro e w2 ⟨rfl, hb2⟩) | (go_at_call 58; refine (HV.out _).mono ?_; rintro e w3 ⟨rfl, hb3⟩; obtain ⟨hr3, hb4⟩ := HN.out _ hb3) | (refine wpList_load_row rfl 58 _ rfl w.heap.size rfl 58 (wdC D C) (0, 0) _ HR1.out Try.underlying58 rfl HI.out ?_) | (refine wpList_store_row rfl 58 _ _ rfl (w.heap.size + 1) (wdC 0 0) (by first | rfl | simp) rfl 58 #[.int .u64 0, .int .u8 0] (by assumption) HI.out rfl (wd_one 0 0) ?_))
      refine bodyPost_ret (v := .tuple #[.agg (wdC 0 0), .int .i64 1]) ?_ rfl ?_
      · exact res_word (p := 6) (u := 7) (by kernel_rfl) _ _ (w.heap.size + 1) (wdC 0 0) (by first | rfl | simp) (setRow_heap _ _ _ _ _ _ hr3) Try.underlying58 HI.out
      · exact ⟨rfl, below_setRow hb4 (Nat.le_succ _) _⟩
end Go.Proofs.Ytjnfnihhihncmaa
