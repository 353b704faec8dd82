/- What the document's Encode answers of what has no word, and both Distances of what is no word. -/
import Derived.Test.YtjmaejdkdpiigaaW4
import Derived.Test.YtjmaejdkdpiigaaE8
namespace Go.Proofs.Ytjmaejdkdpiigaa
open Go.RowKit
set_option linter.unusedVariables false

set_option maxRecDepth 100000 in
set_option maxHeartbeats 800000 in
theorem refEncode_no {x : Int} (h : NoWid x) (d : Nat) (w : World) : Calls Try.prog 15 #[.int .i64 x, .int .u64 (d : Int)] w fun e w' => e = .returned (.tuple #[.agg (wdC 0 0), .int .i64 1]) ∧ Below w.heap.size w w' := by
  have HC : Hid (∀ w, Calls Try.prog 9 #[.int .i64 x] w fun e w' => e = .returned (.tuple #[.int .i64 0, .int .i64 1]) ∧ w' = w) := fun w => refChecks_no h w
  have HB : Hid (∀ cs, Below w.heap.size w ((w.alloc (.cells #[.int .u64 0, .int .u8 0] 26)).setRow w.heap.size cs)) := fun cs => below_setRow ((Below.refl _ _).alloc (Nat.le_refl _) _) (Nat.le_refl _) cs
  have HR : Hid ((w.alloc (.cells #[.int .u64 0, .int .u8 0] (26 : TypeId))).heap[w.heap.size]? = some (.cells #[.int .u64 0, .int .u8 0] (26 : TypeId) (0, 0))) := heap_alloc_last _ _
  obtain ⟨hz, hsz⟩ := zero_of_info Try.zeroRw
  have HI : Hid ((Try.prog.info? 26).map (·.size) = some 2) := hsz
  clear hsz h
  go_enter Try.func15, Try.ntmps15
  go_wp2_with (first | (go_at_call 9; refine (HC.out _).mono ?_; rintro e w2 ⟨rfl, hb2⟩) | (refine wpList_store_row rfl 26 _ _ rfl w.heap.size (wdC 0 0) rfl rfl 26 #[.int .u64 0, .int .u8 0] HR.out HI.out rfl (wd_one 0 0) ?_))
  all_goals try (apply False.elim; apply undef_bool0; assumption)
  refine bodyPost_ret (v := .tuple #[.agg (wdC 0 0), .int .i64 1]) ?_ rfl ?_
  · exact res_word (p := 4) (u := 5) (by kernel_rfl) _ _ w.heap.size (wdC 0 0) rfl (setRow_heap _ _ _ _ _ _ HR.out) Try.underlying26 HI.out
  exact ⟨rfl, HB.out _⟩
set_option maxRecDepth 100000 in
set_option maxHeartbeats 800000 in
theorem refEncode_big {W r : Nat} (h : Wid W r) (d : Nat) (hd : ¬ d < 2 ^ W) (hd64 : d < 18446744073709551616) (w : World) : Calls Try.prog 15 #[.int .i64 (W : Int), .int .u64 (d : Int)] w fun e w' => e = .returned (.tuple #[.agg (wdC 0 0), .int .i64 1]) ∧ Below w.heap.size w w' := by
  have hr := h.le
  have HC : Hid (∀ w, Calls Try.prog 9 #[.int .i64 (W : Int)] w fun e w' => e = .returned (.tuple #[.int .i64 (r : Int), .int .i64 0]) ∧ w' = w) := fun w => refChecks_ok h w
  have hW : (W : Int) < 64 := by
    rcases Nat.lt_or_ge W 64 with h1 | h1
    · omega
    · obtain rfl : W = 64 := by omega
      exact absurd hd64 hd
  obtain ⟨Q, hQ⟩ : ∃ Q, d / 2 ^ W = Q := ⟨_, rfl⟩
  have hQ0 : 0 < Q := by rw [← hQ]; exact Nat.div_pos (by omega) (Nat.two_pow_pos _)
  have hq : (d : Int) / 2 ^ W = (Q : Int) := by rw [← hQ]; simp
  have hq2 : ((Q : Int) == 0) = false := beq_eq_false_iff_ne.mpr (by omega)
  have HB : Hid (∀ cs, Below w.heap.size w ((w.alloc (.cells #[.int .u64 0, .int .u8 0] 26)).setRow w.heap.size cs)) := fun cs => below_setRow ((Below.refl _ _).alloc (Nat.le_refl _) _) (Nat.le_refl _) cs
  have HR : Hid ((w.alloc (.cells #[.int .u64 0, .int .u8 0] (26 : TypeId))).heap[w.heap.size]? = some (.cells #[.int .u64 0, .int .u8 0] (26 : TypeId) (0, 0))) := heap_alloc_last _ _
  obtain ⟨hz, hsz⟩ := zero_of_info Try.zeroRw
  have HI : Hid ((Try.prog.info? 26).map (·.size) = some 2) := hsz
  clear hsz hd hQ h
  go_enter Try.func15, Try.ntmps15
  go_wp2_with (first | (go_at_call 9; refine (HC.out _).mono ?_; rintro e w2 ⟨rfl, hb2⟩) | (refine wpList_store_row rfl 26 _ _ rfl w.heap.size (wdC 0 0) rfl rfl 26 #[.int .u64 0, .int .u8 0] HR.out HI.out rfl (wd_one 0 0) ?_))
  refine bodyPost_ret (v := .tuple #[.agg (wdC 0 0), .int .i64 1]) ?_ rfl ?_
  · exact res_word (p := 4) (u := 5) (by kernel_rfl) _ _ w.heap.size (wdC 0 0) rfl (setRow_heap _ _ _ _ _ _ HR.out) Try.underlying26 HI.out
  exact ⟨rfl, HB.out _⟩
set_option maxRecDepth 100000 in
set_option maxHeartbeats 1600000 in
theorem refDistance_no (x : Int) (D C D' C' : Nat) (hbad : Hid (∀ w, Calls Try.prog 12 #[.int .i64 x, .agg (wdC D C)] w fun e w' => e = .returned (.bool false) ∧ Below w.heap.size w w') ∨ (Hid (∀ w, Calls Try.prog 12 #[.int .i64 x, .agg (wdC D C)] w fun e w' => e = .returned (.bool true) ∧ Below w.heap.size w w') ∧ Hid (∀ w, Calls Try.prog 12 #[.int .i64 x, .agg (wdC D' C')] w fun e w' => e = .returned (.bool false) ∧ Below w.heap.size w w'))) (w : World) : Calls Try.prog 23 #[.int .i64 x, .agg (wdC D C), .agg (wdC D' C')] w fun e w' => e = .returned (.tuple #[.int .i64 0, .int .i64 1]) ∧ Below w.heap.size w w' := by
  have HT := hidD (two_blocks w (wdC D C) (wdC D' C') 26)
  obtain ⟨hz, hsz⟩ := zero_of_info Try.zeroRw
  have HIw : Hid (∀ D C, (Try.prog.info? 26).map (·.size) = some (wdC D C).size) := fun _ _ => hsz
  clear hsz hz
  have hrow0 := HT.out.1
  have hrow1 := HT.out.2.1
  have HBL := hidD HT.out.2.2.1
  clear HT
  have HK0 : Hid (∀ w2, Below ((w.alloc (.cells (wdC D C) 26)).alloc (.cells (wdC D' C') 26)).heap.size ((w.alloc (.cells (wdC D C) 26)).alloc (.cells (wdC D' C') 26)) w2 → w2.heap[w.heap.size + 1]? = some (.cells (wdC D' C') 26 (0, 0)) ∧ Below w.heap.size w w2) := fun w2 hb => ⟨(hb.block _ (row_lt hrow1)).trans hrow1, Below.next HBL.out hb⟩
  rcases hbad with HV1 | ⟨HV1, HV2⟩
  · go_enter Try.func23, Try.ntmps23
    go_wp2_with (first | (refine wpList_load_row rfl 26 _ rfl w.heap.size rfl 26 (wdC D C) (0, 0) _ hrow0 Try.underlying26 rfl (HIw.out _ _) ?_) | fail)
    go_at_call 12
    refine (HV1.out _).mono ?_
    rintro e w2 ⟨rfl, hb2⟩
    obtain ⟨ha1, hba⟩ := HK0.out _ hb2
    have HBB := hidD hba
    clear hrow0 hrow1 HK0 HBL HV1 hb2 ha1 hba
    go_wp2_with fail
    all_goals try (apply False.elim; apply undef_bool0; assumption)
    go_ret2
    exact ⟨rfl, HBB.out⟩
  · go_enter Try.func23, Try.ntmps23
    go_wp2_with (first | (refine wpList_load_row rfl 26 _ rfl w.heap.size rfl 26 (wdC D C) (0, 0) _ hrow0 Try.underlying26 rfl (HIw.out _ _) ?_) | fail)
    go_at_call 12
    refine (HV1.out _).mono ?_
    rintro e w2 ⟨rfl, hb2⟩
    obtain ⟨ha1, hba⟩ := HK0.out _ hb2
    obtain ⟨k0, k1⟩ := wd_at ha1
    go_wp2_with fail
    go_at_call 12
    refine (HV2.out _).mono ?_
    rintro e w3 ⟨rfl, hb3⟩
    have HBB := hidD (Below.next hba hb3)
    clear k0 k1 hb2 hb3 ha1 hba hrow0 hrow1 HK0 HBL HV1 HV2
    go_wp2_with fail
    go_ret2
    exact ⟨rfl, HBB.out⟩
set_option maxRecDepth 100000 in
set_option maxHeartbeats 1600000 in
theorem distance_no (x : Int) (D C D' C' : Nat) (hbad : Hid (∀ w, Calls Try.prog 11 #[.int .i64 x, .agg (wdC D C)] w fun e w' => e = .returned (.bool false) ∧ Below w.heap.size w w') ∨ (Hid (∀ w, Calls Try.prog 11 #[.int .i64 x, .agg (wdC D C)] w fun e w' => e = .returned (.bool true) ∧ Below w.heap.size w w') ∧ Hid (∀ w, Calls Try.prog 11 #[.int .i64 x, .agg (wdC D' C')] w fun e w' => e = .returned (.bool false) ∧ Below w.heap.size w w'))) (w : World) : Calls Try.prog 22 #[.int .i64 x, .agg (wdC D C), .agg (wdC D' C')] w fun e w' => e = .returned (.tuple #[.int .i64 0, .int .i64 1]) ∧ Below w.heap.size w w' := by
  have HT := hidD (two_blocks w (wdC D C) (wdC D' C') 25)
  obtain ⟨hz, hsz⟩ := zero_of_info Try.zeroWd
  have HIw : Hid (∀ D C, (Try.prog.info? 25).map (·.size) = some (wdC D C).size) := fun _ _ => hsz
  clear hsz hz
  have hrow0 := HT.out.1
  have hrow1 := HT.out.2.1
  have HBL := hidD HT.out.2.2.1
  clear HT
  have HK0 : Hid (∀ w2, Below ((w.alloc (.cells (wdC D C) 25)).alloc (.cells (wdC D' C') 25)).heap.size ((w.alloc (.cells (wdC D C) 25)).alloc (.cells (wdC D' C') 25)) w2 → w2.heap[w.heap.size + 1]? = some (.cells (wdC D' C') 25 (0, 0)) ∧ Below w.heap.size w w2) := fun w2 hb => ⟨(hb.block _ (row_lt hrow1)).trans hrow1, Below.next HBL.out hb⟩
  rcases hbad with HV1 | ⟨HV1, HV2⟩
  · go_enter Try.func22, Try.ntmps22
    go_wp2_with (first | (refine wpList_load_row rfl 25 _ rfl w.heap.size rfl 25 (wdC D C) (0, 0) _ hrow0 Try.underlying25 rfl (HIw.out _ _) ?_) | fail)
    go_at_call 11
    refine (HV1.out _).mono ?_
    rintro e w2 ⟨rfl, hb2⟩
    obtain ⟨ha1, hba⟩ := HK0.out _ hb2
    have HBB := hidD hba
    clear hrow0 hrow1 HK0 HBL HV1 hb2 ha1 hba
    go_wp2_with fail
    all_goals try (apply False.elim; apply undef_bool0; assumption)
    go_ret2
    exact ⟨rfl, HBB.out⟩
  · go_enter Try.func22, Try.ntmps22
    go_wp2_with (first | (refine wpList_load_row rfl 25 _ rfl w.heap.size rfl 25 (wdC D C) (0, 0) _ hrow0 Try.underlying25 rfl (HIw.out _ _) ?_) | fail)
    go_at_call 11
    refine (HV1.out _).mono ?_
    rintro e w2 ⟨rfl, hb2⟩
    obtain ⟨ha1, hba⟩ := HK0.out _ hb2
    obtain ⟨k0, k1⟩ := wd_at ha1
    go_wp2_with fail
    go_at_call 11
    refine (HV2.out _).mono ?_
    rintro e w3 ⟨rfl, hb3⟩
    have HBB := hidD (Below.next hba hb3)
    clear k0 k1 hb2 hb3 ha1 hba hrow0 hrow1 HK0 HBL HV1 HV2
    go_wp2_with fail
    go_ret2
    exact ⟨rfl, HBB.out⟩
end Go.Proofs.Ytjmaejdkdpiigaa
