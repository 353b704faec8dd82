/- What the document's Turn answers. -/
import Derived.Test.YtjmaejdkdpiigaaW4
import Derived.Test.YtjmaejdkdpiigaaE7
namespace Go.Proofs.Ytjmaejdkdpiigaa
open Go.RowKit
set_option linter.unusedVariables false

set_option maxRecDepth 100000 in
set_option maxHeartbeats 1600000 in
theorem refTurn_no (x : Int) (D C : Nat) (bit : Int) (r : Int) (er : Int) (HC : Hid (∀ w, Calls Try.prog 9 #[.int .i64 x] w fun e w' => e = .returned (.tuple #[.int .i64 r, .int .i64 er]) ∧ w' = w)) (hbad : er = 1 ∨ (er = 0 ∧ Hid (∀ w, Calls Try.prog 12 #[.int .i64 x, .agg (wdC D C)] w fun e w' => e = .returned (.bool false) ∧ Below w.heap.size w w')) ∨ (er = 0 ∧ Hid (∀ w, Calls Try.prog 12 #[.int .i64 x, .agg (wdC D C)] w fun e w' => e = .returned (.bool true) ∧ Below w.heap.size w w') ∧ 0 ≤ x ∧ x ≤ 64 ∧ 0 ≤ r ∧ r ≤ 8 ∧ (bit < 0 ∨ x + r < bit))) (w : World) : Calls Try.prog 21 #[.int .i64 x, .agg (wdC D C), .int .i64 bit] w fun e w' => e = .returned (.tuple #[.agg (wdC 0 0), .int .i64 1]) ∧ Below w.heap.size w w' := by
  have HT := hidD (two_blocks w (wdC D C) (wdC 0 0) 26)
  obtain ⟨hz, hsz⟩ := zero_of_info Try.zeroRw
  have HI : Hid ((Try.prog.info? 26).map (·.size) = some 2) := hsz
  clear hsz
  have HR1 : Hid (((w.alloc (.cells (wdC D C) (26 : TypeId))).alloc (.cells #[.int .u64 0, .int .u8 0] (26 : TypeId))).heap[w.heap.size]? = some (.cells (wdC D C) (26 : TypeId) (0, 0))) := HT.out.1
  have HR2 : Hid (((w.alloc (.cells (wdC D C) (26 : TypeId))).alloc (.cells #[.int .u64 0, .int .u8 0] (26 : TypeId))).heap[w.heap.size + 1]? = some (.cells #[.int .u64 0, .int .u8 0] (26 : TypeId) (0, 0))) := HT.out.2.1
  have HB : Hid (Below w.heap.size w ((w.alloc (.cells (wdC D C) (26 : TypeId))).alloc (.cells #[.int .u64 0, .int .u8 0] (26 : TypeId)))) := HT.out.2.2.1
  have HN : Hid (∀ w2, Below ((w.alloc (.cells (wdC D C) (26 : TypeId))).alloc (.cells #[.int .u64 0, .int .u8 0] (26 : TypeId))).heap.size ((w.alloc (.cells (wdC D C) (26 : TypeId))).alloc (.cells #[.int .u64 0, .int .u8 0] (26 : TypeId))) w2 → w2.heap[w.heap.size + 1]? = some (.cells #[.int .u64 0, .int .u8 0] (26 : TypeId) (0, 0)) ∧ Below w.heap.size w w2) := fun w2 hb => ⟨(hb.block _ (row_lt HT.out.2.1)).trans HT.out.2.1, Below.next HT.out.2.2.1 hb⟩
  clear HT
  obtain ⟨k0, k1⟩ := wd_at HR1.out
  rcases hbad with he | ⟨he, HV⟩ | ⟨he, HV, b1, b2, b3, b4, hb⟩
  · subst he
    go_enter Try.func21, Try.ntmps21
    go_wp2_with (first | (go_at_call 9; refine (HC.out _).mono ?_; rintro e w2 ⟨rfl, hb2⟩) | (refine wpList_store_row rfl 26 _ _ rfl (w.heap.size + 1) (wdC 0 0) (by first | rfl | simp) rfl 26 #[.int .u64 0, .int .u8 0] HR2.out HI.out rfl (wd_one 0 0) ?_))
    all_goals try (apply False.elim; apply undef_bool0; assumption)
    refine bodyPost_ret (v := .tuple #[.agg (wdC 0 0), .int .i64 1]) ?_ rfl ?_
    · exact res_word (p := 6) (u := 7) (by kernel_rfl) _ _ (w.heap.size + 1) (wdC 0 0) (by first | rfl | simp) (setRow_heap _ _ _ _ _ _ HR2.out) Try.underlying26 HI.out
    · exact ⟨rfl, below_setRow HB.out (Nat.le_succ _) _⟩
  · subst he
    go_enter Try.func21, Try.ntmps21
    go_wp2_with (first | (go_at_call 9; refine (HC.out _).mono ?_; rintro e w2 ⟨rfl, hb2⟩) | (go_at_call 12; refine (HV.out _).mono ?_; rintro e w3 ⟨rfl, hb3⟩; obtain ⟨hr3, hb4⟩ := HN.out _ hb3) | (refine wpList_load_row rfl 26 _ rfl w.heap.size rfl 26 (wdC D C) (0, 0) _ HR1.out Try.underlying26 rfl HI.out ?_) | (refine wpList_store_row rfl 26 _ _ rfl (w.heap.size + 1) (wdC 0 0) (by first | rfl | simp) rfl 26 #[.int .u64 0, .int .u8 0] (by assumption) HI.out rfl (wd_one 0 0) ?_))
    all_goals try (apply False.elim; apply undef_bool0; assumption)
    refine bodyPost_ret (v := .tuple #[.agg (wdC 0 0), .int .i64 1]) ?_ rfl ?_
    · exact res_word (p := 6) (u := 7) (by kernel_rfl) _ _ (w.heap.size + 1) (wdC 0 0) (by first | rfl | simp) (setRow_heap _ _ _ _ _ _ hr3) Try.underlying26 HI.out
    · exact ⟨rfl, below_setRow hb4 (Nat.le_succ _) _⟩
  · subst he
    rcases hb with hb | hb
    · go_enter Try.func21, Try.ntmps21
      go_wp2_with (first | (go_at_call 9; refine (HC.out _).mono ?_; rintro e w2 ⟨rfl, hb2⟩) | (go_at_call 12; refine (HV.out _).mono ?_; rintro e w3 ⟨rfl, hb3⟩; obtain ⟨hr3, hb4⟩ := HN.out _ hb3) | (refine wpList_load_row rfl 26 _ rfl w.heap.size rfl 26 (wdC D C) (0, 0) _ HR1.out Try.underlying26 rfl HI.out ?_) | (refine wpList_store_row rfl 26 _ _ rfl (w.heap.size + 1) (wdC 0 0) (by first | rfl | simp) rfl 26 #[.int .u64 0, .int .u8 0] (by assumption) HI.out rfl (wd_one 0 0) ?_))
      all_goals try (apply False.elim; apply undef_bool0; assumption)
      refine bodyPost_ret (v := .tuple #[.agg (wdC 0 0), .int .i64 1]) ?_ rfl ?_
      · exact res_word (p := 6) (u := 7) (by kernel_rfl) _ _ (w.heap.size + 1) (wdC 0 0) (by first | rfl | simp) (setRow_heap _ _ _ _ _ _ hr3) Try.underlying26 HI.out
      · exact ⟨rfl, below_setRow hb4 (Nat.le_succ _) _⟩
    · have hnb : ¬ bit < 0 := by omega
      go_enter Try.func21, Try.ntmps21
      go_wp2_with (first | (go_at_call 9; refine (HC.out _).mono ?_; rintro e w2 ⟨rfl, hb2⟩) | (go_at_call 12; refine (HV.out _).mono ?_; rintro e w3 ⟨rfl, hb3⟩; obtain ⟨hr3, hb4⟩ := HN.out _ hb3) | (refine wpList_load_row rfl 26 _ rfl w.heap.size rfl 26 (wdC D C) (0, 0) _ HR1.out Try.underlying26 rfl HI.out ?_) | (refine wpList_store_row rfl 26 _ _ rfl (w.heap.size + 1) (wdC 0 0) (by first | rfl | simp) rfl 26 #[.int .u64 0, .int .u8 0] (by assumption) HI.out rfl (wd_one 0 0) ?_))
      all_goals try (apply False.elim; apply undef_bool0; assumption)
      refine bodyPost_ret (v := .tuple #[.agg (wdC 0 0), .int .i64 1]) ?_ rfl ?_
      · exact res_word (p := 6) (u := 7) (by kernel_rfl) _ _ (w.heap.size + 1) (wdC 0 0) (by first | rfl | simp) (setRow_heap _ _ _ _ _ _ hr3) Try.underlying26 HI.out
      · exact ⟨rfl, below_setRow hb4 (Nat.le_succ _) _⟩
set_option maxRecDepth 100000 in
set_option maxHeartbeats 3200000 in
theorem refTurn_ok {W r : Nat} (h : Wid W r) (D C : Nat) (hD : D < 2 ^ W) (hC : C < 2 ^ (r + 1)) (a : Nat) (ha : a ≤ W + r) (w : World) : Calls Try.prog 21 #[.int .i64 (W : Int), .agg (wdC D C), .int .i64 (a : Int)] w fun e w' => e = .returned (.tuple #[.agg (wdC (turD W D a) (turC W C a)), .int .i64 0]) ∧ Below w.heap.size w w' := by
  have hr := h.le
  have hD64 : D < 18446744073709551616 := Nat.lt_of_lt_of_le hD (Nat.pow_le_pow_right (n := 2) (by decide) hr.1)
  have hC8 : C < 256 := Nat.lt_of_lt_of_le hC (Nat.pow_le_pow_right (n := 2) (by decide) (show r + 1 ≤ 8 by omega))
  have HV : Hid (∀ w, Calls Try.prog 12 #[.int .i64 (W : Int), .agg (wdC D C)] w fun e w' => e = .returned (.bool true) ∧ Below w.heap.size w w') := fun w => by have := refValid_any h D C hD64 hC8 w; rw [decide_eq_true ⟨hD, hC⟩] at this; exact this
  have HC : Hid (∀ w, Calls Try.prog 9 #[.int .i64 (W : Int)] w fun e w' => e = .returned (.tuple #[.int .i64 (r : Int), .int .i64 0]) ∧ w' = w) := fun w => refChecks_ok h w
  have HT := hidD (two_blocks w (wdC D C) (wdC 0 0) 26)
  obtain ⟨hz, hsz⟩ := zero_of_info Try.zeroRw
  have HI : Hid ((Try.prog.info? 26).map (·.size) = some 2) := hsz
  clear hsz
  have HR1 : Hid (((w.alloc (.cells (wdC D C) (26 : TypeId))).alloc (.cells #[.int .u64 0, .int .u8 0] (26 : TypeId))).heap[w.heap.size]? = some (.cells (wdC D C) (26 : TypeId) (0, 0))) := HT.out.1
  have HN : Hid (∀ w2, Below ((w.alloc (.cells (wdC D C) (26 : TypeId))).alloc (.cells #[.int .u64 0, .int .u8 0] (26 : TypeId))).heap.size ((w.alloc (.cells (wdC D C) (26 : TypeId))).alloc (.cells #[.int .u64 0, .int .u8 0] (26 : TypeId))) w2 → w2.heap[w.heap.size + 1]? = some (.cells #[.int .u64 0, .int .u8 0] (26 : TypeId) (0, 0)) ∧ w2.heap[w.heap.size]? = some (.cells (wdC D C) (26 : TypeId) (0, 0)) ∧ Below w.heap.size w w2) := fun w2 hb => ⟨(hb.block _ (row_lt HT.out.2.1)).trans HT.out.2.1, (hb.block _ (row_lt HT.out.1)).trans HT.out.1, Below.next HT.out.2.2.1 hb⟩
  clear HT hD hC
  obtain ⟨k0, k1⟩ := wd_at HR1.out
  have hnb : ¬ (a : Int) < 0 := by omega
  have hna : ¬ (W : Int) + (r : Int) < (a : Int) := by omega
  by_cases haW : a < W
  · have haWi : (a : Int) < (W : Int) := by omega
    have HE2 : turC W C a = C := by unfold turC; rw [if_pos haW]
    rw [HE2]
    clear HE2
    obtain ⟨R, hR⟩ : ∃ R, turD W D a = R := ⟨_, rfl⟩
    rw [hR]
    have HRR := hidD hR
    clear hR
    go_enter Try.func21, Try.ntmps21
    go_upto_region 5 with (first | (go_at_call 9; refine (HC.out _).mono ?_; rintro e w2 ⟨rfl, hb2⟩) | (go_at_call 12; refine (HV.out _).mono ?_; rintro e w3 ⟨rfl, hb3⟩) | (refine wpList_load_row rfl 26 _ rfl w.heap.size rfl 26 (wdC D C) (0, 0) _ HR1.out Try.underlying26 rfl HI.out ?_))
    all_goals try (apply False.elim; apply undef_bool0; assumption)
    obtain ⟨hr2, hr1, hb4⟩ := HN.out _ hb3
    have HR2 := hidD hr2
    have HR3 := hidD hr1
    have c0 : w3.cell? ⟨w.heap.size, 0, none⟩ = some (.int .u64 (D : Int)) := by rw [cell_of_row _ _ _ _ _ _ HR3.out]; rfl
    have c1 : w3.frozen? ⟨w.heap.size, 0, none⟩ = false := wd_froz HR3.out 0
    have HBB : Hid (Below w.heap.size w w3) := hb4
    clear hr1 hr2 hb3 hb4
    have h2A : 2 ^ a < 2 ^ 64 := Nat.pow_lt_pow_right (by decide) (by omega)
    have h2i : (2 : Int) ^ a = ((2 ^ a : Nat) : Int) := by simp
    have h2l : (2 : Int) ^ a < 18446744073709551616 := by rw [h2i]; omega
    have h2p : (0 : Int) < (2 : Int) ^ a := Int.pow_pos (by decide)
    have hm1 : (1 : Int) * 2 ^ a = 2 ^ a := Int.one_mul _
    have hm2 : (2 : Int) ^ a % 18446744073709551616 = 2 ^ a := by omega
    have hm3 : IntKind.u64.wrap ((2 : Int) ^ a) = 2 ^ a := hm2
    have hx : bits .xor .u64 (D : Int) ((2 : Int) ^ a) = (R : Int) := by rw [← HRR.out, h2i]; unfold turD; rw [if_pos haW]; exact u64_xor_nat _ _ hD64 (by omega)
    have hA64 : a ≤ 64 := by omega
    clear h2i h2A
    have HS1 : Hid ((w3.setCell ⟨w.heap.size, 0, none⟩ (.int .u64 (R : Int))).heap[w.heap.size]? = some (.cells (wdC R C) (26 : TypeId) (0, 0))) := wd_setD HR3.out R
    have HS2 : Hid ((w3.setCell ⟨w.heap.size, 0, none⟩ (.int .u64 (R : Int))).heap[w.heap.size + 1]? = some (.cells #[.int .u64 0, .int .u8 0] (26 : TypeId) (0, 0))) := (heap_setCell_other _ ⟨w.heap.size, 0, none⟩ (w.heap.size + 1) _ (by simp)).trans HR2.out
    go_wp2_with (first | (refine wpList_load_row rfl 26 _ rfl w.heap.size rfl 26 (wdC R C) (0, 0) _ HS1.out Try.underlying26 rfl HI.out ?_) | (refine wpList_store_row rfl 26 _ _ rfl (w.heap.size + 1) (wdC R C) (by first | rfl | simp) rfl 26 #[.int .u64 0, .int .u8 0] HS2.out HI.out rfl (wd_one R C) ?_))
    refine bodyPost_ret (v := .tuple #[.agg (wdC R C), .int .i64 0]) ?_ rfl ?_
    · exact res_word (p := 6) (u := 7) (by kernel_rfl) _ _ (w.heap.size + 1) (wdC R C) (by first | rfl | simp) (setRow_heap _ _ _ _ _ _ HS2.out) Try.underlying26 HI.out
    · exact ⟨rfl, below_setRow (below_setCell HBB.out (Nat.le_refl _) _ _) (Nat.le_succ _) _⟩
  · have haWi : ¬ (a : Int) < (W : Int) := by omega
    have HE1 : Hid (turD W D a = D) := by show _ = _; unfold turD; rw [if_neg haW]
    have HE2 : Hid (turC W C a = C ^^^ 2 ^ (a - W)) := by show _ = _; unfold turC; rw [if_neg haW]
    rw [HE1.out, HE2.out]
    have hsub : (a : Int) - (W : Int) = ((a - W : Nat) : Int) := by omega
    have hA7 : a - W ≤ 7 := by omega
    have hC8' := hC8
    have hsub' := hsub
    obtain ⟨j, hj⟩ : ∃ j, a - W = j := ⟨_, rfl⟩
    rw [hj] at hsub hA7 ⊢
    obtain ⟨R, hR⟩ : ∃ R, C ^^^ 2 ^ j = R := ⟨_, rfl⟩
    rw [hR]
    have HRR := hidD hR
    clear hR hsub' hC8' HE1 HE2 hj
    go_enter Try.func21, Try.ntmps21
    go_upto_region 6 with (first | (go_at_call 9; refine (HC.out _).mono ?_; rintro e w2 ⟨rfl, hb2⟩) | (go_at_call 12; refine (HV.out _).mono ?_; rintro e w3 ⟨rfl, hb3⟩) | (refine wpList_load_row rfl 26 _ rfl w.heap.size rfl 26 (wdC D C) (0, 0) _ HR1.out Try.underlying26 rfl HI.out ?_))
    all_goals try (apply False.elim; apply undef_bool0; assumption)
    obtain ⟨hr2, hr1, hb4⟩ := HN.out _ hb3
    have HR2 := hidD hr2
    have HR3 := hidD hr1
    have c0 : w3.cell? ⟨w.heap.size, 1, none⟩ = some (.int .u8 (C : Int)) := by rw [cell_of_row _ _ _ _ _ _ HR3.out]; rfl
    have c1 : w3.frozen? ⟨w.heap.size, 1, none⟩ = false := wd_froz HR3.out 1
    have HBB : Hid (Below w.heap.size w w3) := hb4
    clear hr1 hr2 hb3 hb4
    have h2A : 2 ^ j ≤ 2 ^ 7 := Nat.pow_le_pow_right (by decide) hA7
    have h2i : (2 : Int) ^ j = ((2 ^ j : Nat) : Int) := by simp
    have h2l : (2 : Int) ^ j ≤ 128 := by rw [h2i]; omega
    have h2p : (0 : Int) < (2 : Int) ^ j := Int.pow_pos (by decide)
    have hm1 : (1 : Int) * 2 ^ j = 2 ^ j := Int.one_mul _
    have hm2 : (2 : Int) ^ j % 256 = 2 ^ j := by omega
    have hx : bits .xor .u8 (C : Int) ((2 : Int) ^ j) = (R : Int) := by rw [← HRR.out, h2i]; exact u8_xor_nat _ _ hC8 (by omega)
    clear h2i h2A
    have HS1 : Hid ((w3.setCell ⟨w.heap.size, 1, none⟩ (.int .u8 (R : Int))).heap[w.heap.size]? = some (.cells (wdC D R) (26 : TypeId) (0, 0))) := wd_setC HR3.out R
    have HS2 : Hid ((w3.setCell ⟨w.heap.size, 1, none⟩ (.int .u8 (R : Int))).heap[w.heap.size + 1]? = some (.cells #[.int .u64 0, .int .u8 0] (26 : TypeId) (0, 0))) := (heap_setCell_other _ ⟨w.heap.size, 1, none⟩ (w.heap.size + 1) _ (by simp)).trans HR2.out
    go_wp2_with (first | (refine wpList_load_row rfl 26 _ rfl w.heap.size rfl 26 (wdC D R) (0, 0) _ HS1.out Try.underlying26 rfl HI.out ?_) | (refine wpList_store_row rfl 26 _ _ rfl (w.heap.size + 1) (wdC D R) (by first | rfl | simp) rfl 26 #[.int .u64 0, .int .u8 0] HS2.out HI.out rfl (wd_one D R) ?_))
    refine bodyPost_ret (v := .tuple #[.agg (wdC D R), .int .i64 0]) ?_ rfl ?_
    · exact res_word (p := 6) (u := 7) (by kernel_rfl) _ _ (w.heap.size + 1) (wdC D R) (by first | rfl | simp) (setRow_heap _ _ _ _ _ _ HS2.out) Try.underlying26 HI.out
    · exact ⟨rfl, below_setRow (below_setCell HBB.out (Nat.le_refl _) _ _) (Nat.le_succ _) _⟩
end Go.Proofs.Ytjmaejdkdpiigaa
