/- What Turn and Distance of ecc answer of words. -/
import Derived.Test.YtjnfnihhihncmaaE6
import Derived.Deep.Cut
namespace Go.Proofs.Ytjnfnihhihncmaa
open Go.RowKit
set_option linter.unusedVariables false

theorem wd_setD {w : World} {g D C : Nat} {ty : TypeId} (h : w.heap[g]? = some (.cells (wdC D C) ty (0, 0))) (v : Nat) : (w.setCell ⟨g, 0, none⟩ (.int .u64 (v : Int))).heap[g]? = some (.cells (wdC v C) ty (0, 0)) := by rw [heap_setCell_same _ _ _ _ _ _ h]; rfl
theorem wd_setC {w : World} {g D C : Nat} {ty : TypeId} (h : w.heap[g]? = some (.cells (wdC D C) ty (0, 0))) (v : Nat) : (w.setCell ⟨g, 1, none⟩ (.int .u8 (v : Int))).heap[g]? = some (.cells (wdC D v) ty (0, 0)) := by rw [heap_setCell_same _ _ _ _ _ _ h]; rfl
theorem wd_froz {w : World} {g D C : Nat} {ty : TypeId} (h : w.heap[g]? = some (.cells (wdC D C) ty (0, 0))) (k : Nat) : w.frozen? ⟨g, k, none⟩ = false := frozen_of_row _ _ _ _ _ h

set_option maxRecDepth 100000 in
set_option maxHeartbeats 3200000 in
theorem turn_ok {W r : Nat} (h : Wid W r) (D C : Nat) (hD : D < 2 ^ W) (hC : C < 2 ^ (r + 1)) (a : Nat) (ha : a ≤ W + r) (w : World) : Calls Try.prog 57 #[.int .i64 (W : Int), .agg (wdC D C), .int .i64 (a : Int)] w fun e w' => e = .returned (.tuple #[.agg (wdC (turD W D a) (turC W C a)), .int .i64 0]) ∧ Below w.heap.size w w' := by
  have hr := h.le
  have hD64 : D < 18446744073709551616 := Nat.lt_of_lt_of_le hD (Nat.pow_le_pow_right (n := 2) (by decide) hr.1)
  have hC8 : C < 256 := Nat.lt_of_lt_of_le hC (Nat.pow_le_pow_right (n := 2) (by decide) (show r + 1 ≤ 8 by omega))
  have HV : Hid (∀ w, Calls Try.prog 58 #[.int .i64 (W : Int), .agg (wdC D C)] w fun e w' => e = .returned (.bool true) ∧ Below w.heap.size w w') := fun w => by have := valid_any h D C hD64 hC8 w; rw [decide_eq_true ⟨hD, hC⟩] at this; exact this
  have HC : Hid (∀ w, Calls Try.prog 75 #[.int .i64 (W : Int)] w fun e w' => e = .returned (.tuple #[.int .i64 (r : Int), .int .i64 0]) ∧ w' = w) := fun w => checks_ok h w
  have HT := hidD (two_blocks w (wdC D C) (wdC 0 0) 58)
  obtain ⟨hz, hsz⟩ := zero_of_info Try.zeroWd
  have HI : Hid ((Try.prog.info? 58).map (·.size) = some 2) := hsz
  clear hsz
  have HR1 : Hid (((w.alloc (.cells (wdC D C) (58 : TypeId))).alloc (.cells #[.int .u64 0, .int .u8 0] (58 : TypeId))).heap[w.heap.size]? = some (.cells (wdC D C) (58 : TypeId) (0, 0))) := HT.out.1
  have HN : Hid (∀ w2, Below ((w.alloc (.cells (wdC D C) (58 : TypeId))).alloc (.cells #[.int .u64 0, .int .u8 0] (58 : TypeId))).heap.size ((w.alloc (.cells (wdC D C) (58 : TypeId))).alloc (.cells #[.int .u64 0, .int .u8 0] (58 : TypeId))) w2 → w2.heap[w.heap.size + 1]? = some (.cells #[.int .u64 0, .int .u8 0] (58 : TypeId) (0, 0)) ∧ w2.heap[w.heap.size]? = some (.cells (wdC D C) (58 : TypeId) (0, 0)) ∧ Below w.heap.size w w2) := fun w2 hb => ⟨(hb.block _ (row_lt HT.out.2.1)).trans HT.out.2.1, (hb.block _ (row_lt HT.out.1)).trans HT.out.1, Below.next HT.out.2.2.1 hb⟩
  clear HT hD hC
  have hnb : ¬ (a : Int) < 0 := by omega
  have hna : ¬ (W : Int) + (r : Int) < (a : Int) := by omega
  by_cases haW : a < W
  · have haWi : (a : Int) < (W : Int) := by omega
    have HE2 : turC W C a = C := by unfold turC; rw [if_pos haW]
    rw [HE2]
    clear HE2
    obtain ⟨R, hR⟩ : ∃ R, turD W D a = R := ⟨_, rfl⟩
    rw [hR]
    have HRR := hidD hR
    clear hR
    go_enter Try.func57, Try.ntmps57
    go_upto_region 7 with (first | (go_at_call 75; refine (HC.out _).mono ?_; rintro e w2 ⟨rfl, hb2⟩) | (go_at_call 58; refine (HV.out _).mono ?_; rintro e w3 ⟨rfl, hb3⟩) | (refine wpList_load_row rfl 58 _ rfl w.heap.size rfl 58 (wdC D C) (0, 0) _ HR1.out Try.underlying58 rfl HI.out ?_))
    obtain ⟨hr2, hr1, hb4⟩ := HN.out _ hb3
    have HR2 := hidD (fun (i : BW w3) => (i.below.block _ (row_lt hr2)).trans hr2)
    have HR3 := hidD (fun (i : BW w3) => (i.below.block _ (row_lt hr1)).trans hr1)
    have c0 : ∀ i : BW w3, i.v.cell? ⟨w.heap.size, 0, none⟩ = some (.int .u64 (D : Int)) := fun i => by rw [cell_of_row _ _ _ _ _ _ (HR3.out i)]; rfl
    have c1 : ∀ i : BW w3, i.v.frozen? ⟨w.heap.size, 0, none⟩ = false := fun i => wd_froz (HR3.out i) 0
    have HBB : Hid (∀ (i : BW w3), Below w.heap.size w i.v) := fun i => Below.next hb4 i.below
    clear hr1 hr2 hb3 hb4
    have h2A : 2 ^ a < 2 ^ 64 := Nat.pow_lt_pow_right (by decide) (by omega)
    have h2i : (2 : Int) ^ a = ((2 ^ a : Nat) : Int) := by simp
    have h2l : (2 : Int) ^ a < 18446744073709551616 := by rw [h2i]; omega
    have h2p : (0 : Int) < (2 : Int) ^ a := Int.pow_pos (by decide)
    have hm1 : (1 : Int) * 2 ^ a = 2 ^ a := Int.one_mul _
    have hm2 : (2 : Int) ^ a % 18446744073709551616 = 2 ^ a := by omega
    have hm3 : IntKind.u64.wrap ((2 : Int) ^ a) = 2 ^ a := hm2
    have hx : bits .xor .u64 (D : Int) ((2 : Int) ^ a) = (R : Int) := by rw [← HRR.out, h2i]; unfold turD; rw [if_pos haW]; exact u64_xor_nat _ _ hD64 (by omega)
    have hA64 : a ≤ 64 := by omega
    clear h2i h2A
    refine wp_region_put (by simp) (by kernel_rfl) rfl (by kernel_rfl) (by kernel_rfl) (by kernel_rfl) ?_
    simp only [List.dropLast_cons_cons, List.dropLast_singleton, List.getLast_cons_cons, List.getLast_singleton, List.cons_append, List.nil_append, mute]
    repeat (go_big_quiet_step (fail))
    refine wpQuiet_nil ?_
    intro i
    have HS1 : Hid ((i.v.setCell ⟨w.heap.size, 0, none⟩ (.int .u64 (R : Int))).heap[w.heap.size]? = some (.cells (wdC R C) (58 : TypeId) (0, 0))) := wd_setD (HR3.out i) R
    have HS2 : Hid ((i.v.setCell ⟨w.heap.size, 0, none⟩ (.int .u64 (R : Int))).heap[w.heap.size + 1]? = some (.cells #[.int .u64 0, .int .u8 0] (58 : TypeId) (0, 0))) := (heap_setCell_other _ ⟨w.heap.size, 0, none⟩ (w.heap.size + 1) _ (by simp)).trans (HR2.out i)
    go_wp2_with (first | (refine wpList_load_row rfl 58 _ rfl w.heap.size rfl 58 (wdC R C) (0, 0) _ HS1.out Try.underlying58 rfl HI.out ?_) | (refine wpList_store_row rfl 58 _ _ rfl (w.heap.size + 1) (wdC R C) (by first | rfl | simp) rfl 58 #[.int .u64 0, .int .u8 0] HS2.out HI.out rfl (wd_one R C) ?_))
    refine bodyPost_ret (v := .tuple #[.agg (wdC R C), .int .i64 0]) ?_ rfl ?_
    · exact res_word (p := 6) (u := 7) (by kernel_rfl) _ _ (w.heap.size + 1) (wdC R C) (by first | rfl | simp) (setRow_heap _ _ _ _ _ _ HS2.out) Try.underlying58 HI.out
    · exact ⟨rfl, below_setRow (below_setCell (HBB.out i) (Nat.le_refl _) _ _) (Nat.le_succ _) _⟩
  · have haWi : ¬ (a : Int) < (W : Int) := by omega
    have HE1 : Hid (turD W D a = D) := by show _ = _; unfold turD; rw [if_neg haW]
    have HE2 : Hid (turC W C a = C ^^^ 2 ^ (a - W)) := by show _ = _; unfold turC; rw [if_neg haW]
    rw [HE1.out, HE2.out]
    have hsub : (a : Int) - (W : Int) = ((a - W : Nat) : Int) := by omega
    have hA7 : a - W ≤ 7 := by omega
    generalize a - W = j at *
    have h2A : 2 ^ j ≤ 2 ^ 7 := Nat.pow_le_pow_right (by decide) hA7
    have h2i : (2 : Int) ^ j = ((2 ^ j : Nat) : Int) := by simp
    have h2l : (2 : Int) ^ j ≤ 128 := by rw [h2i]; omega
    have h2p : (0 : Int) < (2 : Int) ^ j := Int.pow_pos (by decide)
    have hm1 : (1 : Int) * 2 ^ j = 2 ^ j := Int.one_mul _
    have hm2 : (2 : Int) ^ j % 256 = 2 ^ j := by omega
    have hx : bits .xor .u8 (C : Int) ((2 : Int) ^ j) = ((C ^^^ 2 ^ j : Nat) : Int) := by rw [h2i]; exact u8_xor_nat _ _ hC8 (by omega)
    clear h2i h2A
    generalize C ^^^ 2 ^ j = R at *
    go_enter Try.func57, Try.ntmps57
    go_wp2_with (first | (go_at_call 75; refine (HC.out _).mono ?_; rintro e w2 ⟨rfl, hb2⟩) | (go_at_call 58; refine (HV.out _).mono ?_; rintro e w3 ⟨rfl, hb3⟩) | (refine wpList_load_row rfl 58 _ rfl w.heap.size rfl 58 (wdC D C) (0, 0) _ HR1.out Try.underlying58 rfl HI.out ?_))
    obtain ⟨hr2, hr1, hb4⟩ := HN.out _ hb3
    have HR2 := hidD (fun (i : BW w3) => (i.below.block _ (row_lt hr2)).trans hr2)
    have HR3 := hidD (fun (i : BW w3) => (i.below.block _ (row_lt hr1)).trans hr1)
    have c0 : ∀ i : BW w3, i.v.cell? ⟨w.heap.size, 1, none⟩ = some (.int .u8 (C : Int)) := fun i => by rw [cell_of_row _ _ _ _ _ _ (HR3.out i)]; rfl
    have c1 : ∀ i : BW w3, i.v.frozen? ⟨w.heap.size, 1, none⟩ = false := fun i => wd_froz (HR3.out i) 1
    have HBB : Hid (∀ (i : BW w3), Below w.heap.size w i.v) := fun i => Below.next hb4 i.below
    clear hr1 hr2 hb3 hb4
    refine wp_region_put (by simp) (by kernel_rfl) rfl (by kernel_rfl) (by kernel_rfl) (by kernel_rfl) ?_
    simp only [List.dropLast_cons_cons, List.dropLast_singleton, List.getLast_cons_cons, List.getLast_singleton, List.cons_append, List.nil_append, mute]
    repeat (go_big_quiet_step (fail))
    refine wpQuiet_nil ?_
    intro i
    have HS1 : Hid ((i.v.setCell ⟨w.heap.size, 1, none⟩ (.int .u8 (R : Int))).heap[w.heap.size]? = some (.cells (wdC D R) (58 : TypeId) (0, 0))) := wd_setC (HR3.out i) R
    have HS2 : Hid ((i.v.setCell ⟨w.heap.size, 1, none⟩ (.int .u8 (R : Int))).heap[w.heap.size + 1]? = some (.cells #[.int .u64 0, .int .u8 0] (58 : TypeId) (0, 0))) := (heap_setCell_other _ ⟨w.heap.size, 1, none⟩ (w.heap.size + 1) _ (by simp)).trans (HR2.out i)
    go_wp2_with (first | (refine wpList_load_row rfl 58 _ rfl w.heap.size rfl 58 (wdC D R) (0, 0) _ HS1.out Try.underlying58 rfl HI.out ?_) | (refine wpList_store_row rfl 58 _ _ rfl (w.heap.size + 1) (wdC D R) (by first | rfl | simp) rfl 58 #[.int .u64 0, .int .u8 0] HS2.out HI.out rfl (wd_one D R) ?_))
    refine bodyPost_ret (v := .tuple #[.agg (wdC D R), .int .i64 0]) ?_ rfl ?_
    · exact res_word (p := 6) (u := 7) (by kernel_rfl) _ _ (w.heap.size + 1) (wdC D R) (by first | rfl | simp) (setRow_heap _ _ _ _ _ _ HS2.out) Try.underlying58 HI.out
    · exact ⟨rfl, below_setRow (below_setCell (HBB.out i) (Nat.le_refl _) _ _) (Nat.le_succ _) _⟩
end Go.Proofs.Ytjnfnihhihncmaa
