/- The walk of DigitsBack. -/
import Derived.Test.YtmmlmpcalhfigaaDoorShwT
namespace Go.Proofs.YtmmlmpcalhfigaaDoor
open Go.RowKit
set_option linter.unusedVariables false

theorem and3 (x : Int) : bits .and .i64 x 3 = 0 ∨ bits .and .i64 x 3 = 1 ∨ bits .and .i64 x 3 = 2 ∨ bits .and .i64 x 3 = 3 := by
  have h : bits .and .i64 x 3 = IntKind.i64.wrap ((BitVec.ofInt 64 x &&& BitVec.ofInt 64 3).toNat : Int) := rfl
  rw [BitVec.toNat_and] at h
  have h3 : (BitVec.ofInt 64 x).toNat &&& (BitVec.ofInt 64 3).toNat < 2 ^ 2 := Nat.and_lt_two_pow _ (by decide)
  generalize (BitVec.ofInt 64 x).toNat &&& (BitVec.ofInt 64 3).toNat = r at *
  rw [h, IntKind.wrap_i64]
  omega
theorem decS_len {v : Int} (h0 : -9223372036854775808 ≤ v) (h1 : v ≤ 9223372036854775807) : (decS v).length ≤ maxLen := by
  have h : (decS v).length ≤ 66 := by
    unfold decS
    split
    · have := digS_len 10 65 v.toNat []
      simp at this ⊢
      omega
    · have := digS_len 10 65 (-v).toNat []
      simp at this ⊢
      omega
  unfold maxLen
  omega

set_option maxRecDepth 100000 in
set_option maxHeartbeats 1000000 in
theorem back_out0 (v : Nat) (which width : Int) (hr : bits .and .i64 which 3 = 0) (hv : v ≤ 18446744073709551615) (hw : width < 0 ∨ 64 < width) (w : World) : Calls Tryd.prog 4 #[.int .u64 v, .int .i64 which, .int .i64 width] w fun e w' => e = .returned (.bool true) ∧ Below w.heap.size w w' := by
  have H12 := hidD (fun (w1 : World) (hb : Below w.heap.size w w1) => cum hb (live_any w1))
  have H5 := hidD (fun (w1 : World) (hb : Below w.heap.size w w1) => cum hb (show_any v 10 width hv w1))
  rw [showP_bad (m := []) rfl hw] at H5
  have hbw := Below.refl w.heap.size w
  have HB0 := hidD hbw
  clear hbw
  by_cases h1 : width < 0
  · go_enter Tryd.func4, Tryd.ntmps4
    go_wp2_with (first
      | (go_at_call 12; refine (H12.out _ HB0.out).mono ?_; rintro e w1 ⟨rfl, hb1⟩)
      | (go_at_call 5; refine (H5.out _ (hb1.alloc hb1.size _)).mono ?_; rintro e w2 ⟨rfl, hb2⟩)
      | (go_at_call 7; refine (no_any _ _).mono ?_; rintro e w' ⟨rfl, hw⟩; rw [hw]; clear hw w'))
    go_ret
    exact ⟨rfl, hb2⟩
  · have h2 : 64 < width := by omega
    go_enter Tryd.func4, Tryd.ntmps4
    go_wp2_with (first
      | (go_at_call 12; refine (H12.out _ HB0.out).mono ?_; rintro e w1 ⟨rfl, hb1⟩)
      | (go_at_call 5; refine (H5.out _ (hb1.alloc hb1.size _)).mono ?_; rintro e w2 ⟨rfl, hb2⟩)
      | (go_at_call 7; refine (no_any _ _).mono ?_; rintro e w' ⟨rfl, hw⟩; rw [hw]; clear hw w'))
    go_ret
    exact ⟨rfl, hb2⟩
set_option maxRecDepth 100000 in
set_option maxHeartbeats 1000000 in
theorem back_in0 (v : Nat) (which width : Int) (hr : bits .and .i64 which 3 = 0) (hv : v ≤ 18446744073709551615) (hw : ¬ (width < 0 ∨ 64 < width)) (w : World) (htab : Lib.TabIs Tryd.prog w "internal/strconv.uint64pow10" .u64 Lib.pow10Tab) : Calls Tryd.prog 4 #[.int .u64 v, .int .i64 which, .int .i64 width] w fun e w' => e = .returned (.bool true) ∧ Below w.heap.size w w' := by
  have HT := hidD (fun (w1 : World) (hb : Below w.heap.size w w1) => tab_below htab hb (Nat.le_refl _))
  obtain ⟨vi, hvi⟩ : ∃ vi, IntKind.i64.wrap (v : Int) = vi := ⟨_, rfl⟩
  have hb0 : -9223372036854775808 ≤ vi ∧ vi ≤ 9223372036854775807 := by rw [← hvi, IntKind.wrap_i64]; omega
  have H12 := hidD (fun (w1 : World) (hb : Below w.heap.size w w1) => cum hb (live_any w1))
  have H5 := hidD (fun (w1 : World) (hb : Below w.heap.size w w1) => cum hb (show_any v 10 width hv w1))
  obtain ⟨q1, q2, q3⟩ := back_show (kind := 10) (width := width) hv (by decide) hw
  have hl : (showS v 10 width).1.length ≤ maxLen := by
    rw [showP_eq (m := []) rfl hw]
    have := digS_len 10 65 v []
    unfold padS maxLen
    simp at this ⊢
    omega
  have H13 := hidD (fun (w1 : World) => read_any (showS v 10 width).1 hl w1)
  rw [q2] at H13
  rw [q1] at H5
  have H8 := hidD (fun (w1 : World) (hb : Below w.heap.size w w1) => cum hb ((decimal_any vi hb0.1 hb0.2 w1 (HT.out w1 hb)).mono fun e w' (q : _ ∧ ∃ k os, w' = Sort.grow (w1.drewN k) os) => ⟨q.1, by obtain ⟨k, os, rfl⟩ := q.2; exact below_grown w1 k os⟩))
  have H14 := hidD (fun (w1 : World) => signed_any (decS vi) (decS_len hb0.1 hb0.2) w1)
  rw [back_signed hb0.1 hb0.2] at H14
  have hwl : width ≤ (((showS v 10 width).1.length : Nat) : Int) := by omega
  clear htab HT q1 q2 q3 hl
  generalize (showS v 10 width).1 = S at *
  generalize decS vi = dc at *
  have n1 : ∀ x : Int, (x == x) = true := fun x => by simp
  have hw1 : ¬ width < 0 := by omega
  have hw2 : ¬ 64 < width := by omega
  have hbw := Below.refl w.heap.size w
  have HB0 := hidD hbw
  clear hbw hb0 hw
  go_enter Tryd.func4, Tryd.ntmps4
  go_wp2_with (first
    | (go_at_call 12; refine (H12.out _ HB0.out).mono ?_; rintro e w1 ⟨rfl, hb1⟩)
    | (go_at_call 5; refine (H5.out _ (hb1.alloc hb1.size _)).mono ?_; rintro e w2 ⟨rfl, hb2⟩)
    | (go_at_call 13; refine (H13.out _).mono ?_; rintro e w' ⟨rfl, hw⟩; rw [hw]; clear hw w')
    | (go_at_call 8; refine (H8.out _ hb2).mono ?_; rintro e w3 ⟨rfl, hb3⟩)
    | (go_at_call 14; refine (H14.out _).mono ?_; rintro e w' ⟨rfl, hw⟩; rw [hw]; clear hw w')
    | (go_at_call 7; refine (no_any _ _).mono ?_; rintro e w' ⟨rfl, hw⟩; rw [hw]; clear hw w'))
  go_ret
  exact ⟨rfl, hb3⟩

set_option maxRecDepth 100000 in
set_option maxHeartbeats 1000000 in
theorem back_out1 (v : Nat) (which width : Int) (hr : bits .and .i64 which 3 = 1) (hv : v ≤ 18446744073709551615) (hw : width < 0 ∨ 64 < width) (w : World) : Calls Tryd.prog 4 #[.int .u64 v, .int .i64 which, .int .i64 width] w fun e w' => e = .returned (.bool true) ∧ Below w.heap.size w w' := by
  have H12 := hidD (fun (w1 : World) (hb : Below w.heap.size w w1) => cum hb (live_any w1))
  have H5 := hidD (fun (w1 : World) (hb : Below w.heap.size w w1) => cum hb (show_any v 16 width hv w1))
  rw [showP_bad (m := [36]) rfl hw] at H5
  have hbw := Below.refl w.heap.size w
  have HB0 := hidD hbw
  clear hbw
  by_cases h1 : width < 0
  · go_enter Tryd.func4, Tryd.ntmps4
    go_wp2_with (first
      | (go_at_call 12; refine (H12.out _ HB0.out).mono ?_; rintro e w1 ⟨rfl, hb1⟩)
      | (go_at_call 5; refine (H5.out _ (hb1.alloc hb1.size _)).mono ?_; rintro e w2 ⟨rfl, hb2⟩)
      | (go_at_call 7; refine (no_any _ _).mono ?_; rintro e w' ⟨rfl, hw⟩; rw [hw]; clear hw w'))
    go_ret
    exact ⟨rfl, hb2⟩
  · have h2 : 64 < width := by omega
    go_enter Tryd.func4, Tryd.ntmps4
    go_wp2_with (first
      | (go_at_call 12; refine (H12.out _ HB0.out).mono ?_; rintro e w1 ⟨rfl, hb1⟩)
      | (go_at_call 5; refine (H5.out _ (hb1.alloc hb1.size _)).mono ?_; rintro e w2 ⟨rfl, hb2⟩)
      | (go_at_call 7; refine (no_any _ _).mono ?_; rintro e w' ⟨rfl, hw⟩; rw [hw]; clear hw w'))
    go_ret
    exact ⟨rfl, hb2⟩
set_option maxRecDepth 100000 in
set_option maxHeartbeats 1000000 in
theorem back_in1 (v : Nat) (which width : Int) (hr : bits .and .i64 which 3 = 1) (hv : v ≤ 18446744073709551615) (hw : ¬ (width < 0 ∨ 64 < width)) (w : World) (htab : Lib.TabIs Tryd.prog w "internal/strconv.uint64pow10" .u64 Lib.pow10Tab) : Calls Tryd.prog 4 #[.int .u64 v, .int .i64 which, .int .i64 width] w fun e w' => e = .returned (.bool true) ∧ Below w.heap.size w w' := by
  have HT := hidD (fun (w1 : World) (hb : Below w.heap.size w w1) => tab_below htab hb (Nat.le_refl _))
  obtain ⟨vi, hvi⟩ : ∃ vi, IntKind.i64.wrap (v : Int) = vi := ⟨_, rfl⟩
  have hb0 : -9223372036854775808 ≤ vi ∧ vi ≤ 9223372036854775807 := by rw [← hvi, IntKind.wrap_i64]; omega
  have H12 := hidD (fun (w1 : World) (hb : Below w.heap.size w w1) => cum hb (live_any w1))
  have H5 := hidD (fun (w1 : World) (hb : Below w.heap.size w w1) => cum hb (show_any v 16 width hv w1))
  obtain ⟨q1, q2, q3⟩ := back_show (kind := 16) (width := width) hv (by decide) hw
  have hl : (showS v 16 width).1.length ≤ maxLen := by
    rw [showP_eq (m := [36]) rfl hw]
    have := digS_len 16 65 v []
    unfold padS maxLen
    simp at this ⊢
    omega
  have H13 := hidD (fun (w1 : World) => read_any (showS v 16 width).1 hl w1)
  rw [q2] at H13
  rw [q1] at H5
  have H8 := hidD (fun (w1 : World) (hb : Below w.heap.size w w1) => cum hb ((decimal_any vi hb0.1 hb0.2 w1 (HT.out w1 hb)).mono fun e w' (q : _ ∧ ∃ k os, w' = Sort.grow (w1.drewN k) os) => ⟨q.1, by obtain ⟨k, os, rfl⟩ := q.2; exact below_grown w1 k os⟩))
  have H14 := hidD (fun (w1 : World) => signed_any (decS vi) (decS_len hb0.1 hb0.2) w1)
  rw [back_signed hb0.1 hb0.2] at H14
  have hwl : width ≤ (((showS v 16 width).1.length : Nat) : Int) := by omega
  clear htab HT q1 q2 q3 hl
  generalize (showS v 16 width).1 = S at *
  generalize decS vi = dc at *
  have n1 : ∀ x : Int, (x == x) = true := fun x => by simp
  have hw1 : ¬ width < 0 := by omega
  have hw2 : ¬ 64 < width := by omega
  have hbw := Below.refl w.heap.size w
  have HB0 := hidD hbw
  clear hbw hb0 hw
  go_enter Tryd.func4, Tryd.ntmps4
  go_wp2_with (first
    | (go_at_call 12; refine (H12.out _ HB0.out).mono ?_; rintro e w1 ⟨rfl, hb1⟩)
    | (go_at_call 5; refine (H5.out _ (hb1.alloc hb1.size _)).mono ?_; rintro e w2 ⟨rfl, hb2⟩)
    | (go_at_call 13; refine (H13.out _).mono ?_; rintro e w' ⟨rfl, hw⟩; rw [hw]; clear hw w')
    | (go_at_call 8; refine (H8.out _ hb2).mono ?_; rintro e w3 ⟨rfl, hb3⟩)
    | (go_at_call 14; refine (H14.out _).mono ?_; rintro e w' ⟨rfl, hw⟩; rw [hw]; clear hw w')
    | (go_at_call 7; refine (no_any _ _).mono ?_; rintro e w' ⟨rfl, hw⟩; rw [hw]; clear hw w'))
  go_ret
  exact ⟨rfl, hb3⟩

set_option maxRecDepth 100000 in
set_option maxHeartbeats 1000000 in
theorem back_out2 (v : Nat) (which width : Int) (hr : bits .and .i64 which 3 = 2) (hv : v ≤ 18446744073709551615) (hw : width < 0 ∨ 64 < width) (w : World) : Calls Tryd.prog 4 #[.int .u64 v, .int .i64 which, .int .i64 width] w fun e w' => e = .returned (.bool true) ∧ Below w.heap.size w w' := by
  have H12 := hidD (fun (w1 : World) (hb : Below w.heap.size w w1) => cum hb (live_any w1))
  have H5 := hidD (fun (w1 : World) (hb : Below w.heap.size w w1) => cum hb (show_any v 2 width hv w1))
  rw [showP_bad (m := [37]) rfl hw] at H5
  have hbw := Below.refl w.heap.size w
  have HB0 := hidD hbw
  clear hbw
  by_cases h1 : width < 0
  · go_enter Tryd.func4, Tryd.ntmps4
    go_wp2_with (first
      | (go_at_call 12; refine (H12.out _ HB0.out).mono ?_; rintro e w1 ⟨rfl, hb1⟩)
      | (go_at_call 5; refine (H5.out _ (hb1.alloc hb1.size _)).mono ?_; rintro e w2 ⟨rfl, hb2⟩)
      | (go_at_call 7; refine (no_any _ _).mono ?_; rintro e w' ⟨rfl, hw⟩; rw [hw]; clear hw w'))
    go_ret
    exact ⟨rfl, hb2⟩
  · have h2 : 64 < width := by omega
    go_enter Tryd.func4, Tryd.ntmps4
    go_wp2_with (first
      | (go_at_call 12; refine (H12.out _ HB0.out).mono ?_; rintro e w1 ⟨rfl, hb1⟩)
      | (go_at_call 5; refine (H5.out _ (hb1.alloc hb1.size _)).mono ?_; rintro e w2 ⟨rfl, hb2⟩)
      | (go_at_call 7; refine (no_any _ _).mono ?_; rintro e w' ⟨rfl, hw⟩; rw [hw]; clear hw w'))
    go_ret
    exact ⟨rfl, hb2⟩
set_option maxRecDepth 100000 in
set_option maxHeartbeats 1000000 in
theorem back_in2 (v : Nat) (which width : Int) (hr : bits .and .i64 which 3 = 2) (hv : v ≤ 18446744073709551615) (hw : ¬ (width < 0 ∨ 64 < width)) (w : World) (htab : Lib.TabIs Tryd.prog w "internal/strconv.uint64pow10" .u64 Lib.pow10Tab) : Calls Tryd.prog 4 #[.int .u64 v, .int .i64 which, .int .i64 width] w fun e w' => e = .returned (.bool true) ∧ Below w.heap.size w w' := by
  have HT := hidD (fun (w1 : World) (hb : Below w.heap.size w w1) => tab_below htab hb (Nat.le_refl _))
  obtain ⟨vi, hvi⟩ : ∃ vi, IntKind.i64.wrap (v : Int) = vi := ⟨_, rfl⟩
  have hb0 : -9223372036854775808 ≤ vi ∧ vi ≤ 9223372036854775807 := by rw [← hvi, IntKind.wrap_i64]; omega
  have H12 := hidD (fun (w1 : World) (hb : Below w.heap.size w w1) => cum hb (live_any w1))
  have H5 := hidD (fun (w1 : World) (hb : Below w.heap.size w w1) => cum hb (show_any v 2 width hv w1))
  obtain ⟨q1, q2, q3⟩ := back_show (kind := 2) (width := width) hv (by decide) hw
  have hl : (showS v 2 width).1.length ≤ maxLen := by
    rw [showP_eq (m := [37]) rfl hw]
    have := digS_len 2 65 v []
    unfold padS maxLen
    simp at this ⊢
    omega
  have H13 := hidD (fun (w1 : World) => read_any (showS v 2 width).1 hl w1)
  rw [q2] at H13
  rw [q1] at H5
  have H8 := hidD (fun (w1 : World) (hb : Below w.heap.size w w1) => cum hb ((decimal_any vi hb0.1 hb0.2 w1 (HT.out w1 hb)).mono fun e w' (q : _ ∧ ∃ k os, w' = Sort.grow (w1.drewN k) os) => ⟨q.1, by obtain ⟨k, os, rfl⟩ := q.2; exact below_grown w1 k os⟩))
  have H14 := hidD (fun (w1 : World) => signed_any (decS vi) (decS_len hb0.1 hb0.2) w1)
  rw [back_signed hb0.1 hb0.2] at H14
  have hwl : width ≤ (((showS v 2 width).1.length : Nat) : Int) := by omega
  clear htab HT q1 q2 q3 hl
  generalize (showS v 2 width).1 = S at *
  generalize decS vi = dc at *
  have n1 : ∀ x : Int, (x == x) = true := fun x => by simp
  have hw1 : ¬ width < 0 := by omega
  have hw2 : ¬ 64 < width := by omega
  have hbw := Below.refl w.heap.size w
  have HB0 := hidD hbw
  clear hbw hb0 hw
  go_enter Tryd.func4, Tryd.ntmps4
  go_wp2_with (first
    | (go_at_call 12; refine (H12.out _ HB0.out).mono ?_; rintro e w1 ⟨rfl, hb1⟩)
    | (go_at_call 5; refine (H5.out _ (hb1.alloc hb1.size _)).mono ?_; rintro e w2 ⟨rfl, hb2⟩)
    | (go_at_call 13; refine (H13.out _).mono ?_; rintro e w' ⟨rfl, hw⟩; rw [hw]; clear hw w')
    | (go_at_call 8; refine (H8.out _ hb2).mono ?_; rintro e w3 ⟨rfl, hb3⟩)
    | (go_at_call 14; refine (H14.out _).mono ?_; rintro e w' ⟨rfl, hw⟩; rw [hw]; clear hw w')
    | (go_at_call 7; refine (no_any _ _).mono ?_; rintro e w' ⟨rfl, hw⟩; rw [hw]; clear hw w'))
  go_ret
  exact ⟨rfl, hb3⟩

set_option maxRecDepth 100000 in
set_option maxHeartbeats 1000000 in
theorem back_out3 (v : Nat) (which width : Int) (hr : bits .and .i64 which 3 = 3) (hv : v ≤ 18446744073709551615) (hw : width < 0 ∨ 64 < width) (w : World) : Calls Tryd.prog 4 #[.int .u64 v, .int .i64 which, .int .i64 width] w fun e w' => e = .returned (.bool true) ∧ Below w.heap.size w w' := by
  have H12 := hidD (fun (w1 : World) (hb : Below w.heap.size w w1) => cum hb (live_any w1))
  have H5 := hidD (fun (w1 : World) (hb : Below w.heap.size w w1) => cum hb (show_any v 8 width hv w1))
  rw [showP_bad (m := [64]) rfl hw] at H5
  have hbw := Below.refl w.heap.size w
  have HB0 := hidD hbw
  clear hbw
  by_cases h1 : width < 0
  · go_enter Tryd.func4, Tryd.ntmps4
    go_wp2_with (first
      | (go_at_call 12; refine (H12.out _ HB0.out).mono ?_; rintro e w1 ⟨rfl, hb1⟩)
      | (go_at_call 5; refine (H5.out _ (hb1.alloc hb1.size _)).mono ?_; rintro e w2 ⟨rfl, hb2⟩)
      | (go_at_call 7; refine (no_any _ _).mono ?_; rintro e w' ⟨rfl, hw⟩; rw [hw]; clear hw w'))
    go_ret
    exact ⟨rfl, hb2⟩
  · have h2 : 64 < width := by omega
    go_enter Tryd.func4, Tryd.ntmps4
    go_wp2_with (first
      | (go_at_call 12; refine (H12.out _ HB0.out).mono ?_; rintro e w1 ⟨rfl, hb1⟩)
      | (go_at_call 5; refine (H5.out _ (hb1.alloc hb1.size _)).mono ?_; rintro e w2 ⟨rfl, hb2⟩)
      | (go_at_call 7; refine (no_any _ _).mono ?_; rintro e w' ⟨rfl, hw⟩; rw [hw]; clear hw w'))
    go_ret
    exact ⟨rfl, hb2⟩
set_option maxRecDepth 100000 in
set_option maxHeartbeats 1000000 in
theorem back_in3 (v : Nat) (which width : Int) (hr : bits .and .i64 which 3 = 3) (hv : v ≤ 18446744073709551615) (hw : ¬ (width < 0 ∨ 64 < width)) (w : World) (htab : Lib.TabIs Tryd.prog w "internal/strconv.uint64pow10" .u64 Lib.pow10Tab) : Calls Tryd.prog 4 #[.int .u64 v, .int .i64 which, .int .i64 width] w fun e w' => e = .returned (.bool true) ∧ Below w.heap.size w w' := by
  have HT := hidD (fun (w1 : World) (hb : Below w.heap.size w w1) => tab_below htab hb (Nat.le_refl _))
  obtain ⟨vi, hvi⟩ : ∃ vi, IntKind.i64.wrap (v : Int) = vi := ⟨_, rfl⟩
  have hb0 : -9223372036854775808 ≤ vi ∧ vi ≤ 9223372036854775807 := by rw [← hvi, IntKind.wrap_i64]; omega
  have H12 := hidD (fun (w1 : World) (hb : Below w.heap.size w w1) => cum hb (live_any w1))
  have H5 := hidD (fun (w1 : World) (hb : Below w.heap.size w w1) => cum hb (show_any v 8 width hv w1))
  obtain ⟨q1, q2, q3⟩ := back_show (kind := 8) (width := width) hv (by decide) hw
  have hl : (showS v 8 width).1.length ≤ maxLen := by
    rw [showP_eq (m := [64]) rfl hw]
    have := digS_len 8 65 v []
    unfold padS maxLen
    simp at this ⊢
    omega
  have H13 := hidD (fun (w1 : World) => read_any (showS v 8 width).1 hl w1)
  rw [q2] at H13
  rw [q1] at H5
  have H8 := hidD (fun (w1 : World) (hb : Below w.heap.size w w1) => cum hb ((decimal_any vi hb0.1 hb0.2 w1 (HT.out w1 hb)).mono fun e w' (q : _ ∧ ∃ k os, w' = Sort.grow (w1.drewN k) os) => ⟨q.1, by obtain ⟨k, os, rfl⟩ := q.2; exact below_grown w1 k os⟩))
  have H14 := hidD (fun (w1 : World) => signed_any (decS vi) (decS_len hb0.1 hb0.2) w1)
  rw [back_signed hb0.1 hb0.2] at H14
  have hwl : width ≤ (((showS v 8 width).1.length : Nat) : Int) := by omega
  clear htab HT q1 q2 q3 hl
  generalize (showS v 8 width).1 = S at *
  generalize decS vi = dc at *
  have n1 : ∀ x : Int, (x == x) = true := fun x => by simp
  have hw1 : ¬ width < 0 := by omega
  have hw2 : ¬ 64 < width := by omega
  have hbw := Below.refl w.heap.size w
  have HB0 := hidD hbw
  clear hbw hb0 hw
  go_enter Tryd.func4, Tryd.ntmps4
  go_wp2_with (first
    | (go_at_call 12; refine (H12.out _ HB0.out).mono ?_; rintro e w1 ⟨rfl, hb1⟩)
    | (go_at_call 5; refine (H5.out _ (hb1.alloc hb1.size _)).mono ?_; rintro e w2 ⟨rfl, hb2⟩)
    | (go_at_call 13; refine (H13.out _).mono ?_; rintro e w' ⟨rfl, hw⟩; rw [hw]; clear hw w')
    | (go_at_call 8; refine (H8.out _ hb2).mono ?_; rintro e w3 ⟨rfl, hb3⟩)
    | (go_at_call 14; refine (H14.out _).mono ?_; rintro e w' ⟨rfl, hw⟩; rw [hw]; clear hw w')
    | (go_at_call 7; refine (no_any _ _).mono ?_; rintro e w' ⟨rfl, hw⟩; rw [hw]; clear hw w'))
  go_ret
  exact ⟨rfl, hb3⟩

theorem back_any (v : Nat) (which width : Int) (hv : v ≤ 18446744073709551615) (w : World) (htab : Lib.TabIs Tryd.prog w "internal/strconv.uint64pow10" .u64 Lib.pow10Tab) : Calls Tryd.prog 4 #[.int .u64 v, .int .i64 which, .int .i64 width] w fun e w' => e = .returned (.bool true) ∧ Below w.heap.size w w' := by
  by_cases hw : width < 0 ∨ 64 < width
  · rcases and3 which with h | h | h | h
    · exact back_out0 v which width h hv hw w
    · exact back_out1 v which width h hv hw w
    · exact back_out2 v which width h hv hw w
    · exact back_out3 v which width h hv hw w
  · rcases and3 which with h | h | h | h
    · exact back_in0 v which width h hv hw w htab
    · exact back_in1 v which width h hv hw w htab
    · exact back_in2 v which width h hv hw w htab
    · exact back_in3 v which width h hv hw w htab
end Go.Proofs.YtmmlmpcalhfigaaDoor
