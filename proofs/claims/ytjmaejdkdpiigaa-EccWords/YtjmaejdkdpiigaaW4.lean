/- What the document's Distance answers of two words. -/
import Derived.Test.YtjmaejdkdpiigaaW3
import Derived.Test.YtjmaejdkdpiigaaE8
namespace Go.Proofs.Ytjmaejdkdpiigaa
open Go.RowKit
set_option linter.unusedVariables false

theorem Try.zeroRw : (Try.prog.info? 26).map (fun i => (i.zero, i.size)) = some (some (.agg #[.int .u64 0, .int .u8 0]), 2) := by kernel_rfl
set_option maxRecDepth 100000 in
set_option maxHeartbeats 3200000 in
theorem refDistance_ok {W r : Nat} (h : Wid W r) (D C D' C' : Nat) (hD : D < 2 ^ W) (hC : C < 2 ^ (r + 1)) (hD' : D' < 2 ^ W) (hC' : C' < 2 ^ (r + 1)) (w : World) : Calls Try.prog 23 #[.int .i64 (W : Int), .agg (wdC D C), .agg (wdC D' C')] w fun e w' => e = .returned (.tuple #[.int .i64 ((onTo (D ^^^ D') 64 + onTo (C ^^^ C') 8 : Nat) : Int), .int .i64 0]) ∧ Below w.heap.size w w' := by
  have hr := h.le
  have p64 : ∀ x, x < 2 ^ W → x < 18446744073709551616 := fun x hx => Nat.lt_of_lt_of_le hx (Nat.pow_le_pow_right (n := 2) (by decide) hr.1)
  have p8 : ∀ x, x < 2 ^ (r + 1) → x < 256 := fun x hx => Nat.lt_of_lt_of_le hx (Nat.pow_le_pow_right (n := 2) (by decide) (show r + 1 ≤ 8 by omega))
  have HV1 : Hid (∀ w, Calls Try.prog 12 #[.int .i64 (W : Int), .agg (wdC D C)] w fun e w' => e = .returned (.bool true) ∧ Below w.heap.size w w') := fun w => by have := refValid_any h D C (p64 _ hD) (p8 _ hC) w; rw [decide_eq_true ⟨hD, hC⟩] at this; exact this
  have HV2 : Hid (∀ w, Calls Try.prog 12 #[.int .i64 (W : Int), .agg (wdC D' C')] w fun e w' => e = .returned (.bool true) ∧ Below w.heap.size w w') := fun w => by have := refValid_any h D' C' (p64 _ hD') (p8 _ hC') w; rw [decide_eq_true ⟨hD', hC'⟩] at this; exact this
  have hx1 : bits .xor .u64 (D : Int) (D' : Int) = ((D ^^^ D' : Nat) : Int) := u64_xor_nat _ _ (p64 _ hD) (p64 _ hD')
  have hx2 : bits .xor .u8 (C : Int) (C' : Int) = ((C ^^^ C' : Nat) : Int) := u8_xor_nat _ _ (p8 _ hC) (p8 _ hC')
  have hX64 : D ^^^ D' < 18446744073709551616 := Nat.xor_lt_two_pow (n := 64) (p64 _ hD) (p64 _ hD')
  have hX8 : C ^^^ C' < 256 := Nat.xor_lt_two_pow (n := 8) (p8 _ hC) (p8 _ hC')
  have HT := hidD (two_blocks w (wdC D C) (wdC D' C') 26)
  obtain ⟨hz, hsz⟩ := zero_of_info Try.zeroRw
  have HIw : Hid (∀ D C, (Try.prog.info? 26).map (·.size) = some (wdC D C).size) := fun _ _ => hsz
  clear hsz hD hC hD' hC' p64 p8 hz
  generalize C ^^^ C' = X8 at *
  generalize D ^^^ D' = X at *
  have hrow0 := HT.out.1
  have hrow1 := HT.out.2.1
  have HBL := hidD HT.out.2.2.1
  clear HT
  have HK0 : Hid (∀ w2, Below ((w.alloc (.cells (wdC D C) 26)).alloc (.cells (wdC D' C') 26)).heap.size ((w.alloc (.cells (wdC D C) 26)).alloc (.cells (wdC D' C') 26)) w2 → w2.heap[w.heap.size]? = some (.cells (wdC D C) 26 (0, 0)) ∧ w2.heap[w.heap.size + 1]? = some (.cells (wdC D' C') 26 (0, 0)) ∧ Below w.heap.size w w2) := fun w2 hb => ⟨(hb.block _ (row_lt hrow0)).trans hrow0, (hb.block _ (row_lt hrow1)).trans hrow1, Below.next HBL.out hb⟩
  go_enter Try.func23, Try.ntmps23
  go_wp2_with (first | (refine wpList_load_row rfl 26 _ rfl w.heap.size rfl 26 (wdC D C) (0, 0) _ hrow0 Try.underlying26 rfl (HIw.out _ _) ?_) | fail)
  go_at_call 12
  refine (HV1.out _).mono ?_
  rintro e w2 ⟨rfl, hb2⟩
  obtain ⟨ha0, ha1, hba⟩ := HK0.out _ hb2
  obtain ⟨k0, k1⟩ := wd_at ha1
  go_wp2_with fail
  go_at_call 12
  refine (HV2.out _).mono ?_
  rintro e w3 ⟨rfl, hb3⟩
  have hr0 := (hb3.block _ (row_lt ha0)).trans ha0
  have hr1 := (hb3.block _ (row_lt ha1)).trans ha1
  have HBB := hidD (Below.next hba hb3)
  clear k0 k1 hb2 hb3 ha0 ha1 hba hrow0 hrow1 HK0 HBL HV1 HV2
  obtain ⟨c0, c1⟩ := wd_at hr0
  obtain ⟨c2, c3⟩ := wd_at hr1
  clear hr0 hr1
  go_wp2_with fail
  go_loopw [8, 9] (fun n k wr => ∃ j : Nat, j ≤ 64 ∧ k = .int .i64 j ∧ n = .int .i64 (onTo X j : Int) ∧ wr = w3) (fun _ k _ => 64 - (intOf k).toNat)
  case atStart => exact ⟨0, Nat.zero_le _, rfl, rfl, rfl⟩
  case round =>
    obtain ⟨j, hj, rfl, rfl, rfl⟩ := hrel
    have hon := on_le X j
    by_cases hlt : j < 64
    · have hlti : (j : Int) < 64 := by omega
      have hbit := bit_u64 j hX64
      have HO : Hid (onTo X (j + 1) = onTo X j + (X.testBit j).toNat) := (rfl : _ = _)
      generalize X.testBit j = b at *
      generalize onTo X j = U at *
      cases b
      all_goals
        go_wp2_with fail
        go_roundw
        case rel => exact ⟨j + 1, by omega, by go_num, by rw [HO.out]; simp, trivial⟩
        case measure => simp [intOf]; omega
    · obtain rfl : j = 64 := by omega
      generalize hU : onTo X 64 = U at *
      have HU := hidD hU
      clear hU
      go_wp2_with fail
      go_loopw [8, 10] (fun n k wq => ∃ i : Nat, i ≤ 8 ∧ k = .int .i64 i ∧ n = .int .i64 ((U + onTo X8 i : Nat) : Int) ∧ wq = wr) (fun _ k _ => 8 - (intOf k).toNat)
      case atStart => exact ⟨0, Nat.zero_le _, rfl, rfl, rfl⟩
      case round =>
        obtain ⟨i, hi, rfl, rfl, rfl⟩ := hrel
        have hon8 := on_le X8 i
        by_cases hlt : i < 8
        · have hlti : (i : Int) < 8 := by omega
          have hbit := bit_u8 i hX8
          have HO : Hid (onTo X8 (i + 1) = onTo X8 i + (X8.testBit i).toNat) := (rfl : _ = _)
          generalize X8.testBit i = b at *
          generalize onTo X8 i = Y at *
          cases b
          all_goals
            go_wp2_with fail
            go_roundw
            case rel => exact ⟨i + 1, by omega, by go_num, by rw [HO.out]; simp; try omega, trivial⟩
            case measure => simp [intOf]; omega
        · obtain rfl : i = 8 := by omega
          go_wp2_with fail
          go_ret2
          exact ⟨by first | rfl | (rw [HU.out]; rfl) | (rw [HU.out]), HBB.out⟩
end Go.Proofs.Ytjmaejdkdpiigaa
