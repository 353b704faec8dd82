/- What the document's Syndrome answers. -/
import Derived.Test.YtjmaejdkdpiigaaW2
import Derived.Deep.Cut
namespace Go.Proofs.Ytjmaejdkdpiigaa
open Go.RowKit
set_option linter.unusedVariables false

theorem i64_xor_nat (a b : Nat) (ha : a < 9223372036854775808) (hb : b < 9223372036854775808) : bits .xor .i64 (a : Int) (b : Int) = ((a ^^^ b : Nat) : Int) := by
  have hx : a ^^^ b < 2 ^ 63 := Nat.xor_lt_two_pow (by omega) (by omega)
  show IntKind.i64.wrap ((BitVec.ofInt 64 (a : Int) ^^^ BitVec.ofInt 64 (b : Int)).toNat : Int) = _
  rw [BitVec.toNat_xor, ofInt_u64 a (by omega), ofInt_u64 b (by omega), IntKind.wrap_i64]
  omega
theorem bit_u8 {v : Nat} (k : Nat) (hv : v < 256) : bits .and .u8 ((v : Int) / 2 ^ k) 1 = ((v.testBit k).toNat : Int) := by
  have h1 : (v : Int) / 2 ^ k = ((v / 2 ^ k : Nat) : Int) := by simp
  have h2 : v / 2 ^ k ≤ v := Nat.div_le_self _ _
  rw [h1, show (1 : Int) = ((1 : Nat) : Int) from rfl, u8_and_nat _ _ (by omega) (by omega), Nat.and_one_is_mod, bit_nat]
/- the check bits below i, but for the parity bit -/
def lowS (r c i : Nat) : Nat := c % 2 ^ (min i r)
theorem low_step : ∀ r < 8, ∀ i ≤ r, ∀ c < 256, lowS r c (i + 1) = lowS r c i ^^^ (if c.testBit i && decide (i < r) then 2 ^ i else 0) := by decide +kernel
theorem low_lt (r c i : Nat) (hr : r ≤ 7) : lowS r c i < 128 := by
  unfold lowS
  exact Nat.lt_of_lt_of_le (Nat.mod_lt _ (Nat.two_pow_pos _)) (Nat.pow_le_pow_right (n := 2) (by decide) (Nat.le_trans (Nat.min_le_right i r) hr))
set_option maxRecDepth 100000 in
set_option maxHeartbeats 3200000 in
theorem refSyndrome_ok {W r : Nat} (h : Wid W r) (D C : Nat) (hD : D < 2 ^ W) (hC : C < 2 ^ (r + 1)) (w : World) : Calls Try.prog 17 #[.int .i64 (W : Int), .agg (wdC D C)] w fun e w' => e = .returned (.tuple #[.int .i64 (synS W r D C : Int), .bool (decide (parS D C = 1)), .int .i64 0]) ∧ Below w.heap.size w w' := by
  have hr := h.le
  have hD64 : D < 18446744073709551616 := Nat.lt_of_lt_of_le hD (Nat.pow_le_pow_right (n := 2) (by decide) hr.1)
  have hC8 : C < 256 := Nat.lt_of_lt_of_le hC (Nat.pow_le_pow_right (n := 2) (by decide) (show r + 1 ≤ 8 by omega))
  have HV : Hid (∀ w, Calls Try.prog 12 #[.int .i64 (W : Int), .agg #[.int .u64 (D : Int), .int .u8 (C : Int)]] w fun e w' => e = .returned (.bool true) ∧ Below w.heap.size w w') := fun w => by have := refValid_any h D C hD64 hC8 w; rw [decide_eq_true ⟨hD, hC⟩] at this; exact this
  have HC : Hid (∀ w, Calls Try.prog 9 #[.int .i64 (W : Int)] w fun e w' => e = .returned (.tuple #[.int .i64 (r : Int), .int .i64 0]) ∧ w' = w) := fun w => refChecks_ok h w
  have CB : Hid (∀ w2, Below (w.alloc (.cells (wdC D C) 26)).heap.size (w.alloc (.cells (wdC D C) 26)) w2 → w2.cell? ⟨w.heap.size, 0, none⟩ = some (.int .u64 (D : Int)) ∧ w2.cell? ⟨w.heap.size, 1, none⟩ = some (.int .u8 (C : Int)) ∧ w2.heap[w.heap.size]? = some (.cells (wdC D C) 26 (0, 0)) ∧ Below w.heap.size w w2) := fun w2 hb => wd_next w D C _ w2 hb
  obtain ⟨k0, k1⟩ := wd_cells w D C 26
  have HSY : Hid (synS W r D C = pxTo D W ^^^ lowS r C (r + 1)) := by show _ = _; unfold synS lowS; rw [Nat.min_eq_right (by omega)]
  have HPA : Hid (parS D C = (onTo D W + onTo C (r + 1)) % 2) := by show _ = _; unfold parS; rw [on_small D W hD 64 hr.1, on_small C (r + 1) hC 8 (by omega)]
  clear hD hC
  go_enter Try.func17, Try.ntmps17
  go_wp2_with (go_at_call 9; refine (HC.out _).mono ?_; rintro e w3 ⟨rfl, hb3⟩)
  go_at_call 12
  refine (HV.out _).mono ?_
  rintro e w2 ⟨rfl, hb2⟩
  obtain ⟨c0, c1, hrow, hbel⟩ := CB.out _ hb2
  have HBL := hidD hbel
  clear k0 k1 hrow hbel hb2 CB HV HC
  go_wp2_with fail
  go_loopw [9, 10, 11] (fun s n k wr => ∃ j : Nat, j ≤ W ∧ k = .int .i64 j ∧ s = .int .i64 (pxTo D j : Int) ∧ n = .int .i64 (onTo D j : Int) ∧ wr = w2) (fun _ _ k _ => W - (intOf k).toNat)
  case atStart => exact ⟨0, Nat.zero_le _, rfl, rfl, rfl, rfl⟩
  case round =>
    obtain ⟨j, hj, rfl, rfl, rfl, rfl⟩ := hrel
    have hpx := px_lt128 D j (by omega)
    have hon := on_le D j
    by_cases hlt : j < W
    · have hlti : (j : Int) < W := by omega
      have hbit := bit_u64 j hD64
      have hpl := pos_lt j (by omega)
      have HPos : Hid (∀ w, Calls Try.prog 38 #[.int .i64 (j : Int)] w fun e w' => e = .returned (.int .i64 (posS j : Int)) ∧ w' = w) := fun w => refPosition_any j (by omega) w
      have hx : bits .xor .i64 (pxTo D j : Int) (posS j : Int) = ((pxTo D j ^^^ posS j : Nat) : Int) := i64_xor_nat _ _ (by omega) (by omega)
      have HS : Hid (pxTo D (j + 1) = pxTo D j ^^^ (if D.testBit j then posS j else 0)) := (rfl : _ = _)
      have HO : Hid (onTo D (j + 1) = onTo D j + (D.testBit j).toNat) := (rfl : _ = _)
      generalize D.testBit j = b at *
      generalize pxTo D j = T at *
      generalize onTo D j = U at *
      generalize posS j = P at *
      cases b
      · go_wp2_with fail
        go_roundw
        case rel => exact ⟨j + 1, by omega, by go_num, by rw [HS.out]; simp, by rw [HO.out]; simp, trivial⟩
        case measure => simp [intOf]; omega
      · go_wp2_with (go_at_call 38; refine (HPos.out _).mono ?_; rintro e wx ⟨rfl, hbx⟩)
        go_roundw
        case rel => exact ⟨j + 1, by omega, by go_num, by rw [HS.out]; simp, by rw [HO.out]; simp, trivial⟩
        case measure => simp [intOf]; omega
    · obtain rfl : j = W := by omega
      go_wp2_with fail
      generalize hTT : pxTo D j = T at *
      generalize hUU : onTo D j = U at *
      have HT := hidD hTT
      have HU := hidD hUU
      clear hTT hUU
      go_loopw [9, 10, 12] (fun s n k wq => ∃ i : Nat, i ≤ r + 1 ∧ k = .int .i64 i ∧ s = .int .i64 ((T ^^^ lowS r C i : Nat) : Int) ∧ n = .int .i64 ((U + onTo C i : Nat) : Int) ∧ wq = wr) (fun _ _ k _ => r + 1 - (intOf k).toNat)
      case atStart => exact ⟨0, Nat.zero_le _, rfl, by rw [show lowS r C 0 = 0 by unfold lowS; rw [Nat.zero_min, Nat.pow_zero, Nat.mod_one], Nat.xor_zero], rfl, rfl⟩
      case round =>
        obtain ⟨i, hi, rfl, rfl, rfl, rfl⟩ := hrel
        have hlo := low_lt r C i hr.2.1
        have hoc := on_le C i
        have hxl : T ^^^ lowS r C i < 128 := Nat.xor_lt_two_pow (n := 7) (by omega) hlo
        by_cases hlt : i ≤ r
        · have hlti : (i : Int) ≤ r := by omega
          have hbit := bit_u8 i hC8
          have hi8 : i ≤ 7 := by omega
          have h2i : (2 : Int) ^ i = ((2 ^ i : Nat) : Int) := by simp
          have h2l : 2 ^ i ≤ 2 ^ 7 := Nat.pow_le_pow_right (by decide) hi8
          have hS := low_step r (by omega) i hlt C hC8
          have hx : bits .xor .i64 ((T ^^^ lowS r C i : Nat) : Int) ((2 : Int) ^ i) = (((T ^^^ lowS r C i) ^^^ 2 ^ i : Nat) : Int) := by rw [h2i]; exact i64_xor_nat _ _ (by omega) (by omega)
          have h2b : (2 : Int) ^ i ≤ 128 := by rw [h2i]; omega
          have h2p : (0 : Int) < (2 : Int) ^ i := Int.pow_pos (by decide)
          have hm1 : (1 : Int) * 2 ^ i = 2 ^ i := Int.one_mul _
          have HO : Hid (onTo C (i + 1) = onTo C i + (C.testBit i).toNat) := (rfl : _ = _)
          have HSx : Hid (T ^^^ lowS r C (i + 1) = (T ^^^ lowS r C i) ^^^ (if C.testBit i && decide (i < r) then 2 ^ i else 0)) := by show _ = _; rw [hS, ← Nat.xor_assoc]
          clear h2i h2l hS
          generalize C.testBit i = b at *
          generalize T ^^^ lowS r C i = X at *
          generalize onTo C i = Y at *
          cases b
          · go_wp2_with fail
            go_roundw
            case rel => exact ⟨i + 1, by omega, by go_num, by rw [HSx.out]; simp, by rw [HO.out]; simp, trivial⟩
            case measure => simp [intOf]; omega
          · by_cases hir : i < r
            · have hiri : (i : Int) < r := by omega
              rw [decide_eq_true hir] at HSx
              go_wp2_with fail
              go_roundw
              case rel => exact ⟨i + 1, by omega, by go_num, by rw [HSx.out]; simp, by rw [HO.out]; simp; omega, trivial⟩
              case measure => simp [intOf]; omega
            · have hiri : ¬ (i : Int) < r := by omega
              rw [decide_eq_false hir] at HSx
              go_wp2_with fail
              go_roundw
              case rel => exact ⟨i + 1, by omega, by go_num, by rw [HSx.out]; simp, by rw [HO.out]; simp; omega, trivial⟩
              case measure => simp [intOf]; omega
        · obtain rfl : i = r + 1 := by omega
          have hlti : ¬ ((r + 1 : Nat) : Int) ≤ r := by omega
          have hmd : ((U + onTo C (r + 1) : Nat) : Int).tmod 2 = (((U + onTo C (r + 1)) % 2 : Nat) : Int) := rfl
          have HF : Hid (((((U + onTo C (r + 1)) % 2 : Nat) : Int) == 1) = decide (parS D C = 1)) := by
            show _ = _
            rw [HPA.out]
            rcases Nat.mod_two_eq_zero_or_one (U + onTo C (r + 1)) with e | e <;> rw [e] <;> rfl
          have HG : Hid (synS j r D C = T ^^^ lowS r C (r + 1)) := by show _ = _; rw [HSY.out]
          generalize (U + onTo C (r + 1)) % 2 = M2 at *
          generalize U + onTo C (r + 1) = M at *
          generalize T ^^^ lowS r C (r + 1) = X at *
          go_wp2_with fail
          refine bodyPost_ret (v := .tuple #[.int .i64 (X : Int), .bool ((M2 : Int) == 1), .int .i64 0]) (by simp [results, Try.results17, go_sem]) rfl ⟨by rw [HG.out, HF.out], HBL.out⟩
end Go.Proofs.Ytjmaejdkdpiigaa
