/- What the calls of ecc answer: positions, widths, bits at positions. -/
import Derived.Test.YtjnfnihhihncmaaE1
namespace Go.Proofs.Ytjnfnihhihncmaa
open Go.RowKit
set_option linter.unusedVariables false

set_option maxRecDepth 100000 in
theorem positionOf_any (i : Nat) (hi : i < 64) (w : World) : Calls Try.prog 92 #[.int .i64 (i : Int)] w fun e w' => e = .returned (.int .i64 (posS i : Int)) ∧ w' = w := by
  go_enter Try.func92, Try.ntmps92
  go_wp2_with fail
  go_loopw [3, 4] (fun p q wr => ∃ k : Nat, k ≤ 7 ∧ p = .int .i64 ((i + 1 + k : Nat) : Int) ∧ q = .int .i64 ((2 ^ k : Nat) : Int) ∧ Hid (∀ j < k, 2 ^ j ≤ i + 1 + j) ∧ wr = w) (fun p _ _ => 100 - (intOf p).toNat)
  case atStart => exact ⟨0, by omega, by simp, rfl, fun j hj => by omega, rfl⟩
  case round =>
    obtain ⟨k, hk, rfl, rfl, HJ, rfl⟩ := hrel
    have h7 : 2 ^ k ≤ 128 := Nat.pow_le_pow_right (n := 2) (by decide) hk
    have HK : Hid (2 ^ k ≤ i + 1 + k → k < 7) := fun h => by
      rcases Nat.lt_or_ge k 7 with h8 | h8
      · exact h8
      · obtain rfl : k = 7 := by omega
        omega
    have HP : Hid (2 ^ (k + 1) = 2 ^ k * 2) := Nat.pow_succ 2 k
    have HE : Hid (i + 1 + k < 2 ^ k → i + 1 + k = posS i) := fun h => pos_found i hi k (by omega) h HJ.out
    have HI : Hid (2 ^ k ≤ i + 1 + k → ∀ j < k + 1, 2 ^ j ≤ i + 1 + j) := fun h j hj => by
      rcases Nat.lt_or_ge j k with h8 | h8
      · exact HJ.out j h8
      · obtain rfl : j = k := by omega
        exact h
    generalize 2 ^ k = P at *
    have hm : (i + 1 + k : Nat) ≤ 72 := by omega
    by_cases hc : P ≤ i + 1 + k
    · have HQ : Hid (i + 1 + (k + 1) = (i + 1 + k) + 1) := (rfl : _ = _)
      have hK := HK.out hc
      have HI2 := HI.out hc
      have HM : Hid (i + 1 + k = i + 1 + k) := (rfl : _ = _)
      generalize i + 1 + k = M at *
      have hci : (P : Int) ≤ (M : Int) := by omega
      go_wp2_with fail
      go_roundw
      case rel => exact ⟨k + 1, by omega, by rw [HQ.out]; go_num, by rw [HP.out]; go_num, HI2, trivial⟩
      case measure => simp [intOf]; omega
    · have hc2 := HE.out (by omega)
      have hcP : ¬ P ≤ posS i := by rw [← hc2]; exact hc
      rw [hc2]
      have hci : ¬ (P : Int) ≤ (posS i : Int) := by omega
      clear HE HI HK HP hc hm hc2
      go_wp2_with fail
      go_ret
      exact ⟨rfl, rfl⟩

theorem checks_ok {W r : Nat} (h : Wid W r) (w : World) : Calls Try.prog 75 #[.int .i64 (W : Int)] w fun e w' => e = .returned (.tuple #[.int .i64 (r : Int), .int .i64 0]) ∧ w' = w := by
  rcases h with ⟨rfl, rfl⟩ | ⟨rfl, rfl⟩ | ⟨rfl, rfl⟩ | ⟨rfl, rfl⟩
  all_goals
    go_enter Try.func75, Try.ntmps75
    go_wp2_with fail
    go_ret2
    exact ⟨rfl, rfl⟩
/- no width -/
def NoWid (x : Int) : Prop := x ≠ 8 ∧ x ≠ 16 ∧ x ≠ 32 ∧ x ≠ 64
theorem wid_or (x : Int) : NoWid x ∨ ∃ W r : Nat, Wid W r ∧ x = (W : Int) := by
  unfold NoWid Wid
  by_cases h1 : x = 8
  · exact Or.inr ⟨8, 4, Or.inl ⟨rfl, rfl⟩, h1⟩
  · by_cases h2 : x = 16
    · exact Or.inr ⟨16, 5, Or.inr (Or.inl ⟨rfl, rfl⟩), h2⟩
    · by_cases h3 : x = 32
      · exact Or.inr ⟨32, 6, Or.inr (Or.inr (Or.inl ⟨rfl, rfl⟩)), h3⟩
      · by_cases h4 : x = 64
        · exact Or.inr ⟨64, 7, Or.inr (Or.inr (Or.inr ⟨rfl, rfl⟩)), h4⟩
        · exact Or.inl ⟨h1, h2, h3, h4⟩
theorem checks_no {x : Int} (h : NoWid x) (w : World) : Calls Try.prog 75 #[.int .i64 x] w fun e w' => e = .returned (.tuple #[.int .i64 0, .int .i64 1]) ∧ w' = w := by
  obtain ⟨h1, h2, h3, h4⟩ := h
  go_enter Try.func75, Try.ntmps75
  go_wp2_with fail
  go_ret2
  exact ⟨rfl, rfl⟩

theorem fits_any (d W : Nat) (hd : d < 18446744073709551616) (hW : W ≤ 64) (w : World) : Calls Try.prog 76 #[.int .u64 (d : Int), .int .i64 (W : Int)] w fun e w' => e = .returned (.bool (decide (d < 2 ^ W))) ∧ w' = w := by
  have hq : (d : Int) / 2 ^ W = ((d / 2 ^ W : Nat) : Int) := by simp
  have hl : d / 2 ^ W ≤ d := Nat.div_le_self _ _
  by_cases h : d < 2 ^ W
  · have h0 : d / 2 ^ W = 0 := Nat.div_eq_of_lt h
    rw [h0] at hq
    rw [decide_eq_true h]
    clear h0 hl h
    go_enter Try.func76, Try.ntmps76
    go_wp2_with fail
    go_ret
    exact ⟨rfl, rfl⟩
  · have h0 : 0 < d / 2 ^ W := Nat.div_pos (by omega) (Nat.two_pow_pos _)
    rw [decide_eq_false h]
    generalize d / 2 ^ W = q at *
    clear h
    have hne : ((q : Int) == 0) = false := by simp; omega
    go_enter Try.func76, Try.ntmps76
    go_wp2_with fail
    go_ret
    exact ⟨by first | rfl | (show Ending.returned (.bool ((q : Int) == 0)) = _; rw [hne]), rfl⟩

set_option maxRecDepth 100000 in
set_option maxHeartbeats 800000 in
theorem positionsOf_any (d W : Nat) (hd : d < 18446744073709551616) (hW : W ≤ 64) (w : World) : Calls Try.prog 90 #[.int .u64 (d : Int), .int .i64 (W : Int)] w fun e w' => e = .returned (.int .u8 (pxTo d W : Int)) ∧ w' = w := by
  go_enter Try.func90, Try.ntmps90
  go_wp2_with fail
  go_loopw [5, 8] (fun t i wr => ∃ k : Nat, k ≤ W ∧ i = .int .i64 k ∧ t = .int .u8 (pxTo d k : Int) ∧ wr = w) (fun _ i _ => W - (intOf i).toNat)
  case atStart => exact ⟨0, Nat.zero_le _, rfl, rfl, rfl⟩
  case round =>
    obtain ⟨k, hk, rfl, rfl, rfl⟩ := hrel
    have hT := px_lt128 d k (by omega)
    by_cases hlt : k < W
    · have hlti : (k : Int) < W := by omega
      have hbit := bit_u64 k hd
      have hp := pos_lt k (by omega)
      have hk64 : k < 64 := by omega
      have HC : Hid (∀ w, Calls Try.prog 92 #[.int .i64 (k : Int)] w fun e w' => e = .returned (.int .i64 (posS k : Int)) ∧ w' = w) := fun w => positionOf_any k hk64 w
      have hx : bits .xor .u8 (pxTo d k : Int) (posS k : Int) = ((pxTo d k ^^^ posS k : Nat) : Int) := u8_xor_nat _ _ (by omega) (by omega)
      have HS : Hid (pxTo d (k + 1) = pxTo d k ^^^ (if d.testBit k then posS k else 0)) := (rfl : _ = _)
      generalize d.testBit k = b at *
      generalize pxTo d k = T at *
      generalize posS k = P at *
      cases b
      · go_wp2_with fail
        go_roundw
        case rel => exact ⟨k + 1, by omega, by go_num, by rw [HS.out]; simp, trivial⟩
        case measure => simp [intOf]; omega
      · go_wp2_with (go_at_call 92; refine (HC.out _).mono ?_; rintro e w2 ⟨rfl, hb2⟩)
        go_roundw
        case rel => exact ⟨k + 1, by omega, by go_num, by rw [HS.out]; simp, trivial⟩
        case measure => simp [intOf]; omega
    · obtain rfl : k = W := by omega
      go_wp2_with fail
      go_ret
      exact ⟨rfl, rfl⟩

/- A: the first check bit at this position -/
set_option maxRecDepth 100000 in
set_option maxHeartbeats 800000 in
theorem checkBitAt_any {W r : Nat} (h : Wid W r) (s A : Nat) (hs : s < 128) (hs0 : s ≠ 0) (hA : A ≤ r) (hb : ∀ j < A, s ≠ 2 ^ j) (ha : A < r → s = 2 ^ A) (w : World) : Calls Try.prog 72 #[.int .i64 (s : Int), .int .i64 (W : Int)] w fun e w' => e = .returned (.tuple #[.int .i64 ((if A < r then A else 0 : Nat) : Int), .bool (decide (A < r))]) ∧ w' = w := by
  have HC : Hid (∀ w, Calls Try.prog 75 #[.int .i64 (W : Int)] w fun e w' => e = .returned (.tuple #[.int .i64 (r : Int), .int .i64 0]) ∧ w' = w) := fun w => checks_ok h w
  have hr := h.le
  have HB := hidD hb
  have HA := hidD ha
  clear hb ha
  have hsi : ¬ (s : Int) = 0 := by omega
  go_enter Try.func72, Try.ntmps72
  go_wp2_with (go_at_call 75; refine (HC.out _).mono ?_; rintro e w2 ⟨rfl, hb2⟩)
  go_loopw [18] (fun i wr => ∃ k : Nat, k ≤ A ∧ i = .int .i64 k ∧ wr = w) (fun i _ => r - (intOf i).toNat)
  case atStart => exact ⟨0, Nat.zero_le _, rfl, rfl⟩
  case round =>
    obtain ⟨k, hk, rfl, rfl⟩ := hrel
    by_cases hlt : k < A
    · have hlti : (k : Int) < r := by omega
      have hne : ¬ (s : Int) = (2 : Int) ^ k := by
        have := HB.out k hlt
        have h2 : ((2 ^ k : Nat) : Int) = (2 : Int) ^ k := by simp
        rw [← h2]; omega
      have hlt2 : (2 : Int) ^ k < 128 := by
        have h3 : 2 ^ k < 2 ^ 7 := Nat.pow_lt_pow_right (by decide) (by omega)
        have h2 : ((2 ^ k : Nat) : Int) = (2 : Int) ^ k := by simp
        rw [← h2]; omega
      have hge2 : (0 : Int) < (2 : Int) ^ k := Int.pow_pos (by decide)
      go_wp2_with fail
      go_roundw
      case rel => exact ⟨k + 1, by omega, by go_num, trivial⟩
      case measure => simp [intOf]; omega
    · obtain rfl : k = A := by omega
      by_cases hr2 : k < r
      · have hlti : (k : Int) < r := by omega
        have he : (s : Int) = (2 : Int) ^ k := by rw [HA.out hr2]; simp
        have hlt2 : (2 : Int) ^ k < 128 := by rw [← he]; omega
        have hge2 : (0 : Int) < (2 : Int) ^ k := by rw [← he]; omega
        go_wp2_with fail
        go_ret2
        exact ⟨rfl, rfl⟩
      · have hlti : ¬ (k : Int) < r := by omega
        go_wp2_with fail
        go_ret2
        exact ⟨rfl, rfl⟩
set_option maxRecDepth 100000 in
theorem checkBitAt_zero {W r : Nat} (h : Wid W r) (w : World) : Calls Try.prog 72 #[.int .i64 0, .int .i64 (W : Int)] w fun e w' => e = .returned (.tuple #[.int .i64 (r : Int), .bool true]) ∧ w' = w := by
  have HC : Hid (∀ w, Calls Try.prog 75 #[.int .i64 (W : Int)] w fun e w' => e = .returned (.tuple #[.int .i64 (r : Int), .int .i64 0]) ∧ w' = w) := fun w => checks_ok h w
  go_enter Try.func72, Try.ntmps72
  go_wp2_with (go_at_call 75; refine (HC.out _).mono ?_; rintro e w2 ⟨rfl, hb2⟩)
  go_ret2
  exact ⟨rfl, rfl⟩
/- A: the first data bit at this position -/
set_option maxRecDepth 100000 in
set_option maxHeartbeats 800000 in
theorem dataBitAt_any {W r : Nat} (h : Wid W r) (s A : Nat) (hs : s < 128) (hA : A ≤ W) (hb : ∀ j < A, s ≠ posS j) (ha : A < W → s = posS A) (w : World) : Calls Try.prog 73 #[.int .i64 (s : Int), .int .i64 (W : Int)] w fun e w' => e = .returned (.tuple #[.int .i64 ((if A < W then A else 0 : Nat) : Int), .bool (decide (A < W))]) ∧ w' = w := by
  have hr := h.le
  have HB := hidD hb
  have HA := hidD ha
  clear hb ha
  go_enter Try.func73, Try.ntmps73
  go_wp2_with fail
  go_loopw [8] (fun i wr => ∃ k : Nat, k ≤ A ∧ i = .int .i64 k ∧ wr = w) (fun i _ => W - (intOf i).toNat)
  case atStart => exact ⟨0, Nat.zero_le _, rfl, rfl⟩
  case round =>
    obtain ⟨k, hk, rfl, rfl⟩ := hrel
    by_cases hlt : k < W
    · have hlti : (k : Int) < W := by omega
      have HC : Hid (∀ w, Calls Try.prog 92 #[.int .i64 (k : Int)] w fun e w' => e = .returned (.int .i64 (posS k : Int)) ∧ w' = w) := fun w => positionOf_any k (by omega) w
      by_cases hlt2 : k < A
      · have hne : ¬ (s : Int) = (posS k : Int) := by
          have := HB.out k hlt2
          omega
        generalize (posS k : Int) = P at *
        go_wp2_with (go_at_call 92; refine (HC.out _).mono ?_; rintro e w2 ⟨rfl, hb2⟩)
        go_roundw
        case rel => exact ⟨k + 1, by omega, by go_num, trivial⟩
        case measure => simp [intOf]; omega
      · obtain rfl : k = A := by omega
        have he : (s : Int) = (posS k : Int) := by rw [HA.out hlt]
        rw [← he] at HC
        go_wp2_with (go_at_call 92; refine (HC.out _).mono ?_; rintro e w2 ⟨rfl, hb2⟩)
        go_ret2
        exact ⟨rfl, rfl⟩
    · obtain rfl : k = A := by omega
      have hlti : ¬ (k : Int) < W := by omega
      go_wp2_with fail
      go_ret2
      exact ⟨rfl, rfl⟩
end Go.Proofs.Ytjnfnihhihncmaa
