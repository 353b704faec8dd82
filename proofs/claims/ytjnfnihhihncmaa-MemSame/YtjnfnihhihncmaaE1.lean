/- What the small calls of bits and ecc answer: ones, parity, positions, widths. -/
import Derived.Test.YtjnfnihhihncmaaUtl
import Derived.Test.YtjnfnihhihncmaaEpl
import Derived.BigQuiet
import Derived.Laws.ShiftsVarLaws
import Derived.Laws.BitsAllLaws
import Derived.Laws.Unary
namespace Go.Proofs.Ytjnfnihhihncmaa
open Go.RowKit
set_option linter.unusedVariables false

theorem bit_nat (v k : Nat) : v / 2 ^ k % 2 = (v.testBit k).toNat := by
  rw [Nat.testBit_eq_decide_div_mod_eq]
  by_cases h : v / 2 ^ k % 2 = 1
  · simp [h]
  · have : v / 2 ^ k % 2 = 0 := by omega
    simp [this]
theorem bit_u32 {v : Nat} (k : Nat) (hv : v < 4294967296) : bits .and .u32 ((v : Int) / 2 ^ k) 1 = ((v.testBit k).toNat : Int) := by
  have h1 : (v : Int) / 2 ^ k = ((v / 2 ^ k : Nat) : Int) := by simp
  have h2 : v / 2 ^ k ≤ v := Nat.div_le_self _ _
  rw [h1, show (1 : Int) = ((1 : Nat) : Int) from rfl, u32_and_nat _ _ (by omega) (by omega), Nat.and_one_is_mod, bit_nat]
theorem bit_u64 {v : Nat} (k : Nat) (hv : v < 18446744073709551616) : bits .and .u64 ((v : Int) / 2 ^ k) 1 = ((v.testBit k).toNat : Int) := by
  have h1 : (v : Int) / 2 ^ k = ((v / 2 ^ k : Nat) : Int) := by simp
  have h2 : v / 2 ^ k ≤ v := Nat.div_le_self _ _
  rw [h1, show (1 : Int) = ((1 : Nat) : Int) from rfl, u64_and_nat _ _ (by omega) (by omega), Nat.and_one_is_mod, bit_nat]

set_option maxRecDepth 100000 in
theorem onesOf_any (v n : Nat) (hv : v < 4294967296) (hn : n ≤ 32) (w : World) : Calls Try.prog 102 #[.int .u32 (v : Int), .int .i64 (n : Int)] w fun e w' => e = .returned (.int .i64 (onTo v n : Int)) ∧ w' = w := by
  go_enter Try.func102, Try.ntmps102
  go_wp2_with fail
  go_loopw [5, 8] (fun t i wr => ∃ k : Nat, k ≤ n ∧ i = .int .i64 k ∧ t = .int .i64 (onTo v k : Int) ∧ wr = w) (fun _ i _ => n - (intOf i).toNat)
  case atStart => exact ⟨0, Nat.zero_le _, rfl, rfl, rfl⟩
  case round =>
    obtain ⟨k, hk, rfl, rfl, rfl⟩ := hrel
    have ho := on_le v k
    by_cases hlt : k < n
    · have hlti : (k : Int) < n := by omega
      have hbit := bit_u32 k hv
      have hS : onTo v (k + 1) = onTo v k + (v.testBit k).toNat := rfl
      have HS := hidD hS
      clear hS
      generalize onTo v k = T at *
      generalize v.testBit k = b at *
      cases b
      · go_wp2_with fail
        go_roundw
        case rel => exact ⟨k + 1, by omega, by go_num, by rw [HS.out]; simp, trivial⟩
        case measure => simp [intOf]; omega
      · go_wp2_with fail
        go_roundw
        case rel => exact ⟨k + 1, by omega, by go_num, by rw [HS.out]; simp, trivial⟩
        case measure => simp [intOf]; omega
    · obtain rfl : k = n := by omega
      go_wp2_with fail
      go_ret
      exact ⟨rfl, rfl⟩

set_option maxRecDepth 100000 in
theorem ones_any (c : Nat) (hc : c < 256) (w : World) : Calls Try.prog 101 #[.int .u8 (c : Int)] w fun e w' => e = .returned (.int .i64 (onTo c 8 : Int)) ∧ w' = w := by
  have H : Hid (∀ w, Calls Try.prog 102 #[.int .u32 (c : Int), .int .i64 8] w fun e w' => e = .returned (.int .i64 (onTo c 8 : Int)) ∧ w' = w) := fun w => onesOf_any c 8 (by omega) (by omega) w
  generalize (onTo c 8 : Int) = R at *
  go_enter Try.func101, Try.ntmps101
  go_wp2_with (go_at_call 102; refine (H.out _).mono ?_; rintro e w2 ⟨rfl, hb2⟩)
  go_ret
  exact ⟨rfl, rfl⟩

set_option maxRecDepth 100000 in
theorem parity_any (c : Nat) (hc : c < 256) (w : World) : Calls Try.prog 99 #[.int .u8 (c : Int)] w fun e w' => e = .returned (.int .i64 ((onTo c 8 % 2 : Nat) : Int)) ∧ w' = w := by
  have H : Hid (∀ w, Calls Try.prog 101 #[.int .u8 (c : Int)] w fun e w' => e = .returned (.int .i64 (onTo c 8 : Int)) ∧ w' = w) := fun w => ones_any c hc w
  have h := on_le c 8
  generalize onTo c 8 = R at *
  have ha : bits .and .i64 (R : Int) 1 = ((R % 2 : Nat) : Int) := by
    have : ∀ R ≤ 8, bits .and .i64 ((R : Nat) : Int) 1 = ((R % 2 : Nat) : Int) := by decide +kernel
    exact this R h
  generalize ((R % 2 : Nat) : Int) = R2 at *
  go_enter Try.func99, Try.ntmps99
  go_wp2_with (go_at_call 101; refine (H.out _).mono ?_; rintro e w2 ⟨rfl, hb2⟩)
  go_ret
  exact ⟨rfl, rfl⟩

/- the parity of the bytes of d, k of them gone -/
theorem par_step (d k : Nat) : onTo d (8 * (k + 1)) = onTo d (8 * k) + onTo (d / 2 ^ (8 * k) % 256) 8 := by
  rw [show 8 * (k + 1) = 8 * k + 8 by omega, on_add, show 256 = 2 ^ 8 from rfl, on_mod _ 8 8 (Nat.le_refl _)]

set_option maxRecDepth 100000 in
set_option maxHeartbeats 800000 in
theorem parityOf_any (d c : Nat) (hd : d < 18446744073709551616) (hc : c < 256) (w : World) : Calls Try.prog 91 #[.int .u64 (d : Int), .int .u8 (c : Int)] w fun e w' => e = .returned (.int .u8 (parS d c : Int)) ∧ w' = w := by
  have HC : Hid (∀ w, Calls Try.prog 99 #[.int .u8 (c : Int)] w fun e w' => e = .returned (.int .i64 ((onTo c 8 % 2 : Nat) : Int)) ∧ w' = w) := fun w => parity_any c hc w
  have HP : Hid (∀ k : Nat, ∀ w, Calls Try.prog 99 #[.int .u8 (((d / 2 ^ (8 * k) % 256 : Nat)) : Int)] w fun e w' => e = .returned (.int .i64 ((onTo (d / 2 ^ (8 * k) % 256) 8 % 2 : Nat) : Int)) ∧ w' = w) := fun k w => parity_any _ (Nat.mod_lt _ (by decide)) w
  go_enter Try.func91, Try.ntmps91
  go_wp2_with (go_at_call 99; refine (HC.out _).mono ?_; rintro e w2 ⟨rfl, hb2⟩)
  go_loopw [0, 5] (fun x t wr => ∃ k : Nat, k ≤ 8 ∧ x = .int .u64 ((d / 2 ^ (8 * k) : Nat) : Int) ∧ t = .int .i64 (((onTo d (8 * k) + onTo c 8) % 2 : Nat) : Int) ∧ wr = w) (fun x _ _ => (intOf x).toNat)
  case atStart => exact ⟨0, Nat.zero_le _, by simp, by rw [show onTo d (8 * 0) = 0 from rfl, Nat.zero_add]; simp, rfl⟩
  case round =>
    obtain ⟨k, hk, rfl, rfl, rfl⟩ := hrel
    have hq : d / 2 ^ (8 * k) < 18446744073709551616 := Nat.lt_of_le_of_lt (Nat.div_le_self _ _) hd
    have HX : Hid (d / 2 ^ (8 * (k + 1)) = d / 2 ^ (8 * k) / 256) := by
      show _ = _
      rw [show 8 * (k + 1) = 8 * k + 8 by omega, Nat.pow_add, Nat.div_div_eq_div_mul]
    have HK : Hid (d / 2 ^ (8 * k) ≠ 0 → k < 8) := fun h => by
      rcases Nat.lt_or_ge k 8 with h8 | h8
      · exact h8
      · obtain rfl : k = 8 := by omega
        exact absurd (Nat.div_eq_of_lt hd) h
    have HE : Hid (d / 2 ^ (8 * k) = 0 → onTo d (8 * k) = onTo d 64) := fun h => by
      have h1 : d < 2 ^ (8 * k) := by
        rcases Nat.lt_or_ge d (2 ^ (8 * k)) with h8 | h8
        · exact h8
        · have := Nat.div_pos h8 (Nat.two_pow_pos _); omega
      exact (on_small d (8 * k) h1 64 (by omega)).symm
    have HO := hidD (par_step d k)
    have HPk : Hid (∀ w, Calls Try.prog 99 #[.int .u8 (((d / 2 ^ (8 * k) : Nat) : Int) % 256)] w fun e w' => e = .returned (.int .i64 ((onTo (d / 2 ^ (8 * k) % 256) 8 % 2 : Nat) : Int)) ∧ w' = w) := fun w => HP.out k w
    clear HP
    have hx : ∀ a b : Nat, bits .xor .i64 ((a % 2 : Nat) : Int) ((b % 2 : Nat) : Int) = (((a + b) % 2 : Nat) : Int) := fun a b => by
      have h1 : a % 2 = 0 ∨ a % 2 = 1 := by omega
      have h2 : b % 2 = 0 ∨ b % 2 = 1 := by omega
      rcases h1 with h1 | h1 <;> rcases h2 with h2 | h2
      · rw [h1, h2, show (a + b) % 2 = 0 by omega]; decide
      · rw [h1, h2, show (a + b) % 2 = 1 by omega]; decide
      · rw [h1, h2, show (a + b) % 2 = 1 by omega]; decide
      · rw [h1, h2, show (a + b) % 2 = 0 by omega]; decide
    have hx := hx (onTo d (8 * k) + onTo c 8) (onTo (d / 2 ^ (8 * k) % 256) 8)
    have HR : Hid ((onTo d (8 * (k + 1)) + onTo c 8) % 2 = (onTo d (8 * k) + onTo c 8 + onTo (d / 2 ^ (8 * k) % 256) 8) % 2) := by show _ = _; rw [HO.out]; congr 1; omega
    have HF : Hid (d / 2 ^ (8 * k) = 0 → (onTo d (8 * k) + onTo c 8) % 2 = parS d c) := fun h => by rw [HE.out h]; rfl
    have hl1 : (onTo d (8 * k) + onTo c 8) % 2 < 2 := Nat.mod_lt _ (by decide)
    have hl2 : onTo (d / 2 ^ (8 * k) % 256) 8 % 2 < 2 := Nat.mod_lt _ (by decide)
    generalize ((onTo d (8 * k) + onTo c 8 + onTo (d / 2 ^ (8 * k) % 256) 8) % 2) = S3 at *
    generalize onTo (d / 2 ^ (8 * k) % 256) 8 % 2 = S2 at *
    generalize (onTo d (8 * k) + onTo c 8) % 2 = S1 at *
    clear HE HO
    generalize d / 2 ^ (8 * k) = q at *
    by_cases h0 : 0 < q
    · have hi : (0 : Int) < (q : Int) := by omega
      have hdv : (q : Int) / 2 ^ 8 = ((q / 256 : Nat) : Int) := by simp
      go_wp2_with (go_at_call 99; refine (HPk.out _).mono ?_; rintro e w2 ⟨rfl, hb2⟩)
      go_roundw
      case rel => exact ⟨k + 1, HK.out (by omega), by rw [HX.out]; first | rfl | (simp), by rw [HR.out], trivial⟩
      case measure => simp [intOf]; omega
    · obtain rfl : q = 0 := by omega
      have hS := HF.out rfl
      subst hS
      go_wp2_with fail
      go_ret
      exact ⟨rfl, rfl⟩
end Go.Proofs.Ytjnfnihhihncmaa
