/- What reverseOf, Reverse and Reverse32 of the program answer. -/
import Derived.Test.YtjhaaphgaplhlaaBit
namespace Go.Proofs.Ytjhaaphgaplhlaa
open Go.RowKit
set_option linter.unusedVariables false

theorem pow32 {w : Nat} (h : w ≤ 32) : 2 ^ w ≤ 4294967296 := Nat.pow_le_pow_right (n := 2) (by omega) h
theorem bit_nat (v k : Nat) : v / 2 ^ k % 2 = (v.testBit k).toNat := by
  rw [Nat.testBit_eq_decide_div_mod_eq]
  rcases Nat.mod_two_eq_zero_or_one (v / 2 ^ k) with h | h <;> rw [h] <;> rfl
theorem bit_u32 {v : Nat} (k : Nat) (hv : v < 4294967296) : bits .and .u32 ((v : Int) / 2 ^ k) 1 = ((v.testBit k).toNat : Int) := by
  have h1 : (v : Int) / 2 ^ k = ((v / 2 ^ k : Nat) : Int) := by simp
  have h2 : v / 2 ^ k ≤ v := Nat.div_le_self _ _
  rw [h1, show (1 : Int) = ((1 : Nat) : Int) from rfl, u32_and_nat _ _ (by omega) (by omega), nat_mask1, bit_nat]
theorem rev_shl {v n d k : Nat} (h : n = k + 1 + d) (hn : n ≤ 32) : bits .or .u32 ((rev v k * 2 ^ (d + 1) : Nat) : Int) ((((v.testBit k).toNat : Int) * 2 ^ d) % 4294967296) = ((rev v (k + 1) * 2 ^ d : Nat) : Int) := by
  have hk := rev_lt v k
  have hk1 := rev_lt v (k + 1)
  have hb : (v.testBit k).toNat ≤ 1 := by cases v.testBit k <;> simp
  have h1 : rev v (k + 1) * 2 ^ d < 4294967296 := by
    have := Nat.mul_lt_mul_of_pos_right hk1 (Nat.two_pow_pos d)
    rw [← Nat.pow_add] at this
    have h2 := pow32 (w := k + 1 + d) (by omega)
    omega
  have h3 : (rev v (k + 1)) * 2 ^ d = rev v k * 2 ^ (d + 1) + (v.testBit k).toNat * 2 ^ d := by rw [rev, Nat.add_mul, Nat.pow_succ, Nat.mul_comm 2 (rev v k), Nat.mul_assoc, Nat.mul_comm 2 (2 ^ d)]
  have h4 : (((v.testBit k).toNat : Int) * 2 ^ d) % 4294967296 = (((v.testBit k).toNat * 2 ^ d : Nat) : Int) := by
    have e : (((v.testBit k).toNat : Int) * 2 ^ d) = (((v.testBit k).toNat * 2 ^ d : Nat) : Int) := by simp
    rw [e]
    omega
  rw [h4, u32_or_nat _ _ (by omega) (by omega), nat_join (d + 1) _ _ (Nat.mul_mod_left _ _) (by
    rw [Nat.pow_succ, Nat.mul_comm (2 ^ d)]; exact Nat.mul_lt_mul_of_pos_right (by omega) (Nat.two_pow_pos d)), h3]

set_option maxRecDepth 100000 in
set_option maxHeartbeats 400000 in
theorem reverseOf_same (v n : Nat) (hv : v < 4294967296) (hn : n ≤ 32) (w : World) : Calls Try.prog 60 #[.int .u32 v, .int .i64 n] w fun e w' => e = .returned (.int .u32 (rev v n : Nat)) ∧ w' = w := by
  go_enter Try.func60, Try.ntmps60
  go_wp2_with fail
  go_loopw [5, 8] (fun t i wr => ∃ k : Nat, k ≤ n ∧ i = .int .i64 k ∧ t = .int .u32 ((rev v k * 2 ^ (n - k) : Nat) : Int) ∧ wr = w) (fun _ i _ => n - (intOf i).toNat)
  case atStart => exact ⟨0, Nat.zero_le _, rfl, by simp [rev], rfl⟩
  case round =>
    obtain ⟨k, hk, rfl, rfl, rfl⟩ := hrel
    by_cases hlt : k < n
    · obtain ⟨d, hd⟩ : ∃ d, n = k + 1 + d := ⟨n - k - 1, by omega⟩
      have hb := bit_u32 k hv
      have hr := rev_shl (v := v) hd hn
      have hdi : (n : Int) - 1 - (k : Int) = (d : Int) := by omega
      have HR : Hid (rev v (k + 1) * 2 ^ (n - (k + 1)) = rev v (k + 1) * 2 ^ d) := by rw [show n - (k + 1) = d by omega]; exact rfl
      rw [show n - k = d + 1 by omega]
      have hd32 : d ≤ 32 := by omega
      have hk32 : k ≤ 32 := by omega
      have hlti : (k : Int) < n := by omega
      have HD := hidD hd
      clear hd hk
      generalize ((v.testBit k).toNat : Int) = b at *
      generalize rev v k * 2 ^ (d + 1) = A at *
      generalize rev v (k + 1) * 2 ^ d = B at *
      go_wp2_with fail
      go_roundw
      case rel => exact ⟨k + 1, by omega, by go_num, by rw [HR.out], trivial⟩
      case measure => simp [intOf]; omega
    · obtain rfl : k = n := by omega
      go_wp2
      go_ret
      exact ⟨by simp, rfl⟩
theorem reverseOf_any (v n : Nat) (hv : v < 4294967296) (hn : n ≤ 32) (w : World) : Calls Try.prog 60 #[.int .u32 v, .int .i64 n] w fun e w' => e = .returned (.int .u32 (rev v n : Nat)) ∧ Below w.heap.size w w' := (reverseOf_same v n hv hn w).mono fun e w' ⟨h1, h2⟩ => ⟨h1, by rw [h2]; exact Below.refl _ _⟩

theorem rev8_lt (b : Nat) : rev b 8 < 256 := rev_lt b 8
set_option maxRecDepth 100000 in
set_option maxHeartbeats 400000 in
theorem reverse_any (b : Nat) (hb : b < 256) (w : World) : Calls Try.prog 64 #[.int .u8 b] w fun e w' => e = .returned (.int .u8 (rev b 8 : Nat)) ∧ Below w.heap.size w w' := by
  have HR := hidD (fun w => reverseOf_any b 8 (by omega) (by omega) w)
  have h8 := rev8_lt b
  generalize rev b 8 = R at *
  go_enter Try.func64, Try.ntmps64
  go_wp2_with (go_at_call 60; refine (HR.out _).mono ?_; rintro e w2 ⟨rfl, hb2⟩)
  go_ret
  exact ⟨rfl, hb2⟩

set_option maxRecDepth 100000 in
set_option maxHeartbeats 400000 in
theorem reverse32_same (v n : Nat) (hv : v < 4294967296) (hn : n ≤ 32) (w : World) : Calls Try.prog 47 #[.int .u32 v, .int .i64 n] w fun e w' => e = .returned (.int .u32 (rev v n : Nat)) ∧ w' = w := by
  have HR := hidD (fun w => reverseOf_same v n hv hn w)
  have hmx : max (n : Int) 0 = n := by omega
  have hmn : min (n : Int) 32 = n := by omega
  go_enter Try.func47, Try.ntmps47
  go_wp2_with (go_at_call 60; refine (HR.out _).mono ?_; rintro e w2 ⟨rfl, hb2⟩)
  go_ret
  exact ⟨rfl, rfl⟩
theorem reverse32_any (v n : Nat) (hv : v < 4294967296) (hn : n ≤ 32) (w : World) : Calls Try.prog 47 #[.int .u32 v, .int .i64 n] w fun e w' => e = .returned (.int .u32 (rev v n : Nat)) ∧ Below w.heap.size w w' := (reverse32_same v n hv hn w).mono fun e w' ⟨h1, h2⟩ => ⟨h1, by rw [h2]; exact Below.refl _ _⟩
end Go.Proofs.Ytjhaaphgaplhlaa
