/- Plain: a byte goes in by the table; turned of the statements. -/
import Derived.Test.YtjhaaphgaplhlabTof
import Derived.Test.YtjhaaphgaplhlabBst
namespace Go.Proofs.Ytjhaaphgaplhlab
open Go Go.RowKit
set_option linter.unusedVariables false

def jOf (inn : Bool) (top b : Nat) : Nat := if inn then rev (top ^^^ rev b 8) 8 else top ^^^ b
theorem j_lt {inn : Bool} {top b : Nat} (ht : top < 256) (hb : b < 256) : jOf inn top b < 256 := by
  unfold jOf; split
  · exact rev_lt _ 8
  · exact xor_lt (w := 8) ht hb
theorem top_bits {w A d : Nat} (h : w = d + 8) (hA : A < 2 ^ w) : bitsOf false (A / 2 ^ d) = topB w A 8 := by
  apply List.ext_getElem?
  intro i
  by_cases hi : i < 8
  · rw [bitsOf_get _ _ i hi, topB_get w 8 A i hi hA, Nat.testBit_div_two_pow, decide_eq_true (show i < w by omega)]
    simp only [Bool.false_eq_true, if_false]
    rw [show 7 - i + d = w - 1 - i by omega]; rfl
  · rw [List.getElem?_eq_none (by rw [bitsOf_length]; omega), List.getElem?_eq_none (by rw [topB_length]; omega)]
theorem byte_step {w P A d b : Nat} {inn : Bool} (h : w = d + 8) (hA : A < 2 ^ w) (hb : b < 256) : runB w P A (bitsOf inn b) = (A * 256) % 2 ^ w ^^^ runB w P 0 (bitsOf inn (jOf inn (A / 2 ^ d) b)) := by
  have ht : A / 2 ^ d < 256 := by
    rw [Nat.div_lt_iff_lt_mul (Nat.two_pow_pos d)]
    rw [h, Nat.pow_add] at hA
    omega
  cases inn with
  | false => exact run_byte hA (top_bits h hA)
  | true =>
    have h1 := run_byte (P := P) (inn := true) (c := b) (first := rev (A / 2 ^ d) 8) hA (by
      rw [bitsOf_in true, if_pos rfl, rev_rev (k := 8) ht]; exact top_bits h hA)
    rw [h1]
    unfold jOf
    rw [if_pos rfl, rev_xor, rev_rev (k := 8) hb]
theorem shl8_64 {A T : Nat} (hA : A < 18446744073709551616) (hT : T < 18446744073709551616) : bits .xor .u64 (IntKind.u64.wrap ((A : Int) * 256)) (T : Int) = ((A * 256 % 2 ^ 64 ^^^ T : Nat) : Int) := by
  have e : IntKind.u64.wrap ((A : Int) * 256) = ((A * 256 % 2 ^ 64 : Nat) : Int) := by rw [IntKind.wrap_u64]; omega
  rw [e, u64_xor_nat _ _ (Nat.mod_lt _ (by decide)) hT]
theorem mod_xor (a b w : Nat) (hb : b < 2 ^ w) (hw : w ≤ 64) : (a % 2 ^ 64 ^^^ b) % 2 ^ w = a % 2 ^ w ^^^ b := by
  rw [Nat.xor_mod_two_pow, Nat.mod_eq_of_lt hb, Nat.mod_mod_of_dvd _ (Nat.pow_dvd_pow 2 hw)]
theorem rev_next8 {v k : Nat} (hk : k < 8) : bits .or .u8 (((rev v k : Nat) * 2 : Int) % 256) ((v.testBit k).toNat : Int) = ((rev v (k + 1) : Nat) : Int) := by
  have h1 := rev_lt v k
  have h2 : (2 : Nat) ^ k ≤ 2 ^ 7 := Nat.pow_le_pow_right (by omega) (by omega)
  have hb : (v.testBit k).toNat ≤ 1 := by cases v.testBit k <;> simp
  have e : ((rev v k : Nat) * 2 : Int) % 256 = ((rev v k * 2 : Nat) : Int) := by omega
  rw [e, u8_or_nat _ _ (by omega) (by omega), nat_join 1 _ _ (by omega) (by omega), rev, Nat.mul_comm]
theorem rev_next64 {v k : Nat} (hk : k < 64) : bits .or .u64 (IntKind.u64.wrap ((rev v k : Nat) * 2 : Int)) ((v.testBit k).toNat : Int) = ((rev v (k + 1) : Nat) : Int) := by
  have h1 := rev_lt v k
  have h2 : (2 : Nat) ^ k ≤ 2 ^ 63 := Nat.pow_le_pow_right (by omega) (by omega)
  have hb : (v.testBit k).toNat ≤ 1 := by cases v.testBit k <;> simp
  have e : IntKind.u64.wrap ((rev v k : Nat) * 2 : Int) = ((rev v k * 2 : Nat) : Int) := by rw [IntKind.wrap_u64]; omega
  rw [e, u64_or_nat _ _ (by omega) (by omega), nat_join 1 _ _ (by omega) (by omega), rev, Nat.mul_comm]

set_option maxRecDepth 100000 in
set_option maxHeartbeats 400000 in
theorem turned_any (b : Nat) (hb : b < 256) (w : World) : Calls Try.prog 15 #[.int .u8 b] w fun e w' => e = .returned (.int .u8 (rev b 8 : Nat)) ∧ Below w.heap.size w w' := by
  go_enter Try.func15, Try.ntmps15
  go_wp2_with fail
  go_loopw [3, 4] (fun v i wr => ∃ k : Nat, k ≤ 8 ∧ i = .int .i64 k ∧ v = .int .u8 ((rev b k : Nat) : Int) ∧ wr = w) (fun _ i _ => 8 - (intOf i).toNat)
  case atStart => exact ⟨0, Nat.zero_le _, rfl, rfl, rfl⟩
  case round =>
    obtain ⟨k, hk, rfl, rfl, rfl⟩ := hrel
    by_cases hlt : k < 8
    · have hlti : (k : Int) < 8 := by omega
      have h1 := bit_u8 k hb
      have h2 := rev_next8 (v := b) hlt
      have hk8 : k ≤ 8 := by omega
      generalize ((b.testBit k).toNat : Int) = z at *
      generalize hR2 : rev b (k + 1) = R2 at *
      have HR2 := hidD hR2
      clear hR2
      generalize rev b k = R at *
      go_wp2_with fail
      go_roundw
      case rel => exact ⟨k + 1, by omega, by go_num, by rw [HR2.out], trivial⟩
      case measure => simp [intOf]; omega
    · obtain rfl : k = 8 := by omega
      go_wp2_with fail
      go_ret
      exact ⟨rfl, Below.refl _ _⟩
end Go.Proofs.Ytjhaaphgaplhlab
