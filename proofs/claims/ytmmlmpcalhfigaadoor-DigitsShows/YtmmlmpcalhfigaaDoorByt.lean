/- What Bytes of the program answers. -/
import Derived.Test.YtmmlmpcalhfigaaDoorMisc
import Derived.Test.YtmmlmpcalhfigaaDoorShelf
namespace Go.Proofs.YtmmlmpcalhfigaaDoor
open Go.RowKit
set_option linter.unusedVariables false

theorem bl_more : ∀ (f x : Nat), x < 2 ^ f → Lib.bitLenAux (f + 1) x = Lib.bitLenAux f x
  | 0, x, h => by
    obtain rfl : x = 0 := by simpa using h
    rfl
  | f + 1, x, h => by
    by_cases hx : x = 0
    · subst hx; rfl
    · have h1 : ∀ g, Lib.bitLenAux (g + 1) x = 1 + Lib.bitLenAux g (x / 2) := fun g => by rw [Lib.bitLenAux, if_neg hx]
      rw [h1 (f + 1), h1 f, bl_more f (x / 2) (by rw [Nat.div_lt_iff_lt_mul (by omega)]; rw [Nat.pow_succ] at h; exact h)]
theorem bl_up : ∀ (k f x : Nat), x < 2 ^ f → Lib.bitLenAux (f + k) x = Lib.bitLenAux f x
  | 0, f, x, h => rfl
  | k + 1, f, x, h => by
    rw [← Nat.add_assoc, bl_more (f + k) x (Nat.lt_of_lt_of_le h (Nat.pow_le_pow_right (by omega) (by omega)))]
    exact bl_up k f x h
theorem bl_half {f x : Nat} (h : x ≠ 0) : Lib.bitLenAux (f + 1) x = 1 + Lib.bitLenAux f (x / 2) := by rw [Lib.bitLenAux, if_neg h]
theorem bl_byte {f x : Nat} (h : 255 < x) : Lib.bitLenAux (f + 8) x = 8 + Lib.bitLenAux f (x / 256) := by
  rw [show f + 8 = f + 1 + 1 + 1 + 1 + 1 + 1 + 1 + 1 by omega]
  rw [bl_half (by omega), bl_half (by omega), bl_half (by omega), bl_half (by omega), bl_half (by omega), bl_half (by omega), bl_half (by omega), bl_half (by omega)]
  simp only [Nat.div_div_eq_div_mul, show 2 * 2 * 2 * 2 * 2 * 2 * 2 * 2 = 256 from rfl]
  omega
theorem bl_le : ∀ f x, Lib.bitLenAux f x ≤ f
  | 0, x => Nat.le_refl _
  | f + 1, x => by
    rw [Lib.bitLenAux]
    split
    · omega
    · have := bl_le f (x / 2); omega
theorem bl_small (x : Nat) : max 1 ((Lib.bitLenAux 8 x + 7) / 8) = 1 := by have := bl_le 8 x; omega
theorem bl_pos {f x : Nat} (h : x ≠ 0) : 1 ≤ Lib.bitLenAux (f + 1) x := by rw [bl_half h]; omega
theorem bytes_len : ∀ (k v : Nat), v < 2 ^ (8 * (k + 1)) → max 1 ((Lib.bitLenAux (8 * (k + 1)) v + 7) / 8) = bytesS v
  | 0, v, h => by
    have h8 : (2 : Nat) ^ (8 * (0 + 1)) = 256 := by decide
    rw [bytesS_end (by omega)]
    exact bl_small v
  | k + 1, v, h => by
    by_cases hv : 255 < v
    · rw [bytesS_in hv, show 8 * (k + 1 + 1) = 8 * (k + 1) + 8 by omega, bl_byte hv]
      have h1 : v / 256 < 2 ^ (8 * (k + 1)) := by
        rw [Nat.div_lt_iff_lt_mul (by omega)]
        rw [show 8 * (k + 1 + 1) = 8 * (k + 1) + 8 by omega, Nat.pow_add] at h
        exact h
      have h2 := bytes_len k (v / 256) h1
      have h3 : 1 ≤ Lib.bitLenAux (8 * (k + 1)) (v / 256) := by
        rw [show 8 * (k + 1) = 8 * k + 7 + 1 by omega]
        exact bl_pos (by omega)
      omega
    · have h8 : (2 : Nat) ^ 8 = 256 := by decide
      rw [bytesS_end hv, show 8 * (k + 1 + 1) = 8 + 8 * (k + 1) by omega, bl_up (8 * (k + 1)) 8 v (by omega)]
      exact bl_small v
theorem bytes_bits {v : Nat} (h : v ≤ 18446744073709551615) : max 1 ((Lib.bitLen v + 7) / 8) = bytesS v := bytes_len 7 v (by
  have : (2 : Nat) ^ (8 * (7 + 1)) = 18446744073709551616 := by decide
  omega)

set_option maxRecDepth 100000 in
set_option maxHeartbeats 400000 in
theorem bytes_any (v : Nat) (hv : v ≤ 18446744073709551615) (w : World) : Calls Tryd.prog 10 #[.int .u64 v] w fun e w' => e = .returned (.int .i64 (bytesS v)) ∧ w' = w := by
  have HL := hidD (Tryd.bits_Len64 v w (by omega) (by omega))
  have HB := hidD (bytes_bits hv)
  have hb : Lib.bitLen v ≤ 64 := bl_le 64 v
  rw [show (v : Int).toNat = v from rfl] at HL
  generalize Lib.bitLen v = bl at *
  generalize bytesS v = bs at *
  go_enter Tryd.func10, Tryd.ntmps10
  go_wp2_with (go_at_call 19; refine HL.out.mono ?_; rintro e w' ⟨rfl, rfl⟩)
  go_ret
  refine ⟨ret_i64 ?_, rfl⟩
  rw [← HB.out]
  omega
end Go.Proofs.YtmmlmpcalhfigaaDoor
