/- Plain facts of words of four bytes: turned, put together; the columns' words are Mix of what Sub makes. -/
import Derived.Test.YtdbledfpphkppaaBkp
namespace Go.Proofs.Ytdbledfpphkppaa
set_option linter.unusedVariables false

def wd (a b c d : Nat) : Nat := a * 16777216 ||| b * 65536 ||| c * 256 ||| d
theorem shl_bit' (x k j : Nat) : (x * 2 ^ k).testBit j = (decide (k ≤ j) && x.testBit (j - k)) := by rw [← Nat.shiftLeft_eq, Nat.testBit_shiftLeft]
theorem wd_bit (a b c d j : Nat) : (wd a b c d).testBit j = ((((decide (24 ≤ j) && a.testBit (j - 24)) || (decide (16 ≤ j) && b.testBit (j - 16))) || (decide (8 ≤ j) && c.testBit (j - 8))) || d.testBit j) := by
  unfold wd
  rw [Nat.testBit_or, Nat.testBit_or, Nat.testBit_or, show a * 16777216 = a * 2 ^ 24 from rfl, show b * 65536 = b * 2 ^ 16 from rfl, show c * 256 = c * 2 ^ 8 from rfl, shl_bit', shl_bit', shl_bit']
theorem bkw_bit {x j : Nat} (h : x < 256) (hj : 8 ≤ j) : x.testBit j = false := Nat.testBit_lt_two_pow (Nat.lt_of_lt_of_le h (Nat.pow_le_pow_right (n := 2) (i := 8) (by omega) hj))
/- byte by byte -/
theorem wd_at {a b c d : Nat} (ha : a < 256) (hb : b < 256) (hc : c < 256) (hd : d < 256) (j : Nat) : (wd a b c d).testBit j = if j < 8 then d.testBit j else if j < 16 then c.testBit (j - 8) else if j < 24 then b.testBit (j - 16) else a.testBit (j - 24) := by
  rw [wd_bit]
  by_cases h1 : j < 8
  · rw [if_pos h1, decide_eq_false (show ¬ 24 ≤ j by omega), decide_eq_false (show ¬ 16 ≤ j by omega), decide_eq_false (show ¬ 8 ≤ j by omega)]; simp
  · rw [if_neg h1, bkw_bit hd (show 8 ≤ j by omega), decide_eq_true (show 8 ≤ j by omega)]
    by_cases h2 : j < 16
    · rw [if_pos h2, decide_eq_false (show ¬ 24 ≤ j by omega), decide_eq_false (show ¬ 16 ≤ j by omega)]; simp
    · rw [if_neg h2, bkw_bit hc (show 8 ≤ j - 8 by omega), decide_eq_true (show 16 ≤ j by omega)]
      by_cases h3 : j < 24
      · rw [if_pos h3, decide_eq_false (show ¬ 24 ≤ j by omega)]; simp
      · rw [if_neg h3, bkw_bit hb (show 8 ≤ j - 16 by omega), decide_eq_true (show 24 ≤ j by omega)]; simp
theorem wd_xor {a b c d a' b' c' d' : Nat} (ha : a < 256) (hb : b < 256) (hc : c < 256) (hd : d < 256) (ha' : a' < 256) (hb' : b' < 256) (hc' : c' < 256) (hd' : d' < 256) :
    wd a b c d ^^^ wd a' b' c' d' = wd (a ^^^ a') (b ^^^ b') (c ^^^ c') (d ^^^ d') := by
  apply Nat.eq_of_testBit_eq
  intro j
  rw [Nat.testBit_xor, wd_at ha hb hc hd, wd_at ha' hb' hc' hd', wd_at (xor256 ha ha') (xor256 hb hb') (xor256 hc hc') (xor256 hd hd')]
  split
  · rw [Nat.testBit_xor]
  · split
    · rw [Nat.testBit_xor]
    · split <;> rw [Nat.testBit_xor]
theorem wd_lt {a b c d : Nat} (ha : a < 256) (hb : b < 256) (hc : c < 256) (hd : d < 256) : wd a b c d < 4294967296 := or_lt32 (or_lt32 (or_lt32 (by omega) (by omega)) (by omega)) (by omega)
theorem modpow_bit (x j : Nat) : (x % 4294967296).testBit j = (decide (j < 32) && x.testBit j) := Nat.testBit_mod_two_pow x 32 j
theorem div_bit (x k j : Nat) : (x / 2 ^ k).testBit j = x.testBit (k + j) := by rw [← Nat.shiftRight_eq_div_pow, Nat.testBit_shiftRight]
theorem turn_bit (x k l j : Nat) : (x / 2 ^ k ||| x * 2 ^ l % 4294967296).testBit j = (x.testBit (k + j) || (decide (j < 32) && (decide (l ≤ j) && x.testBit (j - l)))) := by
  rw [Nat.testBit_or, div_bit, modpow_bit, shl_bit']
theorem wd_turn1 {a b c d : Nat} (ha : a < 256) (hb : b < 256) (hc : c < 256) (hd : d < 256) : wd a b c d / 2 ^ 8 ||| wd a b c d * 2 ^ 24 % 4294967296 = wd d a b c := by
  apply Nat.eq_of_testBit_eq
  intro j
  rw [turn_bit, wd_at ha hb hc hd, wd_at ha hb hc hd, wd_at hd ha hb hc]
  rcases (show j < 8 ∨ 8 ≤ j ∧ j < 16 ∨ 16 ≤ j ∧ j < 24 ∨ 24 ≤ j ∧ j < 32 ∨ 32 ≤ j by omega) with h | ⟨h, h'⟩ | ⟨h, h'⟩ | ⟨h, h'⟩ | h
  · simp [show ¬ 8 + j < 8 by omega, show 8 + j < 16 by omega, h, show ¬ 24 ≤ j by omega, show 8 + j - 8 = j by omega]
  · simp [show ¬ 8 + j < 8 by omega, show ¬ 8 + j < 16 by omega, show 8 + j < 24 by omega, h', show ¬ j < 8 by omega, show ¬ 24 ≤ j by omega, show 8 + j - 16 = j - 8 by omega]
  · simp [show ¬ 8 + j < 8 by omega, show ¬ 8 + j < 16 by omega, show ¬ 8 + j < 24 by omega, h', show ¬ j < 8 by omega, show ¬ j < 16 by omega, show ¬ 24 ≤ j by omega, show 8 + j - 24 = j - 16 by omega]
  · simp [show ¬ 8 + j < 8 by omega, show ¬ 8 + j < 16 by omega, show ¬ 8 + j < 24 by omega, h', h, show ¬ j < 8 by omega, show ¬ j < 16 by omega, show ¬ j < 24 by omega, show j - 24 < 8 by omega, bkw_bit ha (show 8 ≤ 8 + j - 24 by omega)]
  · simp [show ¬ 8 + j < 8 by omega, show ¬ 8 + j < 16 by omega, show ¬ 8 + j < 24 by omega, show ¬ j < 32 by omega, show ¬ j < 8 by omega, show ¬ j < 16 by omega, show ¬ j < 24 by omega, bkw_bit ha (show 8 ≤ 8 + j - 24 by omega), bkw_bit hd (show 8 ≤ j - 24 by omega)]
theorem wd_turn2 {a b c d : Nat} (ha : a < 256) (hb : b < 256) (hc : c < 256) (hd : d < 256) : wd a b c d / 2 ^ 16 ||| wd a b c d * 2 ^ 16 % 4294967296 = wd c d a b := by
  apply Nat.eq_of_testBit_eq
  intro j
  rw [turn_bit, wd_at ha hb hc hd, wd_at ha hb hc hd, wd_at hc hd ha hb]
  rcases (show j < 8 ∨ 8 ≤ j ∧ j < 16 ∨ 16 ≤ j ∧ j < 24 ∨ 24 ≤ j ∧ j < 32 ∨ 32 ≤ j by omega) with h | ⟨h, h'⟩ | ⟨h, h'⟩ | ⟨h, h'⟩ | h
  · simp [show ¬ 16 + j < 8 by omega, show ¬ 16 + j < 16 by omega, show 16 + j < 24 by omega, h, show ¬ 16 ≤ j by omega, show 16 + j - 16 = j by omega]
  · simp [show ¬ 16 + j < 8 by omega, show ¬ 16 + j < 16 by omega, show ¬ 16 + j < 24 by omega, h', show ¬ j < 8 by omega, show ¬ 16 ≤ j by omega, show 16 + j - 24 = j - 8 by omega]
  · simp [show ¬ 16 + j < 8 by omega, show ¬ 16 + j < 16 by omega, show ¬ 16 + j < 24 by omega, h', h, show j < 32 by omega, show ¬ j < 8 by omega, show ¬ j < 16 by omega, show j - 16 < 8 by omega, bkw_bit ha (show 8 ≤ 16 + j - 24 by omega)]
  · simp [show ¬ 16 + j < 8 by omega, show ¬ 16 + j < 16 by omega, show ¬ 16 + j < 24 by omega, h', show 16 ≤ j by omega, show ¬ j < 8 by omega, show ¬ j < 16 by omega, show ¬ j < 24 by omega, show ¬ j - 16 < 8 by omega, show j - 16 < 16 by omega, show j - 16 - 8 = j - 24 by omega, bkw_bit ha (show 8 ≤ 16 + j - 24 by omega)]
  · simp [show ¬ 16 + j < 8 by omega, show ¬ 16 + j < 16 by omega, show ¬ 16 + j < 24 by omega, show ¬ j < 32 by omega, show ¬ j < 8 by omega, show ¬ j < 16 by omega, show ¬ j < 24 by omega, bkw_bit ha (show 8 ≤ 16 + j - 24 by omega), bkw_bit hc (show 8 ≤ j - 24 by omega)]
theorem wd_turn3 {a b c d : Nat} (ha : a < 256) (hb : b < 256) (hc : c < 256) (hd : d < 256) : wd a b c d / 2 ^ 24 ||| wd a b c d * 2 ^ 8 % 4294967296 = wd b c d a := by
  apply Nat.eq_of_testBit_eq
  intro j
  rw [turn_bit, wd_at ha hb hc hd, wd_at ha hb hc hd, wd_at hb hc hd ha]
  rcases (show j < 8 ∨ 8 ≤ j ∧ j < 16 ∨ 16 ≤ j ∧ j < 24 ∨ 24 ≤ j ∧ j < 32 ∨ 32 ≤ j by omega) with h | ⟨h, h'⟩ | ⟨h, h'⟩ | ⟨h, h'⟩ | h
  · simp [show ¬ 24 + j < 8 by omega, show ¬ 24 + j < 16 by omega, show ¬ 24 + j < 24 by omega, h, show ¬ 8 ≤ j by omega, show 24 + j - 24 = j by omega]
  · simp [show ¬ 24 + j < 8 by omega, show ¬ 24 + j < 16 by omega, show ¬ 24 + j < 24 by omega, h, h', show j < 32 by omega, show ¬ j < 8 by omega, show j - 8 < 8 by omega, bkw_bit ha (show 8 ≤ j by omega)]
  · simp [show ¬ 24 + j < 8 by omega, show ¬ 24 + j < 16 by omega, show ¬ 24 + j < 24 by omega, h', show 8 ≤ j by omega, show j < 32 by omega, show ¬ j < 8 by omega, show ¬ j < 16 by omega, show ¬ j - 8 < 8 by omega, show j - 8 < 16 by omega, show j - 8 - 8 = j - 16 by omega, bkw_bit ha (show 8 ≤ j by omega)]
  · simp [show ¬ 24 + j < 8 by omega, show ¬ 24 + j < 16 by omega, show ¬ 24 + j < 24 by omega, h', show 8 ≤ j by omega, show ¬ j < 8 by omega, show ¬ j < 16 by omega, show ¬ j < 24 by omega, show ¬ j - 8 < 8 by omega, show ¬ j - 8 < 16 by omega, show j - 8 < 24 by omega, show j - 8 - 16 = j - 24 by omega, bkw_bit ha (show 8 ≤ j by omega)]
  · simp [show ¬ 24 + j < 8 by omega, show ¬ 24 + j < 16 by omega, show ¬ 24 + j < 24 by omega, show ¬ j < 32 by omega, show ¬ j < 8 by omega, show ¬ j < 16 by omega, show ¬ j < 24 by omega, bkw_bit ha (show 8 ≤ j by omega), bkw_bit hb (show 8 ≤ j - 24 by omega)]
/- a column's word -/
theorem col_wd (b : UInt8) : colS b = wd (bm 27 (subS b) 2).toNat (subS b).toNat (subS b).toNat (bm 27 (subS b) 3).toNat := by
  have h0 : mixS (oneC (subS b)) mixM 0 = bm 27 (subS b) 2 := by
    rw [mix_at0, show oneC (subS b) 0 = subS b from rfl, show oneC (subS b) 1 = 0 from rfl, show oneC (subS b) 2 = 0 from rfl, show oneC (subS b) 3 = 0 from rfl, zero_bm, zero_bm, zero_bm, UInt8.xor_zero, UInt8.xor_zero, UInt8.xor_zero]; rfl
  have h1 : mixS (oneC (subS b)) mixM 1 = subS b := by
    rw [mix_at1, show oneC (subS b) 0 = subS b from rfl, show oneC (subS b) 1 = 0 from rfl, show oneC (subS b) 2 = 0 from rfl, show oneC (subS b) 3 = 0 from rfl, zero_bm, zero_bm, zero_bm, UInt8.xor_zero, UInt8.xor_zero, UInt8.zero_xor]; exact bm_one 27 _
  have h2 : mixS (oneC (subS b)) mixM 2 = subS b := by
    rw [mix_at2, show oneC (subS b) 0 = subS b from rfl, show oneC (subS b) 1 = 0 from rfl, show oneC (subS b) 2 = 0 from rfl, show oneC (subS b) 3 = 0 from rfl, zero_bm, zero_bm, zero_bm, UInt8.xor_zero, UInt8.xor_zero, UInt8.zero_xor]; exact bm_one 27 _
  have h3 : mixS (oneC (subS b)) mixM 3 = bm 27 (subS b) 3 := by
    rw [mix_at3, show oneC (subS b) 0 = subS b from rfl, show oneC (subS b) 1 = 0 from rfl, show oneC (subS b) 2 = 0 from rfl, show oneC (subS b) 3 = 0 from rfl, zero_bm, zero_bm, zero_bm, UInt8.xor_zero, UInt8.xor_zero, UInt8.zero_xor]; rfl
  unfold colS wordS wd
  rw [h0, h1, h2, h3]
def rotW (x i : Nat) : Nat := x / 2 ^ (8 * i) ||| x * 2 ^ (32 - 8 * i) % 4294967296
def colW (c : Nat → UInt8) : Nat → Nat
  | 0 => 0
  | i + 1 => colW c i ^^^ rotW (colS (c i)) i
theorem rotW0 {x : Nat} : rotW x 0 = x := by
  unfold rotW
  rw [show x * 2 ^ (32 - 8 * 0) % 4294967296 = 0 by omega, Nat.or_zero, Nat.mul_zero, Nat.pow_zero, Nat.div_one]
theorem col_lt (b : UInt8) : colS b < 4294967296 := by rw [col_wd]; exact wd_lt (u8_lt _) (u8_lt _) (u8_lt _) (u8_lt _)
theorem rot_lt {x : Nat} (hx : x < 4294967296) (i : Nat) : rotW x i < 4294967296 := or_lt32 (Nat.lt_of_le_of_lt (Nat.div_le_self _ _) hx) (Nat.mod_lt _ (by omega))
theorem xor_lt32 {a b : Nat} (ha : a < 4294967296) (hb : b < 4294967296) : a ^^^ b < 4294967296 := Nat.xor_lt_two_pow (n := 32) ha hb
theorem colW_lt (c : Nat → UInt8) : ∀ i, colW c i < 4294967296
  | 0 => by show 0 < 4294967296; omega
  | i + 1 => xor_lt32 (colW_lt c i) (rot_lt (col_lt _) i)
theorem colW_all (c : Nat → UInt8) : colW c 4 = wordS (mixS (fun i => subS (c i)) mixM) := by
  have l : ∀ x : UInt8, x.toNat < 256 := fun x => u8_lt x
  have e0 : rotW (colS (c 0)) 0 = wd (bm 27 (subS (c 0)) 2).toNat (subS (c 0)).toNat (subS (c 0)).toNat (bm 27 (subS (c 0)) 3).toNat := by rw [rotW0, col_wd]
  have e1 : rotW (colS (c 1)) 1 = wd (bm 27 (subS (c 1)) 3).toNat (bm 27 (subS (c 1)) 2).toNat (subS (c 1)).toNat (subS (c 1)).toNat := by
    rw [col_wd]; exact wd_turn1 (l _) (l _) (l _) (l _)
  have e2 : rotW (colS (c 2)) 2 = wd (subS (c 2)).toNat (bm 27 (subS (c 2)) 3).toNat (bm 27 (subS (c 2)) 2).toNat (subS (c 2)).toNat := by
    rw [col_wd]; exact wd_turn2 (l _) (l _) (l _) (l _)
  have e3 : rotW (colS (c 3)) 3 = wd (subS (c 3)).toNat (subS (c 3)).toNat (bm 27 (subS (c 3)) 3).toNat (bm 27 (subS (c 3)) 2).toNat := by
    rw [col_wd]; exact wd_turn3 (l _) (l _) (l _) (l _)
  have h : colW c 4 = rotW (colS (c 0)) 0 ^^^ rotW (colS (c 1)) 1 ^^^ rotW (colS (c 2)) 2 ^^^ rotW (colS (c 3)) 3 := by
    show 0 ^^^ rotW (colS (c 0)) 0 ^^^ rotW (colS (c 1)) 1 ^^^ rotW (colS (c 2)) 2 ^^^ rotW (colS (c 3)) 3 = _
    rw [Nat.zero_xor]
  rw [h, e0, e1, e2, e3, wd_xor (l _) (l _) (l _) (l _) (l _) (l _) (l _) (l _), ← UInt8.toNat_xor, ← UInt8.toNat_xor, ← UInt8.toNat_xor, ← UInt8.toNat_xor,
    wd_xor (l _) (l _) (l _) (l _) (l _) (l _) (l _) (l _), ← UInt8.toNat_xor, ← UInt8.toNat_xor, ← UInt8.toNat_xor, ← UInt8.toNat_xor,
    wd_xor (l _) (l _) (l _) (l _) (l _) (l _) (l _) (l _), ← UInt8.toNat_xor, ← UInt8.toNat_xor, ← UInt8.toNat_xor, ← UInt8.toNat_xor]
  unfold wordS wd
  rw [mix_at0, mix_at1, mix_at2, mix_at3, mixM0, mixM1, mixM2, mixM3]
  simp only [bm_one]
  generalize subS (c 0) = s0
  generalize subS (c 1) = s1
  generalize subS (c 2) = s2
  generalize subS (c 3) = s3
  rw [show s0 ^^^ bm 27 s1 2 ^^^ bm 27 s2 3 ^^^ s3 = bm 27 s1 2 ^^^ bm 27 s2 3 ^^^ s3 ^^^ s0 by ac_rfl, show s0 ^^^ s1 ^^^ bm 27 s2 2 ^^^ bm 27 s3 3 = bm 27 s2 2 ^^^ bm 27 s3 3 ^^^ s0 ^^^ s1 by ac_rfl,
    show bm 27 s0 3 ^^^ s1 ^^^ s2 ^^^ bm 27 s3 2 = bm 27 s3 2 ^^^ bm 27 s0 3 ^^^ s1 ^^^ s2 by ac_rfl]
end Go.Proofs.Ytdbledfpphkppaa
