/- Plain facts: the document's product, by long division, is the product; remainders and irreducible polynomials; elements' orders divide 255. -/
import Derived.Test.YtdpkeffkpecmjaaMth
namespace Go.Proofs.Ytdpkeffkpecmjaa
open Go
set_option linter.unusedVariables false

/-- The product with no polynomial taken away, k bits of b being done. -/
def prodTo (a b : Nat) : Nat → Nat
  | 0 => 0
  | k + 1 => prodTo a b k ^^^ sel (b.testBit k) (a * 2 ^ k)
/-- The long division by poly, k steps being done, from bit 14 downwards. -/
def redTo (poly p : Nat) : Nat → Nat
  | 0 => p
  | k + 1 => redTo poly p k ^^^ sel ((redTo poly p k).testBit (14 - k)) (poly * 2 ^ (6 - k))

theorem sum_bxor (w P a b c : Nat) : ∀ k, sumB w P a (b ^^^ c) k = sumB w P a b k ^^^ sumB w P a c k
  | 0 => by simp [sumB]
  | k + 1 => by rw [sumB, sumB, sumB, sum_bxor w P a b c k, Nat.testBit_xor, sel_xor, xor4]
theorem sum_high (w P a b k : Nat) (h : ∀ i, k ≤ i → b.testBit i = false) : ∀ m, sumB w P a b (k + m) = sumB w P a b k
  | 0 => rfl
  | m + 1 => by rw [← Nat.add_assoc, sumB, h (k + m) (by omega), sum_high w P a b k h m]; simp [sel]
theorem sum_none (w P a b : Nat) : ∀ k, (∀ i, i < k → b.testBit i = false) → sumB w P a b k = 0
  | 0, _ => rfl
  | k + 1, h => by rw [sumB, h k (by omega), sum_none w P a b k fun i hi => h i (by omega)]; simp [sel]
theorem shl_bit (b j i : Nat) : (b * 2 ^ j).testBit i = (decide (j ≤ i) && b.testBit (i - j)) := by rw [← Nat.shiftLeft_eq, Nat.testBit_shiftLeft]
theorem sum_shl (w P a b j : Nat) : ∀ k, sumB w P a (b * 2 ^ j) (k + j) = noB w P j (sumB w P a b k)
  | 0 => by
    rw [Nat.zero_add, sum_none, sumB, no_zero]
    intro i hi
    rw [shl_bit, decide_eq_false (by omega)]; rfl
  | k + 1 => by
    rw [show k + 1 + j = k + j + 1 by omega, sumB, sum_shl w P a b j k, shl_bit, decide_eq_true (by omega), Bool.true_and, Nat.add_sub_cancel, sumB, no_xor, no_sel, ← no_add]
theorem sum_to {w P a b k n : Nat} (h : b < 2 ^ k) (hn : k ≤ n) : sumB w P a b n = sumB w P a b k := by
  obtain ⟨m, rfl⟩ : ∃ m, n = k + m := ⟨n - k, by omega⟩
  exact sum_high w P a b k (fun i hi => testBit_ge h hi) m
theorem res_byte {P v : Nat} (h : v < 256) : sumB 8 P 1 v 15 = v := by
  rw [sum_to (k := 8) h (by omega), sum_one 8 P v 8 (Nat.le_refl _), Nat.mod_eq_of_lt h]
theorem res_shl {P a i : Nat} (h : a < 256) (hi : i ≤ 7) : sumB 8 P 1 (a * 2 ^ i) 15 = noB 8 P i a := by
  have hl : a * 2 ^ i < 2 ^ (8 + i) := by rw [Nat.pow_add]; exact Nat.mul_lt_mul_of_pos_right h (Nat.two_pow_pos i)
  rw [sum_to hl (by omega), sum_shl, sum_one 8 P a 8 (Nat.le_refl _), Nat.mod_eq_of_lt h]
theorem no_eight {P : Nat} (hP : P < 256) : noB 8 P 8 1 = P := by
  rw [no_succ, no_one 7 (by omega)]
  simp [stepB, sel, Nat.testBit]
theorem res_poly {P j : Nat} (hP : P < 256) (hj : j ≤ 6) : sumB 8 P 1 ((256 + P) * 2 ^ j) 15 = 0 := by
  have hl : (256 + P) * 2 ^ j < 2 ^ (9 + j) := by rw [Nat.pow_add]; exact Nat.mul_lt_mul_of_pos_right (by omega) (Nat.two_pow_pos j)
  have h8 : (256 + P).testBit 8 = true := by
    rw [Nat.testBit_eq_decide_div_mod_eq, show (256 + P) / 2 ^ 8 = 1 by omega]; rfl
  rw [sum_to hl (by omega), sum_shl, sumB, sum_one 8 P _ 8 (Nat.le_refl _), no_eight hP, h8, show (256 + P) % 2 ^ 8 = P by omega]
  simp [sel, no_zero]
theorem prod_lt {a b : Nat} (h : a < 256) : ∀ k, k ≤ 8 → prodTo a b k < 2 ^ 15
  | 0, _ => by simp [prodTo]
  | k + 1, hk => by
    refine xor_lt (prod_lt h k (by omega)) (sel_lt ?_)
    have h2 : a * 2 ^ k < 2 ^ (8 + k) := by rw [Nat.pow_add]; exact Nat.mul_lt_mul_of_pos_right h (Nat.two_pow_pos k)
    exact Nat.lt_of_lt_of_le h2 (Nat.pow_le_pow_right (by omega) (by omega))
theorem sum_bsel (w P a b : Nat) (c : Bool) (k : Nat) : sumB w P a (sel c b) k = sel c (sumB w P a b k) := by
  cases c
  · exact sum_none w P a 0 k fun i _ => Nat.zero_testBit i
  · rfl
theorem res_prod {P a b : Nat} (h : a < 256) : ∀ k, k ≤ 8 → sumB 8 P 1 (prodTo a b k) 15 = sumB 8 P a b k
  | 0, _ => sum_none 8 P 1 0 15 fun i _ => Nat.zero_testBit i
  | k + 1, hk => by rw [prodTo, sum_bxor, res_prod h k (by omega), sum_bsel, res_shl h (by omega), sumB]
theorem red_lt {P p : Nat} (hP : P < 256) (hp : p < 2 ^ 15) : ∀ k, k ≤ 7 → redTo (256 + P) p k < 2 ^ (15 - k)
  | 0, _ => hp
  | k + 1, hk => by
    have ih := red_lt hP hp k (by omega)
    rw [redTo]
    have hl : (256 + P) * 2 ^ (6 - k) < 2 ^ (15 - k) := by
      rw [show 15 - k = 9 + (6 - k) by omega, Nat.pow_add]; exact Nat.mul_lt_mul_of_pos_right (by omega) (Nat.two_pow_pos _)
    have h8 : (256 + P).testBit 8 = true := by
      rw [Nat.testBit_eq_decide_div_mod_eq, show (256 + P) / 2 ^ 8 = 1 by omega]; rfl
    refine lt_of_bits fun i hi => ?_
    by_cases he : i = 14 - k
    · subst he
      rw [Nat.testBit_xor]
      cases hc : (redTo (256 + P) p k).testBit (14 - k)
      · simp [sel]
      · rw [sel, if_pos rfl, shl_bit, decide_eq_true (by omega), show 14 - k - (6 - k) = 8 by omega, h8]; rfl
    · rw [testBit_ge (xor_lt ih (sel_lt hl)) (by omega)]
theorem res_red {P p : Nat} (hP : P < 256) : ∀ k, k ≤ 7 → sumB 8 P 1 (redTo (256 + P) p k) 15 = sumB 8 P 1 p 15
  | 0, _ => rfl
  | k + 1, hk => by
    rw [redTo, sum_bxor, res_red hP k (by omega), sum_bsel, res_poly hP (by omega)]
    cases (redTo (256 + P) p k).testBit (14 - k) <;> simp [sel]
/-- Long division gives the product. -/
theorem red_prod (P a b : UInt8) : redTo (256 + P.toNat) (prodTo a.toNat b.toNat 8) 7 = (bm P a b).toNat := by
  have hP := u8_lt P
  have ha := u8_lt a
  have h1 := red_lt (p := prodTo a.toNat b.toNat 8) hP (prod_lt ha 8 (Nat.le_refl _)) 7 (Nat.le_refl _)
  rw [← res_byte (P := P.toNat) h1, res_red hP 7 (Nat.le_refl _), res_prod ha 8 (Nat.le_refl _), bm_sum]

/-- What is left of poly, k of its nine bits being done, the highest first. -/
def remTo (poly by' : Nat) : Nat → Nat
  | 0 => 0
  | k + 1 => min (2 * remTo poly by' k + (poly.testBit (8 - k)).toNat) ((2 * remTo poly by' k + (poly.testBit (8 - k)).toNat) ^^^ by')
def remS (poly by' : Nat) : Nat := remTo poly by' 9
theorem rem_lt (poly by' : Nat) : ∀ k, remTo poly by' k < 2 ^ k
  | 0 => by simp [remTo]
  | k + 1 => by
    have := rem_lt poly by' k
    rw [remTo, Nat.pow_succ]
    refine Nat.lt_of_le_of_lt (Nat.min_le_left _ _) ?_
    cases poly.testBit (8 - k) <;> simp <;> omega
def quoTo (poly by' : Nat) : Nat → Nat
  | 0 => 0
  | k + 1 => 2 * quoTo poly by' k + (decide ((2 * remTo poly by' k + (poly.testBit (8 - k)).toNat) ^^^ by' < 2 * remTo poly by' k + (poly.testBit (8 - k)).toNat)).toNat
/-- One pass for both: what is left, and the quotient. -/
def both (poly by' : Nat) : Nat → Nat → Nat → Nat × Nat
  | 0, l, q => (l, q)
  | k + 1, l, q => if (2 * l + poly / 2 ^ k % 2) ^^^ by' < 2 * l + poly / 2 ^ k % 2 then both poly by' k ((2 * l + poly / 2 ^ k % 2) ^^^ by') (2 * q + 1) else both poly by' k (2 * l + poly / 2 ^ k % 2) (2 * q)
def irrS (poly : Nat) : Bool := (List.range 30).all fun f => remS poly (f + 2) != 0
def irrR (poly : Nat) : Bool := (List.range 30).all fun a => (List.range 254).all fun b => prodTo (b + 2) (a + 2) 8 != poly
theorem bit_nat (v k : Nat) : v / 2 ^ k % 2 = (v.testBit k).toNat := by
  rw [Nat.testBit_eq_decide_div_mod_eq]
  by_cases h : v / 2 ^ k % 2 = 1
  · simp [h]
  · have : v / 2 ^ k % 2 = 0 := by omega
    simp [this]
theorem both_rem (poly by' : Nat) : ∀ k q, k ≤ 9 → (both poly by' k (remTo poly by' (9 - k)) q).1 = remS poly by'
  | 0, q, _ => rfl
  | k + 1, q, h => by
    have e : remTo poly by' (9 - k) = min (2 * remTo poly by' (9 - (k + 1)) + (poly.testBit k).toNat) ((2 * remTo poly by' (9 - (k + 1)) + (poly.testBit k).toNat) ^^^ by') := by
      rw [show 9 - k = 9 - (k + 1) + 1 by omega, remTo, show 8 - (9 - (k + 1)) = k by omega]
    rw [both, bit_nat]
    generalize 2 * remTo poly by' (9 - (k + 1)) + (poly.testBit k).toNat = L at *
    split
    · rw [← both_rem poly by' k (2 * q + 1) (by omega), e, Nat.min_eq_right (by omega)]
    · rw [← both_rem poly by' k (2 * q) (by omega), e, Nat.min_eq_left (by omega)]
theorem both_one (poly by' : Nat) : (both poly by' 9 0 0).1 = remS poly by' := both_rem poly by' 9 0 (Nat.le_refl _)
set_option maxRecDepth 100000 in
theorem irr_there : ((List.range 30).all fun a => (List.range 254).all fun b => (let p := prodTo (b + 2) (a + 2) 8; p / 256 != 1 || (both p (a + 2) 9 0 0).1 == 0)) = true := by decide +kernel
set_option maxRecDepth 100000 in
theorem irr_back : ((List.range 30).all fun a => (List.range 256).all fun p => (let x := both (256 + p) (a + 2) 9 0 0; x.1 != 0 || (prodTo x.2 (a + 2) 8 == 256 + p && decide (2 ≤ x.2) && decide (x.2 < 256)))) = true := by decide +kernel
theorem irr_same {poly : Nat} (h1 : 256 ≤ poly) (h2 : poly ≤ 511) : irrS poly = irrR poly := by
  have hA := irr_there
  have hB := irr_back
  simp only [List.all_eq_true, List.mem_range, Bool.or_eq_true, bne_iff_ne, beq_iff_eq, Bool.and_eq_true, decide_eq_true_eq] at hA hB
  rw [Bool.eq_iff_iff, irrS, irrR]
  simp only [List.all_eq_true, List.mem_range, bne_iff_ne]
  constructor
  · intro h a ha b hb he
    rcases hA a ha b hb with hc | hc
    · rw [he] at hc; omega
    · rw [he, both_one] at hc; exact h a ha hc
  · intro h a ha he
    rcases hB a ha (poly - 256) (by omega) with hc | ⟨⟨hc, hd⟩, hq⟩
    · rw [show 256 + (poly - 256) = poly by omega, both_one] at hc; exact hc he
    · rw [show 256 + (poly - 256) = poly by omega] at hc hd hq
      refine h a ha ((both poly (a + 2) 9 0 0).2 - 2) (by omega) ?_
      rw [show (both poly (a + 2) 9 0 0).2 - 2 + 2 = (both poly (a + 2) 9 0 0).2 by omega]; exact hc

set_option maxRecDepth 100000 in
theorem irr_gen : ((List.range 256).all fun p => (!(List.range 30).all fun f => (both (256 + p) (f + 2) 9 0 0).1 != 0) || (List.range 256).any fun g => ordS (UInt8.ofNat p) (UInt8.ofNat g) == 255) = true := by decide +kernel
/-- Over an irreducible polynomial somebody has the order 255. -/
theorem gen_of_irr {P : UInt8} (h : irrS (256 + P.toNat) = true) : ∃ g, ordS P g = 255 := by
  have hA := irr_gen
  simp only [both_one] at hA
  have hA := (List.all_eq_true.mp hA) P.toNat (List.mem_range.mpr (u8_lt P))
  have e : ((List.range 30).all fun f => remS (256 + P.toNat) (f + 2) != 0) = true := h
  rw [e] at hA
  simp only [Bool.not_true, Bool.false_or, List.any_eq_true, beq_iff_eq, UInt8.ofNat_toNat] at hA
  obtain ⟨g, _, hg⟩ := hA
  exact ⟨_, hg⟩
theorem pw_modk {P g : UInt8} {k : Nat} (h : pw P g k = 1) (n : Nat) : pw P g n = pw P g (n % k) := by
  have e := Nat.div_add_mod n k
  rw [← e, pw_add, ← pw_mul, h, one_pw, one_bm, e]
theorem ord_divides {P g : UInt8} (h : irrS (256 + P.toNat) = true) (hg : g ≠ 0) : 1 ≤ ordS P g ∧ 255 % ordS P g = 0 := by
  obtain ⟨x, hx⟩ := gen_of_irr h
  have hf := fermat hx hg
  rcases ord_spec P g with ⟨h5, h6⟩ | ⟨h5, h6, h7, h8⟩
  · exact absurd hf (h6 255 (by omega) (Nat.le_refl _))
  · refine ⟨h5, ?_⟩
    rw [pw_modk h7] at hf
    rcases Nat.eq_zero_or_pos (255 % ordS P g) with h0 | h0
    · exact h0
    · exact absurd hf (h8 _ h0 (Nat.mod_lt _ h5))
theorem zero_ord (P : UInt8) : ordS P 0 = 0 := by
  rcases ord_spec P 0 with ⟨h5, h6⟩ | ⟨h5, h6, h7, h8⟩
  · exact h5
  · obtain ⟨k, hk⟩ : ∃ k, ordS P 0 = k + 1 := ⟨ordS P 0 - 1, by omega⟩
    rw [hk, pw, bm_zero] at h7
    exact absurd h7 (by decide)
end Go.Proofs.Ytdpkeffkpecmjaa
