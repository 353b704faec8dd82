/- Plain: neighbouring bits that are turned. -/
import Derived.Test.YtjhaaphgaplhlabAfM
namespace Go.Proofs.Ytjhaaphgaplhlab
open Go
set_option linter.unusedVariables false

/-- The place of a bit of a text within its byte. -/
def plc (inn : Bool) (p : Nat) : Nat := if inn then p % 8 else 7 - p % 8
theorem plc_lt (inn : Bool) (p : Nat) : plc inn p < 8 := by unfold plc; split <;> omega
def bitAt (inn : Bool) (bs : List UInt8) (p : Nat) : Bool := (bs.getD (p / 8) 0).toNat.testBit (plc inn p)
theorem stream_get (inn : Bool) : ∀ (bs : List UInt8) (p : Nat), p < 8 * bs.length → (streamOf inn bs)[p]? = some (bitAt inn bs p)
  | [], p, h => by simp at h
  | x :: l, p, h => by
    have e : streamOf inn (x :: l) = bitsOf inn x.toNat ++ streamOf inn l := by simp [streamOf]
    rw [e]
    by_cases hp : p < 8
    · rw [List.getElem?_append_left (by rw [bitsOf_length]; exact hp), bitsOf_get _ _ p hp]
      unfold bitAt plc
      rw [Nat.div_eq_of_lt hp, Nat.mod_eq_of_lt hp]
      rfl
    · rw [List.getElem?_append_right (by rw [bitsOf_length]; omega), bitsOf_length, stream_get inn l (p - 8) (by simp only [List.length_cons] at h; omega)]
      unfold bitAt plc
      rw [show (p - 8) % 8 = p % 8 by omega, show p / 8 = (p - 8) / 8 + 1 by omega]
      rfl
def flipAt (inn : Bool) (bs : List UInt8) (p : Nat) : List UInt8 := bs.set (p / 8) (UInt8.ofNat ((bs.getD (p / 8) 0).toNat ^^^ 2 ^ plc inn p))
theorem flip_length (inn : Bool) (bs : List UInt8) (p : Nat) : (flipAt inn bs p).length = bs.length := by simp [flipAt]
theorem flip_byte (inn : Bool) (b : UInt8) (p : Nat) : (UInt8.ofNat (b.toNat ^^^ 2 ^ plc inn p)).toNat = b.toNat ^^^ 2 ^ plc inn p := by
  rw [UInt8.toNat_ofNat', Nat.mod_eq_of_lt (xor_lt (w := 8) b.toNat_lt (Nat.pow_lt_pow_right (by omega) (plc_lt inn p)))]
theorem flip_bit (inn : Bool) (bs : List UInt8) (p : Nat) (hp : p < 8 * bs.length) (q : Nat) : bitAt inn (flipAt inn bs p) q = (bitAt inn bs q ^^ decide (q = p)) := by
  unfold bitAt flipAt
  rw [List.getD_eq_getElem?_getD, List.getElem?_set]
  by_cases h : p / 8 = q / 8
  · rw [if_pos h, if_pos (by omega), Option.getD_some, flip_byte, Nat.testBit_xor, Nat.testBit_two_pow, h]
    congr 1
    have h1 := plc_lt inn p
    by_cases he : q = p
    · subst he; simp
    · rw [decide_eq_false he, decide_eq_false]
      unfold plc
      split <;> omega
  · rw [if_neg h, decide_eq_false (show ¬ q = p by intro e; subst e; exact h rfl), List.getD_eq_getElem?_getD]
    simp
def flipTo (inn : Bool) (bs : List UInt8) (at' T : Nat) : Nat → List UInt8
  | 0 => bs
  | k + 1 => if T.testBit k then flipAt inn (flipTo inn bs at' T k) (at' + k) else flipTo inn bs at' T k
theorem flipTo_length (inn : Bool) (bs : List UInt8) (at' T : Nat) : ∀ k, (flipTo inn bs at' T k).length = bs.length
  | 0 => rfl
  | k + 1 => by
    rw [flipTo]; split
    · rw [flip_length, flipTo_length inn bs at' T k]
    · exact flipTo_length inn bs at' T k
theorem flipTo_bit (inn : Bool) (bs : List UInt8) (at' T : Nat) : ∀ (k q : Nat), at' + k ≤ 8 * bs.length → bitAt inn (flipTo inn bs at' T k) q = (bitAt inn bs q ^^ (decide (at' ≤ q ∧ q < at' + k) && T.testBit (q - at')))
  | 0, q, h => by
    rw [flipTo, decide_eq_false (by omega)]; simp
  | k + 1, q, h => by
    have ih := flipTo_bit inn bs at' T k q (by omega)
    rw [flipTo]
    by_cases hq : q = at' + k
    · subst hq
      rw [decide_eq_false (show ¬ (at' ≤ at' + k ∧ at' + k < at' + k) by omega)] at ih
      rw [decide_eq_true (show at' ≤ at' + k ∧ at' + k < at' + (k + 1) by omega), Nat.add_sub_cancel_left]
      cases hT : T.testBit k
      · simp only [Bool.false_eq_true, if_false]; rw [ih]; simp
      · simp only [if_true]; rw [flip_bit _ _ _ (by rw [flipTo_length]; omega), ih]; simp
    · have e : decide (at' ≤ q ∧ q < at' + (k + 1)) = decide (at' ≤ q ∧ q < at' + k) := by
        by_cases h2 : at' ≤ q ∧ q < at' + k
        · rw [decide_eq_true h2, decide_eq_true (by omega)]
        · rw [decide_eq_false h2, decide_eq_false (by omega)]
      rw [e, ← ih]
      split
      · rw [flip_bit _ _ _ (by rw [flipTo_length]; omega), decide_eq_false hq]; simp
      · rfl
theorem told_inj {m : Md} {r s : Nat} (hr : r < 2 ^ m.w) (hs : s < 2 ^ m.w) : toldS m r = toldS m s ↔ r = s := by
  unfold toldS
  constructor
  · intro h
    have h := xor_cancel h
    split at h
    · exact rev_inj hr hs h
    · exact h
  · intro h; rw [h]
/-- P404. -/
theorem burst_sum {m : Md} (hm : MdOk m) (hP : m.P.testBit 0 = true) (bs : List UInt8) (at' T K : Nat) (hK : K ≤ m.w) (hat : at' + K ≤ 8 * bs.length) :
    sumS m bs = sumS m (flipTo m.inn bs at' T K) ↔ ∀ j, j < K → T.testBit j = false := by
  unfold sumS
  rw [told_inj (reg_lt hm _) (reg_lt hm _)]
  unfold regS
  have hlen : (streamOf m.inn bs).length = (streamOf m.inn (flipTo m.inn bs at' T K)).length := by rw [stream_length, stream_length, flipTo_length]
  have h := burst (w := m.w) (P := m.P) (R := m.I) (k := streamOf m.inn bs) (l := streamOf m.inn (flipTo m.inn bs at' T K)) (e := (List.range K).map T.testBit) (p := at') (q := 8 * bs.length - (at' + K)) (by have := hm.lo; omega) hP hm.P hlen (by simpa using hK) ?_
  · rw [h]
    simp only [List.mem_map, List.mem_range]
    constructor
    · intro h1 j hj; exact h1 _ ⟨j, hj, rfl⟩
    · rintro h1 c ⟨j, hj, rfl⟩; exact h1 j hj
  · apply List.ext_getElem?
    intro q
    by_cases hq : q < 8 * bs.length
    · rw [List.getElem?_zipWith, stream_get _ bs q hq, stream_get _ _ q (by rw [flipTo_length]; exact hq), flipTo_bit _ _ _ _ K q hat]
      have e : (match (some (bitAt m.inn bs q), some (bitAt m.inn bs q ^^ (decide (at' ≤ q ∧ q < at' + K) && T.testBit (q - at')))) with | (some a, some b) => some (a ^^ b) | (_, _) => none) = some (decide (at' ≤ q ∧ q < at' + K) && T.testBit (q - at')) := by
        simp only []
        congr 1
        cases bitAt m.inn bs q <;> cases (decide (at' ≤ q ∧ q < at' + K) && T.testBit (q - at')) <;> rfl
      refine Eq.trans e ?_
      by_cases h1 : q < at'
      · rw [List.getElem?_append_left (by simpa using h1), List.getElem?_replicate, if_pos h1, decide_eq_false (by omega)]; rfl
      · rw [List.getElem?_append_right (by simpa using h1), List.length_replicate]
        by_cases h2 : q < at' + K
        · rw [List.getElem?_append_left (by simp; omega), List.getElem?_map, List.getElem?_range (by omega), decide_eq_true (by omega)]; rfl
        · rw [List.getElem?_append_right (by simp; omega), List.getElem?_replicate, if_pos (by simp; omega), decide_eq_false (by omega)]; rfl
    · rw [List.getElem?_eq_none (by rw [List.length_zipWith, stream_length]; omega), List.getElem?_eq_none (by simp; omega)]
def tflag (T : Nat) : Nat → Bool
  | 0 => false
  | k + 1 => if T.testBit k then true else tflag T k
theorem tflag_iff (T : Nat) : ∀ k, tflag T k = false ↔ ∀ j, j < k → T.testBit j = false
  | 0 => by simp [tflag]
  | k + 1 => by
    rw [tflag]
    constructor
    · intro h j hj
      split at h
      · cases h
      · rename_i hk
        rcases Nat.lt_or_ge j k with h1 | h1
        · exact (tflag_iff T k).1 h j h1
        · obtain rfl : j = k := by omega
          simpa using hk
    · intro h
      rw [if_neg (by rw [h k (by omega)]; simp)]
      exact (tflag_iff T k).2 (fun j hj => h j (by omega))
end Go.Proofs.Ytjhaaphgaplhlab
