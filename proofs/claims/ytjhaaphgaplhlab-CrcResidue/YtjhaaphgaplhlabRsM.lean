/- Plain: one residue; a byte that is turned. -/
import Derived.Test.YtjhaaphgaplhlabApp
import Derived.Test.YtjhaaphgaplhlabBur
namespace Go.Proofs.Ytjhaaphgaplhlab
open Go
set_option linter.unusedVariables false

theorem tail_bit {inn : Bool} {cnt s j : Nat} (hj : j < 8 * cnt) (hs : s < 2 ^ (8 * cnt)) : bitAt inn (tailS inn cnt s) j = s.testBit (if inn then j else 8 * cnt - 1 - j) := by
  unfold bitAt
  rw [tail_get (show j / 8 < cnt by omega), UInt8.toNat_ofNat', show (2 : Nat) ^ 8 = 256 from rfl, Nat.mod_mod, show (256 : Nat) = 2 ^ 8 from rfl, Nat.testBit_mod_two_pow, decide_eq_true (plc_lt inn j), Nat.testBit_div_two_pow]
  unfold plc plcS
  cases inn
  · simp only [Bool.false_eq_true, if_false, Bool.true_and]
    rw [show 7 - j % 8 + (cnt - 1 - j / 8) * 8 = 8 * cnt - 1 - j by omega]
  · simp only [if_true, Bool.true_and]
    rw [show j % 8 + j / 8 * 8 = j by omega]
theorem tail_end {inn : Bool} {cnt w s : Nat} (hw : w = 8 * cnt) (hs : s < 2 ^ w) : endOf w (streamOf inn (tailS inn cnt s)) = if inn then rev s w else s := by
  have hl : (streamOf inn (tailS inn cnt s)).length = w := by rw [stream_length, tail_length, hw]
  apply Nat.eq_of_testBit_eq
  intro i
  rw [endOf_testBit]
  by_cases hi : i < w
  · rw [decide_eq_true hi, List.getD_eq_getElem?_getD, stream_get _ _ _ (by rw [tail_length]; omega), Option.getD_some, tail_bit (by omega) (by rw [← hw]; exact hs)]
    cases inn
    · simp only [Bool.false_eq_true, if_false, Bool.true_and]
      rw [show 8 * cnt - 1 - (w - 1 - i) = i by omega]
    · simp only [if_true, Bool.true_and]
      rw [rev_testBit, decide_eq_true hi]; rfl
  · rw [decide_eq_false hi]
    cases inn
    · simp only [Bool.false_eq_true, if_false]; rw [testBit_ge hs (by omega)]; rfl
    · simp only [if_true]; rw [rev_testBit, decide_eq_false hi]; rfl
/-- P405: what comes of a text with its sum behind it hangs on nothing but the model. -/
theorem residue_reg {m : Md} (hm : MdOk m) (h8 : m.w % 8 = 0) (hio : m.inn = m.out) (bs : List UInt8) : regS m (appS m bs) = noB m.w m.P m.w (if m.out then rev m.X m.w else m.X) := by
  have hw : m.w = 8 * (m.w / 8) := by omega
  have hs := sum_lt hm bs
  have hl : (streamOf m.inn (tailS m.out (m.w / 8) (sumS m bs))).length = m.w := by rw [stream_length, tail_length]; omega
  have h1 : regS m (appS m bs) = runB m.w m.P (regS m bs) (streamOf m.inn (tailS m.out (m.w / 8) (sumS m bs))) := by
    unfold regS appS
    rw [stream_append, run_append]
  rw [h1, run_end_at (by omega), hl, hio, tail_end hw hs]
  congr 1
  have hr := reg_lt hm bs
  show regS m bs ^^^ (if m.out then rev (toldS m (regS m bs)) m.w else toldS m (regS m bs)) = _
  unfold toldS
  cases m.out
  · simp only [Bool.false_eq_true, if_false]
    rw [← Nat.xor_assoc, Nat.xor_self, Nat.zero_xor]
  · simp only [if_true]
    rw [rev_xor, rev_rev hr, ← Nat.xor_assoc, Nat.xor_self, Nat.zero_xor]
theorem residue_sum {m : Md} (hm : MdOk m) (h8 : m.w % 8 = 0) (hio : m.inn = m.out) (bs : List UInt8) : sumS m (appS m bs) ^^^ m.X = resS m := by
  unfold resS sumS
  rw [residue_reg hm h8 hio bs, residue_reg hm h8 hio []]
theorem sum_stream {m : Md} {a b : List UInt8} (h : streamOf m.inn a = streamOf m.inn b) : sumS m a = sumS m b := by unfold sumS regS; rw [h]
/-- A byte that is turned. -/
theorem byte_turned {m : Md} (hm : MdOk m) (hP : m.P.testBit 0 = true) (h8 : 8 ≤ m.w) (bs : List UInt8) (q t : Nat) (hq : q < bs.length) (ht : t < 256) (h0 : t ≠ 0) : sumS m (bs.set q (UInt8.ofNat ((bs.getD q 0).toNat ^^^ t))) ≠ sumS m bs := by
  have hb : ∀ j, j < 8 * bs.length → bitAt m.inn (bs.set q (UInt8.ofNat ((bs.getD q 0).toNat ^^^ t))) j = (bitAt m.inn bs j ^^ (decide (8 * q ≤ j ∧ j < 8 * q + 8) && (if m.inn then t else rev t 8).testBit (j - 8 * q))) := by
    intro j hj
    unfold bitAt
    rw [List.getD_eq_getElem?_getD, List.getElem?_set]
    by_cases h : q = j / 8
    · rw [if_pos h, if_pos (by omega), Option.getD_some, UInt8.toNat_ofNat', Nat.mod_eq_of_lt (xor_lt (w := 8) (bs.getD q 0).toNat_lt ht), Nat.testBit_xor, h, decide_eq_true (by omega)]
      congr 1
      unfold plc
      cases m.inn
      · simp only [Bool.false_eq_true, if_false, Bool.true_and]
        rw [rev_testBit, decide_eq_true (by omega), show 8 - 1 - (j - 8 * (j / 8)) = 7 - j % 8 by omega]; rfl
      · simp only [if_true, Bool.true_and]
        rw [show j - 8 * (j / 8) = j % 8 by omega]
    · rw [if_neg h, decide_eq_false (by omega), List.getD_eq_getElem?_getD]
      simp
  have hst : streamOf m.inn (bs.set q (UInt8.ofNat ((bs.getD q 0).toNat ^^^ t))) = streamOf m.inn (flipTo m.inn bs (8 * q) (if m.inn then t else rev t 8) 8) := by
    apply List.ext_getElem?
    intro j
    by_cases hj : j < 8 * bs.length
    · rw [stream_get _ _ j (by simpa using hj), stream_get _ _ j (by rw [flipTo_length]; exact hj), hb j hj, flipTo_bit _ _ _ _ 8 j (by omega)]
    · rw [List.getElem?_eq_none (by rw [stream_length]; simp; omega), List.getElem?_eq_none (by rw [stream_length, flipTo_length]; omega)]
  rw [sum_stream hst]
  intro he
  have := (burst_sum hm hP bs (8 * q) (if m.inn then t else rev t 8) 8 h8 (by omega)).1 he.symm
  have hz : (if m.inn then t else rev t 8) = 0 := by
    apply Nat.eq_of_testBit_eq
    intro i
    rw [Nat.zero_testBit]
    by_cases hi : i < 8
    · exact this i hi
    · split
      · exact testBit_ge (w := 8) ht (by omega)
      · exact testBit_ge (w := 8) (rev_lt t 8) (by omega)
  cases hin : m.inn
  · rw [hin] at hz
    simp only [Bool.false_eq_true, if_false] at hz
    have := rev_rev (k := 8) ht
    rw [hz] at this
    exact h0 (by rw [← this]; decide)
  · rw [hin] at hz
    exact h0 hz
end Go.Proofs.Ytjhaaphgaplhlab
