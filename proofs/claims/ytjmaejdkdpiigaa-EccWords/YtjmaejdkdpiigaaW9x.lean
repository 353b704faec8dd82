/- EccWords: all cases. -/
import Derived.Test.YtjmaejdkdpiigaaW9
namespace Go.Proofs.Ytjmaejdkdpiigaa
open Go.RowKit
set_option linter.unusedVariables false

/- one line: all that both answer is alike -/
theorem words_all (x bit : Int) (hb1 : -9223372036854775808 ≤ bit) (hb2 : bit < 9223372036854775808) (d D C D' C' : Nat) (hd : d < 18446744073709551616) (hD : D < 18446744073709551616) (hC : C < 256) (hD' : D' < 18446744073709551616) (hC' : C' < 256) (w : World) : Calls Try.prog 3 #[.int .i64 x, .int .u64 (d : Int), .agg (wdC D C), .agg (wdC D' C'), .int .i64 bit] w fun e w' => e = .returned (.bool true) ∧ Below w.heap.size w w' := by
  by_cases hw : ∃ W r, Wid W r ∧ x = (W : Int)
  · obtain ⟨W, r, h, rfl⟩ := hw
    have HC1 := hidD (fun w => checks_ok h w)
    have HC2 := hidD (fun w => refChecks_ok h w)
    have HV1 := hidD (fun w => valid_any h D C hD hC w)
    have HV2 := hidD (fun w => refValid_any h D C hD hC w)
    have HV3 := hidD (fun w => valid_any h D' C' hD' hC' w)
    have HV4 := hidD (fun w => refValid_any h D' C' hD' hC' w)
    obtain ⟨eD, eC, ee, HE1, HE2⟩ : ∃ (eD eC : Nat) (ee : Int), Hid (∀ w, Calls Try.prog 14 #[.int .i64 (W : Int), .int .u64 (d : Int)] w fun e w' => e = .returned (.tuple #[.agg (wdC eD eC), .int .i64 ee]) ∧ Below w.heap.size w w') ∧ Hid (∀ w, Calls Try.prog 15 #[.int .i64 (W : Int), .int .u64 (d : Int)] w fun e w' => e = .returned (.tuple #[.agg (wdC eD eC), .int .i64 ee]) ∧ Below w.heap.size w w') := by
      by_cases hl : d < 2 ^ W
      · exact ⟨_, _, _, fun w => encode_ok h d hl w, fun w => refEncode_ok h d hl w⟩
      · exact ⟨_, _, _, fun w => encode_big h d hl hd w, fun w => refEncode_big h d hl hd w⟩
    by_cases hv : D < 2 ^ W ∧ C < 2 ^ (r + 1)
    · rw [decide_eq_true hv] at HV1 HV2
      obtain ⟨dd, dk, di, de, hdec⟩ := dec_some W r D C
      obtain ⟨tD, tC, et, HT1, HT2⟩ : ∃ (tD tC : Nat) (et : Int), Hid (∀ w, Calls Try.prog 20 #[.int .i64 (W : Int), .agg (wdC D C), .int .i64 bit] w fun e w' => e = .returned (.tuple #[.agg (wdC tD tC), .int .i64 et]) ∧ Below w.heap.size w w') ∧ Hid (∀ w, Calls Try.prog 21 #[.int .i64 (W : Int), .agg (wdC D C), .int .i64 bit] w fun e w' => e = .returned (.tuple #[.agg (wdC tD tC), .int .i64 et]) ∧ Below w.heap.size w w') := by
        have hr := h.le
        by_cases hbit : 0 ≤ bit ∧ bit ≤ (W : Int) + (r : Int)
        · obtain ⟨a, rfl⟩ : ∃ a : Nat, bit = (a : Int) := ⟨bit.toNat, by omega⟩
          exact ⟨_, _, _, fun w => turn_ok h D C hv.1 hv.2 a (by omega) w, fun w => refTurn_ok h D C hv.1 hv.2 a (by omega) w⟩
        · have hbad : bit < 0 ∨ (W : Int) + (r : Int) < bit := by omega
          exact ⟨_, _, _, fun w => turn_no (W : Int) D C bit (r : Int) 0 HC1 (Or.inr (Or.inr ⟨rfl, HV1, by omega, by omega, by omega, by omega, hbad⟩)) w, fun w => refTurn_no (W : Int) D C bit (r : Int) 0 HC2 (Or.inr (Or.inr ⟨rfl, HV2, by omega, by omega, by omega, by omega, hbad⟩)) w⟩
      obtain ⟨m, em, HX1, HX2⟩ : ∃ m em : Int, Hid (∀ w, Calls Try.prog 22 #[.int .i64 (W : Int), .agg (wdC D C), .agg (wdC D' C')] w fun e w' => e = .returned (.tuple #[.int .i64 m, .int .i64 em]) ∧ Below w.heap.size w w') ∧ Hid (∀ w, Calls Try.prog 23 #[.int .i64 (W : Int), .agg (wdC D C), .agg (wdC D' C')] w fun e w' => e = .returned (.tuple #[.int .i64 m, .int .i64 em]) ∧ Below w.heap.size w w') := by
        by_cases hv' : D' < 2 ^ W ∧ C' < 2 ^ (r + 1)
        · exact ⟨_, _, fun w => distance_ok h D C D' C' hv.1 hv.2 hv'.1 hv'.2 w, fun w => refDistance_ok h D C D' C' hv.1 hv.2 hv'.1 hv'.2 w⟩
        · rw [decide_eq_false hv'] at HV3 HV4
          exact ⟨_, _, fun w => distance_no (W : Int) D C D' C' (Or.inr ⟨HV1, HV3⟩) w, fun w => refDistance_no (W : Int) D C D' C' (Or.inr ⟨HV2, HV4⟩) w⟩
      exact words_walk (W : Int) bit d D C D' C' _ _ _ eD eC ee _ _ _ _ _ _ _ tD tC et m em HC1 HC2 HV1 HV2 HE1 HE2 (fun w => syndrome_ok h D C hv.1 hv.2 w) (fun w => refSyndrome_ok h D C hv.1 hv.2 w) (fun w => decode_ok h D C hv.1 hv.2 dd dk di de hdec w) (fun w => refDecode_ok h D C hv.1 hv.2 dd dk di de hdec w) HT1 HT2 HX1 HX2 w
    · rw [decide_eq_false hv] at HV1 HV2
      exact words_walk (W : Int) bit d D C D' C' _ _ _ eD eC ee _ _ _ _ _ _ _ _ _ _ _ _ HC1 HC2 HV1 HV2 HE1 HE2 (fun w => syndrome_no (W : Int) D C HV1 w) (fun w => refSyndrome_bad h D C hD hC hv w) (fun w => decode_no (W : Int) D C HV1 w) (fun w => refDecode_no (W : Int) D C (fun w => refSyndrome_bad h D C hD hC hv w) w) (fun w => turn_no (W : Int) D C bit (r : Int) 0 HC1 (Or.inr (Or.inl ⟨rfl, HV1⟩)) w) (fun w => refTurn_no (W : Int) D C bit (r : Int) 0 HC2 (Or.inr (Or.inl ⟨rfl, HV2⟩)) w) (fun w => distance_no (W : Int) D C D' C' (Or.inl HV1) w) (fun w => refDistance_no (W : Int) D C D' C' (Or.inl HV2) w) w
  · have h : NoWid x := by
      refine ⟨fun e => hw ⟨8, 4, Or.inl ⟨rfl, rfl⟩, e⟩, fun e => hw ⟨16, 5, Or.inr (Or.inl ⟨rfl, rfl⟩), e⟩, fun e => hw ⟨32, 6, Or.inr (Or.inr (Or.inl ⟨rfl, rfl⟩)), e⟩, fun e => hw ⟨64, 7, Or.inr (Or.inr (Or.inr ⟨rfl, rfl⟩)), e⟩⟩
    have HC1 := hidD (fun w => checks_no h w)
    have HC2 := hidD (fun w => refChecks_no h w)
    have HV1 := hidD (fun w => valid_none h D C w)
    have HV2 := hidD (fun w => refValid_none h D C w)
    exact words_walk x bit d D C D' C' _ _ _ _ _ _ _ _ _ _ _ _ _ _ _ _ _ _ HC1 HC2 HV1 HV2 (fun w => encode_no h d w) (fun w => refEncode_no h d w) (fun w => syndrome_no x D C HV1 w) (fun w => refSyndrome_none h D C w) (fun w => decode_no x D C HV1 w) (fun w => refDecode_no x D C (fun w => refSyndrome_none h D C w) w) (fun w => turn_no x D C bit 0 1 HC1 (Or.inl rfl) w) (fun w => refTurn_no x D C bit 0 1 HC2 (Or.inl rfl) w) (fun w => distance_no x D C D' C' (Or.inl HV1) w) (fun w => refDistance_no x D C D' C' (Or.inl HV2) w) w
end Go.Proofs.Ytjmaejdkdpiigaa
