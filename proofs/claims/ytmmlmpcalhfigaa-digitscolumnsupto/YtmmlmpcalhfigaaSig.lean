/- What Signed answers, the document's and the program's. -/
import Derived.Test.YtmmlmpcalhfigaaRead
namespace Go.Proofs.Ytmmlmpcalhfigaa
open Go.RowKit
set_option linter.unusedVariables false

theorem ba_drop (s : List UInt8) (m : Nat) : ({ data := s.toArray } : ByteArray).extract m s.length = ⟨(s.drop m).toArray⟩ := by
  apply ByteArray.ext
  rw [ByteArray.data_extract]
  apply Array.toList_inj.1
  simp only [Array.toList_extract, List.extract_eq_take_drop]
  exact List.take_of_length_le (by simp)
theorem signed_eq {s : List UInt8} {m v kd n er : Nat} (hm : (if 0 < s.length ∧ byteAt s 0 = 45 then 1 else 0) = m) (hr : readS (s.drop m) = (v, kd, n, er)) : signedS s = if er ≠ 0 then (0, m + n, er) else if m = 0 ∧ 9223372036854775807 < v ∨ m = 1 ∧ 9223372036854775808 < v then (0, m, 3) else if m = 1 then (-(v : Int), 0, 0) else ((v : Int), 0, 0) := by
  unfold signedS
  simp only [hm, hr]
theorem neg_back {v : Nat} (h : v ≤ 9223372036854775808) : IntKind.i64.wrap (IntKind.u64.wrap (-(v : Int))) = -(v : Int) := by
  rw [IntKind.wrap_i64, IntKind.wrap_u64]
  omega

set_option maxRecDepth 100000 in
set_option maxHeartbeats 1000000 in
theorem refSigned_1 (s : List UInt8) (hs : s.length ≤ maxLen) (w : World) (h0 : 0 < s.length) (hc : byteAt s 0 = 45) : Calls Try.prog 13 #[.string ⟨s.toArray⟩] w fun e w' => e = .returned (.tuple #[.int .i64 (signedS s).1, .int .i64 (signedS s).2.1, .int .i64 (signedS s).2.2]) ∧ w' = w := by
  have hm : (if 0 < s.length ∧ byteAt s 0 = 45 then 1 else 0) = 1 := if_pos ⟨h0, hc⟩
  have h0' : 0 < ({ data := s.toArray } : ByteArray).size := by rw [ba_size]; exact h0
  have hi0 : (0 : Int) < s.length := by omega
  have e0 := ba_nat s 0 h0'
  rw [hc] at e0
  have hi1 : (1 : Int) ≤ s.length := by omega
  have hl : (s.drop 1).length ≤ maxLen := by rw [List.length_drop]; omega
  have HRD := hidD (refRead_any (s.drop 1) hl w)
  have hb := readS_le (s.drop 1)
  obtain ⟨v, kd, n, er, hr⟩ : ∃ v kd n er, readS (s.drop 1) = (v, kd, n, er) := ⟨_, _, _, _, rfl⟩
  have HE := hidD (signed_eq hm hr)
  rw [hr] at HRD hb
  simp only at HRD hb
  obtain ⟨hb1, hb2, hb3⟩ := hb
  rw [List.length_drop] at hb2
  clear hr hm hl
  unfold maxLen at hs
  generalize signedS s = sg at *
  by_cases h0 : er = 0
  · subst h0
    by_cases h1 : 9223372036854775808 < v
    · have hi : (9223372036854775808 : Int) < v := by omega
      have e : sg = (0, 1, 3) := by rw [HE.out, if_neg (by simp), if_pos (by omega)]
      clear HE
      go_enter Try.func13, Try.ntmps13
      go_wp2_with (go_at_call 11; rw [ba_drop]; refine HRD.out.mono ?_; rintro e w' ⟨rfl, rfl⟩)
      refine bodyPost_ret (v := .tuple #[.int .i64 0, .int .i64 1, .int .i64 3]) (by simp [results, Try.results13, go_sem]) rfl ⟨?_, rfl⟩
      rw [e]; rfl
    · have hi : ¬ (9223372036854775808 : Int) < v := by omega
      have e : sg = ((-(v : Int)), 0, 0) := by rw [HE.out, if_neg (by simp), if_neg (by omega)]; rfl
      clear HE
      have hnb := neg_back (v := v) (by omega)
      go_enter Try.func13, Try.ntmps13
      go_wp2_with (go_at_call 11; rw [ba_drop]; refine HRD.out.mono ?_; rintro e w' ⟨rfl, rfl⟩)
      refine bodyPost_ret (v := .tuple #[.int .i64 (-(v : Int)), .int .i64 0, .int .i64 0]) (by simp [results, Try.results13, go_sem]) rfl ⟨?_, rfl⟩
      rw [e]; rfl
  · have hi : ¬ (er : Int) = 0 := by omega
    have e : sg = (0, 1 + n, er) := by rw [HE.out, if_pos h0]
    clear HE
    go_enter Try.func13, Try.ntmps13
    go_wp2_with (go_at_call 11; rw [ba_drop]; refine HRD.out.mono ?_; rintro e w' ⟨rfl, rfl⟩)
    refine bodyPost_ret (v := .tuple #[.int .i64 0, .int .i64 ((1 + n : Nat) : Int), .int .i64 er]) (by simp [results, Try.results13, go_sem]) rfl ⟨?_, rfl⟩
    rw [e]

set_option maxRecDepth 100000 in
set_option maxHeartbeats 1000000 in
theorem refSigned_0 (s : List UInt8) (hs : s.length ≤ maxLen) (w : World) (h0 : 0 < s.length) (hc : byteAt s 0 ≠ 45) : Calls Try.prog 13 #[.string ⟨s.toArray⟩] w fun e w' => e = .returned (.tuple #[.int .i64 (signedS s).1, .int .i64 (signedS s).2.1, .int .i64 (signedS s).2.2]) ∧ w' = w := by
  have hm : (if 0 < s.length ∧ byteAt s 0 = 45 then 1 else 0) = 0 := if_neg (fun h => hc h.2)
  have h0' : 0 < ({ data := s.toArray } : ByteArray).size := by rw [ba_size]; exact h0
  have hi0 : (0 : Int) < s.length := by omega
  have e0 := ba_nat s 0 h0'
  have hci : ¬ (byteAt s 0 : Int) = 45 := by omega
  have hl : (s.drop 0).length ≤ maxLen := by rw [List.length_drop]; omega
  have HRD := hidD (refRead_any (s.drop 0) hl w)
  have hb := readS_le (s.drop 0)
  obtain ⟨v, kd, n, er, hr⟩ : ∃ v kd n er, readS (s.drop 0) = (v, kd, n, er) := ⟨_, _, _, _, rfl⟩
  have HE := hidD (signed_eq hm hr)
  rw [hr] at HRD hb
  simp only at HRD hb
  obtain ⟨hb1, hb2, hb3⟩ := hb
  rw [List.length_drop] at hb2
  clear hr hm hl
  unfold maxLen at hs
  generalize signedS s = sg at *
  by_cases h0 : er = 0
  · subst h0
    by_cases h1 : 9223372036854775807 < v
    · have hi : (9223372036854775807 : Int) < v := by omega
      have e : sg = (0, 0, 3) := by rw [HE.out, if_neg (by simp), if_pos (by omega)]
      clear HE
      go_enter Try.func13, Try.ntmps13
      go_wp2_with (go_at_call 11; rw [ba_drop]; refine HRD.out.mono ?_; rintro e w' ⟨rfl, rfl⟩)
      refine bodyPost_ret (v := .tuple #[.int .i64 0, .int .i64 0, .int .i64 3]) (by simp [results, Try.results13, go_sem]) rfl ⟨?_, rfl⟩
      rw [e]; rfl
    · have hi : ¬ (9223372036854775807 : Int) < v := by omega
      have e : sg = ((v : Int), 0, 0) := by rw [HE.out, if_neg (by simp), if_neg (by omega)]; rfl
      clear HE
      go_enter Try.func13, Try.ntmps13
      go_wp2_with (go_at_call 11; rw [ba_drop]; refine HRD.out.mono ?_; rintro e w' ⟨rfl, rfl⟩)
      refine bodyPost_ret (v := .tuple #[.int .i64 (v : Int), .int .i64 0, .int .i64 0]) (by simp [results, Try.results13, go_sem]) rfl ⟨?_, rfl⟩
      rw [e]; rfl
  · have hi : ¬ (er : Int) = 0 := by omega
    have e : sg = (0, 0 + n, er) := by rw [HE.out, if_pos h0]
    clear HE
    go_enter Try.func13, Try.ntmps13
    go_wp2_with (go_at_call 11; rw [ba_drop]; refine HRD.out.mono ?_; rintro e w' ⟨rfl, rfl⟩)
    refine bodyPost_ret (v := .tuple #[.int .i64 0, .int .i64 ((0 + n : Nat) : Int), .int .i64 er]) (by simp [results, Try.results13, go_sem]) rfl ⟨?_, rfl⟩
    rw [e]

set_option maxRecDepth 100000 in
set_option maxHeartbeats 1000000 in
theorem refSigned_e (s : List UInt8) (hs : s.length ≤ maxLen) (w : World) (h0 : s.length = 0) : Calls Try.prog 13 #[.string ⟨s.toArray⟩] w fun e w' => e = .returned (.tuple #[.int .i64 (signedS s).1, .int .i64 (signedS s).2.1, .int .i64 (signedS s).2.2]) ∧ w' = w := by
  have hm : (if 0 < s.length ∧ byteAt s 0 = 45 then 1 else 0) = 0 := if_neg (by omega)
  have hi0 : ¬ (0 : Int) < s.length := by omega
  clear h0
  have hl : (s.drop 0).length ≤ maxLen := by rw [List.length_drop]; omega
  have HRD := hidD (refRead_any (s.drop 0) hl w)
  have hb := readS_le (s.drop 0)
  obtain ⟨v, kd, n, er, hr⟩ : ∃ v kd n er, readS (s.drop 0) = (v, kd, n, er) := ⟨_, _, _, _, rfl⟩
  have HE := hidD (signed_eq hm hr)
  rw [hr] at HRD hb
  simp only at HRD hb
  obtain ⟨hb1, hb2, hb3⟩ := hb
  rw [List.length_drop] at hb2
  clear hr hm hl
  unfold maxLen at hs
  generalize signedS s = sg at *
  by_cases h0 : er = 0
  · subst h0
    by_cases h1 : 9223372036854775807 < v
    · have hi : (9223372036854775807 : Int) < v := by omega
      have e : sg = (0, 0, 3) := by rw [HE.out, if_neg (by simp), if_pos (by omega)]
      clear HE
      go_enter Try.func13, Try.ntmps13
      go_wp2_with (go_at_call 11; rw [ba_drop]; refine HRD.out.mono ?_; rintro e w' ⟨rfl, rfl⟩)
      refine bodyPost_ret (v := .tuple #[.int .i64 0, .int .i64 0, .int .i64 3]) (by simp [results, Try.results13, go_sem]) rfl ⟨?_, rfl⟩
      rw [e]; rfl
    · have hi : ¬ (9223372036854775807 : Int) < v := by omega
      have e : sg = ((v : Int), 0, 0) := by rw [HE.out, if_neg (by simp), if_neg (by omega)]; rfl
      clear HE
      go_enter Try.func13, Try.ntmps13
      go_wp2_with (go_at_call 11; rw [ba_drop]; refine HRD.out.mono ?_; rintro e w' ⟨rfl, rfl⟩)
      refine bodyPost_ret (v := .tuple #[.int .i64 (v : Int), .int .i64 0, .int .i64 0]) (by simp [results, Try.results13, go_sem]) rfl ⟨?_, rfl⟩
      rw [e]; rfl
  · have hi : ¬ (er : Int) = 0 := by omega
    have e : sg = (0, 0 + n, er) := by rw [HE.out, if_pos h0]
    clear HE
    go_enter Try.func13, Try.ntmps13
    go_wp2_with (go_at_call 11; rw [ba_drop]; refine HRD.out.mono ?_; rintro e w' ⟨rfl, rfl⟩)
    refine bodyPost_ret (v := .tuple #[.int .i64 0, .int .i64 ((0 + n : Nat) : Int), .int .i64 er]) (by simp [results, Try.results13, go_sem]) rfl ⟨?_, rfl⟩
    rw [e]

theorem refSigned_any (s : List UInt8) (hs : s.length ≤ maxLen) (w : World) : Calls Try.prog 13 #[.string ⟨s.toArray⟩] w fun e w' => e = .returned (.tuple #[.int .i64 (signedS s).1, .int .i64 (signedS s).2.1, .int .i64 (signedS s).2.2]) ∧ w' = w := by
  by_cases h0 : 0 < s.length
  · by_cases hc : byteAt s 0 = 45
    · exact refSigned_1 s hs w h0 hc
    · exact refSigned_0 s hs w h0 hc
  · exact refSigned_e s hs w (by omega)
end Go.Proofs.Ytmmlmpcalhfigaa
