/- What Signed of the program answers. -/
import Derived.Test.YtmmlmpcalhfigaaSig
import Derived.Lib.Strings
namespace Go.Proofs.Ytmmlmpcalhfigaa
open Go.RowKit
set_option linter.unusedVariables false

theorem first_byte (s : List UInt8) (h : 0 < s.length) (c : UInt8) : ((({ data := s.toArray } : ByteArray).extract 0 1).toList == [c]) = decide (byteAt s 0 = c.toNat) := by
  have h1 : (({ data := s.toArray } : ByteArray).extract 0 1).toList = [s.getD 0 0] := by
    rw [Lib.extract_toList]
    cases s with
    | nil => simp at h
    | cons a l => rfl
  rw [h1, byteAt, Bool.eq_iff_iff]
  simp only [beq_iff_eq, List.cons.injEq, and_true, decide_eq_true_eq]
  exact UInt8.toNat_inj.symm

set_option maxRecDepth 100000 in
set_option maxHeartbeats 400000 in
theorem trim_1 (s : List UInt8) (hs : s.length ≤ maxLen) (w : World) (h0 : 0 < s.length) (hc : byteAt s 0 = 45) : Calls Try.prog 30 #[.string ⟨s.toArray⟩, .string ⟨#[45]⟩] w fun e w' => e = .returned (.string ⟨(s.drop 1).toArray⟩) ∧ w' = w := by
  have hf : ((({ data := s.toArray } : ByteArray).extract 0 1).toList == [45]) = true := (first_byte s h0 45).trans (by rw [hc]; rfl)
  unfold maxLen at hs
  have hi1 : (1 : Int) ≤ s.length := by omega
  have hi0 : (0 : Int) < s.length := by omega
  go_enter Try.func30, Try.ntmps30
  go_wp2_with (first | go_in | fail)
  go_ret
  refine ⟨?_, rfl⟩
  rw [← ba_drop s 1]
  rfl
set_option maxRecDepth 100000 in
set_option maxHeartbeats 400000 in
theorem trim_0 (s : List UInt8) (hs : s.length ≤ maxLen) (w : World) (h0 : 0 < s.length) (hc : byteAt s 0 ≠ 45) : Calls Try.prog 30 #[.string ⟨s.toArray⟩, .string ⟨#[45]⟩] w fun e w' => e = .returned (.string ⟨(s.drop 0).toArray⟩) ∧ w' = w := by
  have hf : ((({ data := s.toArray } : ByteArray).extract 0 1).toList == [45]) = false := (first_byte s h0 45).trans (decide_eq_false hc)
  unfold maxLen at hs
  have hi1 : (1 : Int) ≤ s.length := by omega
  have hi0 : (0 : Int) < s.length := by omega
  go_enter Try.func30, Try.ntmps30
  go_wp2_with (first | go_in | fail)
  go_ret
  exact ⟨rfl, rfl⟩
set_option maxRecDepth 100000 in
set_option maxHeartbeats 400000 in
theorem trim_e (s : List UInt8) (hs : s.length ≤ maxLen) (w : World) (h0 : s.length = 0) : Calls Try.prog 30 #[.string ⟨s.toArray⟩, .string ⟨#[45]⟩] w fun e w' => e = .returned (.string ⟨(s.drop 0).toArray⟩) ∧ w' = w := by
  have hi1 : ¬ (1 : Int) ≤ s.length := by omega
  unfold maxLen at hs
  clear h0
  go_enter Try.func30, Try.ntmps30
  go_wp2_with (first | go_in | fail)
  go_ret
  exact ⟨rfl, rfl⟩

set_option maxRecDepth 100000 in
set_option maxHeartbeats 400000 in
theorem signed_1 (s : List UInt8) (hs : s.length ≤ maxLen) (w : World) (h0 : 0 < s.length) (hc : byteAt s 0 = 45) : Calls Try.prog 12 #[.string ⟨s.toArray⟩] w fun e w' => e = .returned (.tuple #[.int .i64 (signedS s).1, .int .i64 (signedS s).2.1, .int .i64 (signedS s).2.2]) ∧ w' = w := by
  have hm : (if 0 < s.length ∧ byteAt s 0 = 45 then 1 else 0) = 1 := if_pos ⟨h0, hc⟩
  have HTR := hidD (trim_1 s hs w h0 hc)
  have hi1 : (1 : Int) ≤ s.length := by omega
  have hl : (s.drop 1).length ≤ maxLen := by rw [List.length_drop]; omega
  have HRD := hidD (read_any (s.drop 1) hl w)
  have hb := readS_le (s.drop 1)
  obtain ⟨v, kd, n, er, hr⟩ : ∃ v kd n er, readS (s.drop 1) = (v, kd, n, er) := ⟨_, _, _, _, rfl⟩
  have HE := hidD (signed_eq hm hr)
  rw [hr] at HRD hb
  simp only at HRD hb
  obtain ⟨hb1, hb2, hb3⟩ := hb
  have hsub : (s.length : Int) - ((s.drop 1).length : Int) = 1 := by rw [List.length_drop]; omega
  rw [List.length_drop] at hb2
  clear hr hm hl
  unfold maxLen at hs
  generalize s.drop 1 = t at *
  generalize signedS s = sg at *
  by_cases h0 : er = 0
  · subst h0
    by_cases h1 : 9223372036854775808 < v
    · have hi : (9223372036854775808 : Int) < v := by omega
      have e : sg = (0, 1, 3) := by rw [HE.out, if_neg (by simp), if_pos (by omega)]
      clear HE
      go_enter Try.func12, Try.ntmps12
      go_wp2_with (first
        | (go_at_call 30; refine HTR.out.mono ?_; rintro e w' ⟨rfl, rfl⟩)
        | (go_at_call 10; refine HRD.out.mono ?_; rintro e w' ⟨rfl, rfl⟩))
      refine bodyPost_ret (v := .tuple #[.int .i64 0, .int .i64 1, .int .i64 3]) (by simp [results, Try.results12, go_sem]) rfl ⟨?_, rfl⟩
      rw [e]; rfl
    · have hi : ¬ (9223372036854775808 : Int) < v := by omega
      have e : sg = ((-(v : Int)), 0, 0) := by rw [HE.out, if_neg (by simp), if_neg (by omega)]; rfl
      clear HE
      have hnb := neg_back (v := v) (by omega)
      go_enter Try.func12, Try.ntmps12
      go_wp2_with (first
        | (go_at_call 30; refine HTR.out.mono ?_; rintro e w' ⟨rfl, rfl⟩)
        | (go_at_call 10; refine HRD.out.mono ?_; rintro e w' ⟨rfl, rfl⟩))
      refine bodyPost_ret (v := .tuple #[.int .i64 (-(v : Int)), .int .i64 0, .int .i64 0]) (by simp [results, Try.results12, go_sem]) rfl ⟨?_, rfl⟩
      rw [e]; rfl
  · have hi : ¬ (er : Int) = 0 := by omega
    have e : sg = (0, 1 + n, er) := by rw [HE.out, if_pos h0]
    clear HE
    go_enter Try.func12, Try.ntmps12
    go_wp2_with (first
      | (go_at_call 30; refine HTR.out.mono ?_; rintro e w' ⟨rfl, rfl⟩)
      | (go_at_call 10; refine HRD.out.mono ?_; rintro e w' ⟨rfl, rfl⟩))
    refine bodyPost_ret (v := .tuple #[.int .i64 0, .int .i64 ((1 + n : Nat) : Int), .int .i64 er]) (by simp [results, Try.results12, go_sem]) rfl ⟨?_, rfl⟩
    rw [e]

set_option maxRecDepth 100000 in
set_option maxHeartbeats 400000 in
theorem signed_0 (s : List UInt8) (hs : s.length ≤ maxLen) (w : World) (h0 : 0 < s.length) (hc : byteAt s 0 ≠ 45) : Calls Try.prog 12 #[.string ⟨s.toArray⟩] w fun e w' => e = .returned (.tuple #[.int .i64 (signedS s).1, .int .i64 (signedS s).2.1, .int .i64 (signedS s).2.2]) ∧ w' = w := by
  have hm : (if 0 < s.length ∧ byteAt s 0 = 45 then 1 else 0) = 0 := if_neg (fun h => hc h.2)
  have HTR := hidD (trim_0 s hs w h0 hc)
  have hl : (s.drop 0).length ≤ maxLen := by rw [List.length_drop]; omega
  have HRD := hidD (read_any (s.drop 0) hl w)
  have hb := readS_le (s.drop 0)
  obtain ⟨v, kd, n, er, hr⟩ : ∃ v kd n er, readS (s.drop 0) = (v, kd, n, er) := ⟨_, _, _, _, rfl⟩
  have HE := hidD (signed_eq hm hr)
  rw [hr] at HRD hb
  simp only at HRD hb
  obtain ⟨hb1, hb2, hb3⟩ := hb
  rw [List.length_drop] at hb2
  clear hr hm hl
  unfold maxLen at hs
  generalize signedS s = sg at *
  by_cases h0 : er = 0
  · subst h0
    by_cases h1 : 9223372036854775807 < v
    · have hi : (9223372036854775807 : Int) < v := by omega
      have e : sg = (0, 0, 3) := by rw [HE.out, if_neg (by simp), if_pos (by omega)]
      clear HE
      go_enter Try.func12, Try.ntmps12
      go_wp2_with (first
        | (go_at_call 30; refine HTR.out.mono ?_; rintro e w' ⟨rfl, rfl⟩)
        | (go_at_call 10; refine HRD.out.mono ?_; rintro e w' ⟨rfl, rfl⟩))
      refine bodyPost_ret (v := .tuple #[.int .i64 0, .int .i64 0, .int .i64 3]) (by simp [results, Try.results12, go_sem]) rfl ⟨?_, rfl⟩
      rw [e]; rfl
    · have hi : ¬ (9223372036854775807 : Int) < v := by omega
      have e : sg = ((v : Int), 0, 0) := by rw [HE.out, if_neg (by simp), if_neg (by omega)]; rfl
      clear HE
      go_enter Try.func12, Try.ntmps12
      go_wp2_with (first
        | (go_at_call 30; refine HTR.out.mono ?_; rintro e w' ⟨rfl, rfl⟩)
        | (go_at_call 10; refine HRD.out.mono ?_; rintro e w' ⟨rfl, rfl⟩))
      refine bodyPost_ret (v := .tuple #[.int .i64 (v : Int), .int .i64 0, .int .i64 0]) (by simp [results, Try.results12, go_sem]) rfl ⟨?_, rfl⟩
      rw [e]; rfl
  · have hi : ¬ (er : Int) = 0 := by omega
    have e : sg = (0, 0 + n, er) := by rw [HE.out, if_pos h0]
    clear HE
    go_enter Try.func12, Try.ntmps12
    go_wp2_with (first
      | (go_at_call 30; refine HTR.out.mono ?_; rintro e w' ⟨rfl, rfl⟩)
      | (go_at_call 10; refine HRD.out.mono ?_; rintro e w' ⟨rfl, rfl⟩))
    refine bodyPost_ret (v := .tuple #[.int .i64 0, .int .i64 ((0 + n : Nat) : Int), .int .i64 er]) (by simp [results, Try.results12, go_sem]) rfl ⟨?_, rfl⟩
    rw [e]

set_option maxRecDepth 100000 in
set_option maxHeartbeats 400000 in
theorem signed_e (s : List UInt8) (hs : s.length ≤ maxLen) (w : World) (h0 : s.length = 0) : Calls Try.prog 12 #[.string ⟨s.toArray⟩] w fun e w' => e = .returned (.tuple #[.int .i64 (signedS s).1, .int .i64 (signedS s).2.1, .int .i64 (signedS s).2.2]) ∧ w' = w := by
  have hm : (if 0 < s.length ∧ byteAt s 0 = 45 then 1 else 0) = 0 := if_neg (by omega)
  have HTR := hidD (trim_e s hs w h0)
  clear h0
  have hl : (s.drop 0).length ≤ maxLen := by rw [List.length_drop]; omega
  have HRD := hidD (read_any (s.drop 0) hl w)
  have hb := readS_le (s.drop 0)
  obtain ⟨v, kd, n, er, hr⟩ : ∃ v kd n er, readS (s.drop 0) = (v, kd, n, er) := ⟨_, _, _, _, rfl⟩
  have HE := hidD (signed_eq hm hr)
  rw [hr] at HRD hb
  simp only at HRD hb
  obtain ⟨hb1, hb2, hb3⟩ := hb
  rw [List.length_drop] at hb2
  clear hr hm hl
  unfold maxLen at hs
  generalize signedS s = sg at *
  by_cases h0 : er = 0
  · subst h0
    by_cases h1 : 9223372036854775807 < v
    · have hi : (9223372036854775807 : Int) < v := by omega
      have e : sg = (0, 0, 3) := by rw [HE.out, if_neg (by simp), if_pos (by omega)]
      clear HE
      go_enter Try.func12, Try.ntmps12
      go_wp2_with (first
        | (go_at_call 30; refine HTR.out.mono ?_; rintro e w' ⟨rfl, rfl⟩)
        | (go_at_call 10; refine HRD.out.mono ?_; rintro e w' ⟨rfl, rfl⟩))
      refine bodyPost_ret (v := .tuple #[.int .i64 0, .int .i64 0, .int .i64 3]) (by simp [results, Try.results12, go_sem]) rfl ⟨?_, rfl⟩
      rw [e]; rfl
    · have hi : ¬ (9223372036854775807 : Int) < v := by omega
      have e : sg = ((v : Int), 0, 0) := by rw [HE.out, if_neg (by simp), if_neg (by omega)]; rfl
      clear HE
      go_enter Try.func12, Try.ntmps12
      go_wp2_with (first
        | (go_at_call 30; refine HTR.out.mono ?_; rintro e w' ⟨rfl, rfl⟩)
        | (go_at_call 10; refine HRD.out.mono ?_; rintro e w' ⟨rfl, rfl⟩))
      refine bodyPost_ret (v := .tuple #[.int .i64 (v : Int), .int .i64 0, .int .i64 0]) (by simp [results, Try.results12, go_sem]) rfl ⟨?_, rfl⟩
      rw [e]; rfl
  · have hi : ¬ (er : Int) = 0 := by omega
    have e : sg = (0, 0 + n, er) := by rw [HE.out, if_pos h0]
    clear HE
    go_enter Try.func12, Try.ntmps12
    go_wp2_with (first
      | (go_at_call 30; refine HTR.out.mono ?_; rintro e w' ⟨rfl, rfl⟩)
      | (go_at_call 10; refine HRD.out.mono ?_; rintro e w' ⟨rfl, rfl⟩))
    refine bodyPost_ret (v := .tuple #[.int .i64 0, .int .i64 ((0 + n : Nat) : Int), .int .i64 er]) (by simp [results, Try.results12, go_sem]) rfl ⟨?_, rfl⟩
    rw [e]

theorem signed_any (s : List UInt8) (hs : s.length ≤ maxLen) (w : World) : Calls Try.prog 12 #[.string ⟨s.toArray⟩] w fun e w' => e = .returned (.tuple #[.int .i64 (signedS s).1, .int .i64 (signedS s).2.1, .int .i64 (signedS s).2.2]) ∧ w' = w := by
  by_cases h0 : 0 < s.length
  · by_cases hc : byteAt s 0 = 45
    · exact signed_1 s hs w h0 hc
    · exact signed_0 s hs w h0 hc
  · exact signed_e s hs w (by omega)
end Go.Proofs.Ytmmlmpcalhfigaa
