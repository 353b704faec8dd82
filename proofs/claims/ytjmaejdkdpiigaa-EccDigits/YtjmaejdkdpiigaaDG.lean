/- EccDigits: any text. -/
import Derived.Test.YtjmaejdkdpiigaaL1
import Derived.Test.YtjmaejdkdpiigaaR5
namespace Go.Proofs.Ytjmaejdkdpiigaa
open Go.RowKit
set_option linter.unusedVariables false

set_option maxRecDepth 100000 in
set_option maxHeartbeats 1600000 in
theorem digits_gen (s : List UInt8) (hs : s.length ≤ 140737488355328) (a b : Nat) (e : Int) (H1 : Hid (∀ w, Calls Try.prog 24 #[.string ⟨s.toArray⟩] w fun ee w' => ee = .returned (.tuple #[.int .u8 (a : Int), .int .i64 e]) ∧ w' = w)) (H2 : Hid (∀ w, Calls Try.prog 25 #[.string ⟨s.toArray⟩] w fun ee w' => ee = .returned (.tuple #[.int .u8 (a : Int), .int .i64 e]) ∧ Below w.heap.size w w')) (H3 : Hid (∀ w, Calls Try.prog 26 #[.string ⟨s.toArray⟩] w fun ee w' => ee = .returned (.tuple #[.int .u8 (b : Int), .int .i64 e]) ∧ w' = w)) (H4 : Hid (∀ w, Calls Try.prog 27 #[.string ⟨s.toArray⟩] w fun ee w' => ee = .returned (.tuple #[.int .u8 (b : Int), .int .i64 e]) ∧ Below w.heap.size w w')) (w : World) : Calls Try.prog 4 #[.string ⟨s.toArray⟩] w fun e w' => e = .returned (.bool true) ∧ Below w.heap.size w w' := by
  have HL := hidD live_any
  have HN : Hid (∀ z w, Calls Try.prog 10 #[.int .i64 z] w fun e w' => e = .returned (.int .i64 z) ∧ w' = w) := fun z w => no_any z w
  have H5 := hidD (luhnRight_any s hs)
  have H6 := hidD (refLuhnRight_any s hs)
  have H7 := hidD (verhoeffRight_any s hs)
  have H8 := hidD (refVerhoeffRight_any s hs)
  generalize decide (lrP s) = B1 at *
  generalize decide (vrP s) = B2 at *
  go_enter Try.func4, Try.ntmps4
  go_wp2_with (go_at_call 24; refine (H1.out _).mono ?_; rintro e wx ⟨rfl, hbx⟩)
  go_at_call 25
  refine (H2.out _).mono ?_
  rintro e1 w1 ⟨rfl, hb1⟩
  go_wp2_with (go_at_call 26; refine (H3.out _).mono ?_; rintro e wx ⟨rfl, hbx⟩)
  go_at_call 27
  refine (H4.out _).mono ?_
  rintro e2 w2 ⟨rfl, hb2⟩
  cases B1 <;> cases B2
  all_goals
    go_wp2_with (first | (go_at_call 10; refine (HN.out _ _).mono ?_; rintro e wx ⟨rfl, hbx⟩) | (go_at_call 28; refine (H5.out _).mono ?_; rintro e wx ⟨rfl, hbx⟩) | (go_at_call 29; refine (H6.out _).mono ?_; rintro e wx ⟨rfl, hbx⟩) | (go_at_call 30; refine (H7.out _).mono ?_; rintro e wx ⟨rfl, hbx⟩) | (go_at_call 31; refine (H8.out _).mono ?_; rintro e w3 ⟨rfl, hb3⟩) | (go_at_call 13; refine (HL.out _).mono ?_; rintro e w4 ⟨rfl, hb4⟩))
    go_ret
    exact ⟨rfl, Below.next (Below.next (Below.next hb1 hb2) hb3) hb4⟩
theorem digits_any (s : List UInt8) (hs : s.length ≤ 140737488351232) (w : World) : Calls Try.prog 4 #[.string ⟨s.toArray⟩] w fun e w' => e = .returned (.bool true) ∧ Below w.heap.size w w' := by
  have hs' : s.length ≤ 140737488355328 := by omega
  by_cases hd : AllD s
  · exact digits_gen s hs' _ _ 0 (fun w => luhn_ok s hs' hd w) (fun w => refLuhn_ok s hs hd w) (fun w => verhoeff_ok s hs' hd w) (fun w => refVerhoeff_ok s hs hd w) w
  · exact digits_gen s hs' 0 0 20 (fun w => luhn_no s hs' hd w) (fun w => refLuhn_no s hs' hd w) (fun w => verhoeff_no s hs' hd w) (fun w => refVerhoeff_no s hs' hd w) w
end Go.Proofs.Ytjmaejdkdpiigaa
