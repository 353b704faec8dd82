/- What LuhnRight and VerhoeffRight of ecc answer. -/
import Derived.Test.YtjmaejdkdpiigabD3
namespace Go.Proofs.Ytjmaejdkdpiigab
open Go.RowKit
set_option linter.unusedVariables false

theorem ba_list (l : List UInt8) : ({ data := l.toArray } : ByteArray).toList = l := by rw [ByteArray.toList_eq]
theorem ba_ne {l : List UInt8} (h : l ≠ []) : l.isEmpty = false := by cases l; exact absurd rfl h; rfl
def lrP (s : List UInt8) : Prop := s ≠ [] ∧ AllD s ∧ suTo (dgS s) 0 s.length = 0
instance (s : List UInt8) : Decidable (lrP s) := by unfold lrP; infer_instance
def vrP (s : List UInt8) : Prop := s ≠ [] ∧ AllD s ∧ veTo (dgS s) 0 s.length = 0
instance (s : List UInt8) : Decidable (vrP s) := by unfold vrP; infer_instance

set_option maxRecDepth 100000 in
set_option maxHeartbeats 800000 in
theorem luhnRight_any (s : List UInt8) (hs : s.length ≤ 140737488355328) (w : World) : Calls Try.prog 8 #[.string ⟨s.toArray⟩] w fun e w' => e = .returned (.bool (decide (lrP s))) ∧ w' = w := by
  by_cases h0 : s = []
  · subst h0
    go_enter Try.func8, Try.ntmps8
    go_wp2_with fail
    go_ret
    exact ⟨by first | rfl | simp [lrP], rfl⟩
  · have hne := ba_ne h0
    by_cases hd : AllD s
    · have HA : Hid (∀ w, Calls Try.prog 13 #[.string ⟨s.toArray⟩] w fun e w' => e = .returned (.bool true) ∧ w' = w) := fun w => by have := areDigits_any s hs w; rw [decide_eq_true hd] at this; exact this
      have HL : Hid (∀ w, Calls Try.prog 14 #[.string ⟨s.toArray⟩, .int .i64 0] w fun e w' => e = .returned (.int .i64 (suTo (dgS s) 0 s.length : Int)) ∧ w' = w) := fun w => luhnSum_any s hs hd 0 (by omega) w
      have HE : Hid (decide (lrP s) = ((suTo (dgS s) 0 s.length : Int) == 0)) := by
        show _ = _
        by_cases hz : suTo (dgS s) 0 s.length = 0
        · rw [decide_eq_true (show lrP s from ⟨h0, hd, hz⟩), hz]; rfl
        · rw [decide_eq_false (show ¬ lrP s from fun h => hz h.2.2)]; exact (beq_eq_false_iff_ne.mpr (by omega)).symm
      generalize suTo (dgS s) 0 s.length = T at *
      rw [HE.out]
      clear hd h0
      go_enter Try.func8, Try.ntmps8
      go_wp2_with (first | (go_at_call 13; refine (HA.out _).mono ?_; rintro e w2 ⟨rfl, hb2⟩) | (go_at_call 14; refine (HL.out _).mono ?_; rintro e w2 ⟨rfl, hb2⟩))
      go_ret
      exact ⟨rfl, rfl⟩
    · have HA : Hid (∀ w, Calls Try.prog 13 #[.string ⟨s.toArray⟩] w fun e w' => e = .returned (.bool false) ∧ w' = w) := fun w => by have := areDigits_any s hs w; rw [decide_eq_false hd] at this; exact this
      rw [decide_eq_false (show ¬ lrP s from fun h => hd h.2.1)]
      clear hd h0
      go_enter Try.func8, Try.ntmps8
      go_wp2_with (go_at_call 13; refine (HA.out _).mono ?_; rintro e w2 ⟨rfl, hb2⟩)
      go_ret
      exact ⟨rfl, rfl⟩
set_option maxRecDepth 100000 in
set_option maxHeartbeats 800000 in
theorem verhoeffRight_any (s : List UInt8) (hs : s.length ≤ 140737488355328) (w : World) : Calls Try.prog 9 #[.string ⟨s.toArray⟩] w fun e w' => e = .returned (.bool (decide (vrP s))) ∧ w' = w := by
  by_cases h0 : s = []
  · subst h0
    go_enter Try.func9, Try.ntmps9
    go_wp2_with fail
    go_ret
    exact ⟨by first | rfl | simp [vrP], rfl⟩
  · have hne := ba_ne h0
    by_cases hd : AllD s
    · have HA : Hid (∀ w, Calls Try.prog 13 #[.string ⟨s.toArray⟩] w fun e w' => e = .returned (.bool true) ∧ w' = w) := fun w => by have := areDigits_any s hs w; rw [decide_eq_true hd] at this; exact this
      have HL : Hid (∀ w, Calls Try.prog 16 #[.string ⟨s.toArray⟩, .int .i64 0] w fun e w' => e = .returned (.int .i64 (veTo (dgS s) 0 s.length : Int)) ∧ w' = w) := fun w => verhoeffProduct_any s hs hd 0 (by omega) w
      have HE : Hid (decide (vrP s) = ((veTo (dgS s) 0 s.length : Int) == 0)) := by
        show _ = _
        by_cases hz : veTo (dgS s) 0 s.length = 0
        · rw [decide_eq_true (show vrP s from ⟨h0, hd, hz⟩), hz]; rfl
        · rw [decide_eq_false (show ¬ vrP s from fun h => hz h.2.2)]; exact (beq_eq_false_iff_ne.mpr (by omega)).symm
      generalize veTo (dgS s) 0 s.length = T at *
      rw [HE.out]
      clear hd h0
      go_enter Try.func9, Try.ntmps9
      go_wp2_with (first | (go_at_call 13; refine (HA.out _).mono ?_; rintro e w2 ⟨rfl, hb2⟩) | (go_at_call 16; refine (HL.out _).mono ?_; rintro e w2 ⟨rfl, hb2⟩))
      go_ret
      exact ⟨rfl, rfl⟩
    · have HA : Hid (∀ w, Calls Try.prog 13 #[.string ⟨s.toArray⟩] w fun e w' => e = .returned (.bool false) ∧ w' = w) := fun w => by have := areDigits_any s hs w; rw [decide_eq_false hd] at this; exact this
      rw [decide_eq_false (show ¬ vrP s from fun h => hd h.2.1)]
      clear hd h0
      go_enter Try.func9, Try.ntmps9
      go_wp2_with (go_at_call 13; refine (HA.out _).mono ?_; rintro e w2 ⟨rfl, hb2⟩)
      go_ret
      exact ⟨rfl, rfl⟩
end Go.Proofs.Ytjmaejdkdpiigab
