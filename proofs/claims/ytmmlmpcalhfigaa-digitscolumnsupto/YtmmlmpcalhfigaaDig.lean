/- What Digit and the test of a digit answer, the document's and the program's. -/
import Derived.Test.YtmmlmpcalhfigaaChecked
import Derived.Test.YtmmlmpcalhfigaaSpec
import Derived.WalkKit
import Derived.WalkSpells
import Derived.WalkLawsBesides
namespace Go.Proofs.Ytmmlmpcalhfigaa
open Go.RowKit
set_option linter.unusedVariables false

theorem ret_bool {a b : Bool} (h : a = b) : Ending.returned (.bool a) = .returned (.bool b) := by rw [h]
theorem ret_i64 {a b : Int} (h : a = b) : Ending.returned (.int .i64 a) = .returned (.int .i64 b) := by rw [h]

set_option maxHeartbeats 400000 in
theorem refDigit_any (c : Nat) (hc : c ≤ 255) (w : World) : Calls Try.prog 29 #[.int .u8 c] w fun e w' => e = .returned (.int .i64 (digV c)) ∧ w' = w := by
  have hci : (c : Int) ≤ 255 := by omega
  by_cases h0 : (c : Int) < 48
  · have h0' : c < 48 := by omega
    have e : digV c = -1 := by unfold digV; (repeat' split) <;> omega
    rw [e]
    clear e
    go_enter Try.func29, Try.ntmps29
    go_wp2
    go_ret
    exact ⟨ret_i64 (by go_num), rfl⟩
  by_cases h1 : (c : Int) ≤ 57
  · have h1' : c ≤ 57 := by omega
    have e : digV c = (c : Int) - 48 := by unfold digV; (repeat' split) <;> omega
    rw [e]
    clear e
    go_enter Try.func29, Try.ntmps29
    go_wp2
    go_ret
    exact ⟨ret_i64 (by go_num), rfl⟩
  by_cases h2 : (c : Int) < 65
  · have h2' : c < 65 := by omega
    have e : digV c = -1 := by unfold digV; (repeat' split) <;> omega
    rw [e]
    clear e
    go_enter Try.func29, Try.ntmps29
    go_wp2
    go_ret
    exact ⟨ret_i64 (by go_num), rfl⟩
  by_cases h3 : (c : Int) ≤ 70
  · have h3' : c ≤ 70 := by omega
    have e : digV c = (c : Int) - 55 := by unfold digV; (repeat' split) <;> omega
    rw [e]
    clear e
    go_enter Try.func29, Try.ntmps29
    go_wp2
    go_ret
    exact ⟨ret_i64 (by go_num), rfl⟩
  by_cases h4 : (c : Int) < 97
  · have h4' : c < 97 := by omega
    have e : digV c = -1 := by unfold digV; (repeat' split) <;> omega
    rw [e]
    clear e
    go_enter Try.func29, Try.ntmps29
    go_wp2
    go_ret
    exact ⟨ret_i64 (by go_num), rfl⟩
  by_cases h5 : (c : Int) ≤ 102
  · have h5' : c ≤ 102 := by omega
    have e : digV c = (c : Int) - 87 := by unfold digV; (repeat' split) <;> omega
    rw [e]
    clear e
    go_enter Try.func29, Try.ntmps29
    go_wp2
    go_ret
    exact ⟨ret_i64 (by go_num), rfl⟩
  have e : digV c = -1 := by unfold digV; (repeat' split) <;> omega
  rw [e]
  clear e
  go_enter Try.func29, Try.ntmps29
  go_wp2
  go_ret
  exact ⟨ret_i64 (by go_num), rfl⟩

set_option maxHeartbeats 400000 in
theorem refOf_any (c : Nat) (hc : c ≤ 255) (kind : Nat) (w : World) : Calls Try.prog 28 #[.int .u8 c, .int .i64 kind] w fun e w' => e = .returned (.bool (ofB c kind)) ∧ w' = w := by
  have hD : Hid (∀ w, Calls Try.prog 29 #[.int .u8 c] w fun e w' => e = .returned (.int .i64 (digV c)) ∧ w' = w) := fun w => refDigit_any c hc w
  have HO : Hid (∀ a b, decide (0 ≤ digV c) = a → decide (digV c < kind) = b → ofB c kind = (a && b)) := fun a b h1 h2 => by rw [← h1, ← h2]; rfl
  generalize digV c = d at *
  by_cases h0 : (0 : Int) ≤ d
  · by_cases h1 : d < kind
    · have e := HO.out true true (by simpa using h0) (by simpa using h1)
      rw [e]
      go_enter Try.func28, Try.ntmps28
      go_wp2_with (go_at_call 29; refine (hD.out _).mono ?_; rintro e w' ⟨rfl, rfl⟩)
      go_ret
      exact ⟨rfl, rfl⟩
    · have e := HO.out true false (by simpa using h0) (by simpa using h1)
      rw [e]
      go_enter Try.func28, Try.ntmps28
      go_wp2_with (go_at_call 29; refine (hD.out _).mono ?_; rintro e w' ⟨rfl, rfl⟩)
      go_ret
      exact ⟨ret_bool (by simp; omega), rfl⟩
  · have e := HO.out false _ (by simpa using h0) rfl
    rw [e]
    go_enter Try.func28, Try.ntmps28
    go_wp2_with (go_at_call 29; refine (hD.out _).mono ?_; rintro e w' ⟨rfl, rfl⟩)
    go_ret
    exact ⟨rfl, rfl⟩

set_option maxHeartbeats 400000 in
theorem valueOf_any (c : Nat) (hc : c ≤ 255) (w : World) : Calls Try.prog 40 #[.int .u8 c] w fun e w' => e = .returned (.int .i64 (digV c)) ∧ w' = w := by
  have hci : (c : Int) ≤ 255 := by omega
  by_cases h0 : (c : Int) < 48
  · have h0' : c < 48 := by omega
    have e : digV c = -1 := by unfold digV; (repeat' split) <;> omega
    rw [e]
    clear e
    go_enter Try.func40, Try.ntmps40
    go_wp2
    go_ret
    exact ⟨ret_i64 (by go_num), rfl⟩
  by_cases h1 : (c : Int) ≤ 57
  · have h1' : c ≤ 57 := by omega
    have e : digV c = (c : Int) - 48 := by unfold digV; (repeat' split) <;> omega
    rw [e]
    clear e
    go_enter Try.func40, Try.ntmps40
    go_wp2
    go_ret
    exact ⟨ret_i64 (by go_num), rfl⟩
  by_cases h2 : (c : Int) < 65
  · have h2' : c < 65 := by omega
    have e : digV c = -1 := by unfold digV; (repeat' split) <;> omega
    rw [e]
    clear e
    go_enter Try.func40, Try.ntmps40
    go_wp2
    go_ret
    exact ⟨ret_i64 (by go_num), rfl⟩
  by_cases h3 : (c : Int) ≤ 70
  · have h3' : c ≤ 70 := by omega
    have e : digV c = (c : Int) - 55 := by unfold digV; (repeat' split) <;> omega
    rw [e]
    clear e
    go_enter Try.func40, Try.ntmps40
    go_wp2
    go_ret
    exact ⟨ret_i64 (by go_num), rfl⟩
  by_cases h4 : (c : Int) < 97
  · have h4' : c < 97 := by omega
    have e : digV c = -1 := by unfold digV; (repeat' split) <;> omega
    rw [e]
    clear e
    go_enter Try.func40, Try.ntmps40
    go_wp2
    go_ret
    exact ⟨ret_i64 (by go_num), rfl⟩
  by_cases h5 : (c : Int) ≤ 102
  · have h5' : c ≤ 102 := by omega
    have e : digV c = (c : Int) - 87 := by unfold digV; (repeat' split) <;> omega
    rw [e]
    clear e
    go_enter Try.func40, Try.ntmps40
    go_wp2
    go_ret
    exact ⟨ret_i64 (by go_num), rfl⟩
  have e : digV c = -1 := by unfold digV; (repeat' split) <;> omega
  rw [e]
  clear e
  go_enter Try.func40, Try.ntmps40
  go_wp2
  go_ret
  exact ⟨ret_i64 (by go_num), rfl⟩

theorem digit_any (c : Nat) (hc : c ≤ 255) (w : World) : Calls Try.prog 26 #[.int .u8 c] w fun e w' => e = .returned (.int .i64 (digV c)) ∧ w' = w := by
  go_enter Try.func26, Try.ntmps26
  go_wp2_with (go_at_call 40; refine (valueOf_any c hc _).mono ?_; rintro e w' ⟨rfl, rfl⟩)
  go_ret
  exact ⟨rfl, rfl⟩

set_option maxHeartbeats 400000 in
theorem isDigit_any (c : Nat) (hc : c ≤ 255) (kind : Nat) (w : World) : Calls Try.prog 25 #[.int .u8 c, .int .i64 kind] w fun e w' => e = .returned (.bool (ofB c kind)) ∧ w' = w := by
  have hD : Hid (∀ w, Calls Try.prog 26 #[.int .u8 c] w fun e w' => e = .returned (.int .i64 (digV c)) ∧ w' = w) := fun w => digit_any c hc w
  have HO : Hid (∀ a b, decide (0 ≤ digV c) = a → decide (digV c < kind) = b → ofB c kind = (a && b)) := fun a b h1 h2 => by rw [← h1, ← h2]; rfl
  generalize digV c = d at *
  by_cases h0 : (0 : Int) ≤ d
  · by_cases h1 : d < kind
    · have e := HO.out true true (by simpa using h0) (by simpa using h1)
      rw [e]
      go_enter Try.func25, Try.ntmps25
      go_wp2_with (go_at_call 26; refine (hD.out _).mono ?_; rintro e w' ⟨rfl, rfl⟩)
      go_ret
      exact ⟨rfl, rfl⟩
    · have e := HO.out true false (by simpa using h0) (by simpa using h1)
      rw [e]
      go_enter Try.func25, Try.ntmps25
      go_wp2_with (go_at_call 26; refine (hD.out _).mono ?_; rintro e w' ⟨rfl, rfl⟩)
      go_ret
      exact ⟨ret_bool (by simp; omega), rfl⟩
  · have e := HO.out false _ (by simpa using h0) rfl
    rw [e]
    go_enter Try.func25, Try.ntmps25
    go_wp2_with (go_at_call 26; refine (hD.out _).mono ?_; rintro e w' ⟨rfl, rfl⟩)
    go_ret
    exact ⟨rfl, rfl⟩
end Go.Proofs.Ytmmlmpcalhfigaa
