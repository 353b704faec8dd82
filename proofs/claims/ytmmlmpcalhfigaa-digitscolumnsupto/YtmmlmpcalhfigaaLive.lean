/- live: some of the chapter's examples come. -/
import Derived.Test.YtmmlmpcalhfigaaShowP
import Derived.Test.YtmmlmpcalhfigaaOrd
namespace Go.Proofs.Ytmmlmpcalhfigaa
open Go.RowKit
set_option linter.unusedVariables false
theorem no_any (x : Int) (w : World) : Calls Try.prog 8 #[.int .i64 x] w fun e w' => e = .returned (.int .i64 x) ∧ w' = w := by
  go_enter Try.func8, Try.ntmps8
  go_wp2
  go_ret
  exact ⟨rfl, rfl⟩
set_option maxRecDepth 100000 in
set_option maxHeartbeats 400000 in
theorem live_any (w : World) : Calls Try.prog 9 #[] w fun e w' => e = .returned (.bool true) ∧ Below w.heap.size w w' := by
  have H10 := hidD (fun (w : World) => read_any [48, 88, 49, 102] (by decide) w)
  have H23 := hidD (fun (w : World) => show_any 255 16 4 (by decide) w)
  have H6 := hidD (fun (w : World) => head_any [36] (by decide) w)
  have H26 := hidD (fun (w : World) => digit_any 97 (by decide) w)
  have H17 := hidD (fun (w : World) => width_any ⟨#[195, 169, 33]⟩ (by decide) w)
  rw [live_read] at H10
  rw [live_show] at H23
  rw [live_head] at H6
  rw [live_digit] at H26
  rw [live_width] at H17
  go_enter Try.func9, Try.ntmps9
  go_wp2_with (first
    | (go_at_call 10; refine (H10.out _).mono ?_; rintro e w' ⟨rfl, hw⟩; rw [hw]; clear hw w')
    | (go_at_call 23; refine (H23.out _).mono ?_; rintro e w1 ⟨rfl, hb1⟩)
    | (go_at_call 6; refine (H6.out _).mono ?_; rintro e w' ⟨rfl, hw⟩; rw [hw]; clear hw w')
    | (go_at_call 8; refine (no_any _ _).mono ?_; rintro e w' ⟨rfl, hw⟩; rw [hw]; clear hw w')
    | (go_at_call 26; refine (H26.out _).mono ?_; rintro e w' ⟨rfl, hw⟩; rw [hw]; clear hw w')
    | (go_at_call 17; refine (H17.out _).mono ?_; rintro e w2 ⟨rfl, hb2⟩))
  go_ret
  exact ⟨rfl, hb1.trans (hb2.mono hb1.size)⟩
end Go.Proofs.Ytmmlmpcalhfigaa
