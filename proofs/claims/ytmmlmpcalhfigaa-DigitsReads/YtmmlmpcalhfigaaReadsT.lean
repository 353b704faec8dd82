/- The walk of DigitsReads. -/
import Derived.Test.YtmmlmpcalhfigaaLive
namespace Go.Proofs.Ytmmlmpcalhfigaa
open Go.RowKit
set_option linter.unusedVariables false
set_option maxRecDepth 100000 in
set_option maxHeartbeats 400000 in
theorem reads_any (s : List UInt8) (hs : s.length ≤ maxLen) (w : World) : Calls Try.prog 3 #[.string ⟨s.toArray⟩] w fun e w' => e = .returned (.bool true) ∧ Below w.heap.size w w' := by
  have HLV := hidD (fun (w : World) => live_any w)
  have H8 := hidD (fun (w : World) => head_any s hs w)
  have H9 := hidD (fun (w : World) => refHead_any s hs w)
  have H12 := hidD (fun (w : World) => read_any s hs w)
  have H13 := hidD (fun (w : World) => refRead_any s hs w)
  have H14 := hidD (fun (w : World) => signed_any s hs w)
  have H15 := hidD (fun (w : World) => refSigned_any s hs w)
  generalize headS s = hd at *
  generalize readS s = rd at *
  generalize signedS s = sg at *
  obtain ⟨a1, a2, a3, a4⟩ := hd
  obtain ⟨b1, b2, b3, b4⟩ := rd
  obtain ⟨c1, c2, c3⟩ := sg
  simp only at H8 H9 H12 H13 H14 H15
  have n1 : ∀ x : Int, (x != x) = false := fun x => by simp
  have n2 : ∀ x : Int, (x == x) = true := fun x => by simp
  go_enter Try.func3, Try.ntmps3
  go_wp2_with (first
    | (go_at_call 6; refine (H8.out _).mono ?_; rintro e w' ⟨rfl, hw⟩; rw [hw]; clear hw w')
    | (go_at_call 7; refine (H9.out _).mono ?_; rintro e w' ⟨rfl, hw⟩; rw [hw]; clear hw w')
    | (go_at_call 8; refine (no_any _ _).mono ?_; rintro e w' ⟨rfl, hw⟩; rw [hw]; clear hw w')
    | (go_at_call 9; refine (HLV.out _).mono ?_; rintro e w1 ⟨rfl, hb1⟩)
    | (go_at_call 10; refine (H12.out _).mono ?_; rintro e w' ⟨rfl, hw⟩; rw [hw]; clear hw w')
    | (go_at_call 11; refine (H13.out _).mono ?_; rintro e w' ⟨rfl, hw⟩; rw [hw]; clear hw w')
    | (go_at_call 12; refine (H14.out _).mono ?_; rintro e w' ⟨rfl, hw⟩; rw [hw]; clear hw w')
    | (go_at_call 13; refine (H15.out _).mono ?_; rintro e w' ⟨rfl, hw⟩; rw [hw]; clear hw w'))
  go_ret
  exact ⟨rfl, hb1⟩
end Go.Proofs.Ytmmlmpcalhfigaa
