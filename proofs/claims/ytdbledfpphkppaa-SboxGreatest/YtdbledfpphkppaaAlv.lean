/- What alive of the statements answers. -/
import Derived.Test.YtdbledfpphkppaaPgm
import Derived.Laws.StructEq
namespace Go.Proofs.Ytdbledfpphkppaa
open Go.RowKit
set_option linter.unusedVariables false

theorem alv_sub {b c : UInt8} (h : sbN b.toNat = c.toNat) : subS b = c := UInt8.toNat.inj ((sub_sb b).trans h)
theorem alv1 : subS 0 = 99 := alv_sub (by decide +kernel)
theorem alv2 : subS 83 = 237 := alv_sub (by decide +kernel)
theorem alv3 : unsS 0 = 82 := by decide +kernel
def alvC (i : Nat) : UInt8 := [219, 19, 83, 69].getD i 0
theorem alv4 : mixS alvC mixM 0 = 142 ∧ mixS alvC mixM 1 = 77 ∧ mixS alvC mixM 2 = 161 ∧ mixS alvC mixM 3 = 188 := by decide +kernel
theorem alv5 : colS 0 = 3328402341 := by
  have h : colS 0 = wordS (mixS (oneC 99) mixM) := by unfold colS; rw [alv1]
  rw [h]; decide +kernel
theorem alv6 : rndS 10 = 54 := by decide +kernel
theorem eq22 (a b c d : Int) (w : World) : (Op.equalIn 10000 22 (.agg #[.int .u8 a, .int .u8 b, .int .u8 c, .int .u8 d]) (.agg #[.int .u8 a, .int .u8 b, .int .u8 c, .int .u8 d])).run Try.prog w = .ok true w := by
  have u5 := Try.underlying5
  have a5 := Try.isAgg5
  have z5 := Try.sizeOf5
  rw [show (10000 : Nat) = 9999 + 1 from rfl, Op.equalIn]
  simp only [Sem.run_bind, run_underlying Try.underlying22, Result.andThen_ok]
  simp only [Std.Legacy.Range.forIn_eq_forIn_range', Std.Legacy.Range.size, Nat.sub_zero, Nat.add_sub_cancel, Nat.div_one, List.range'_succ, List.range'_zero, List.forIn_cons, List.forIn_nil]
  go_simp
set_option maxRecDepth 100000 in
set_option maxHeartbeats 800000 in
theorem alive_any (w : World) : Calls Try.prog 23 #[] w fun e w' => e = .returned (.bool true) ∧ Below w.heap.size w w' := by
  have HW : Hid (Below w.heap.size w w) := Below.refl _ _
  have H1 := hidD (fun w => pSub_any 0 w)
  have H2 := hidD (fun w => pSub_any 83 w)
  have H3 := hidD (fun w => pUnsub_any 0 w)
  have H4 := hidD (fun w => pMix_any alvC w)
  have H5 := hidD (fun w => pColumn_any 0 w)
  have H6 := hidD (fun w => pRound_any 10 (by omega) w)
  have H7 := hidD (fun w => pWords_any w)
  rw [alv1] at H1
  rw [alv2] at H2
  rw [alv3] at H3
  rw [alv5] at H5
  rw [alv6] at H6
  rw [colR_lit (mixS alvC mixM), alv4.1, alv4.2.1, alv4.2.2.1, alv4.2.2.2] at H4
  obtain ⟨hz, hsz⟩ := zero_of_info Try.zero22'
  have heq := fun a b c d w => eq22 a b c d w
  go_enter Try.func23, Try.ntmps23
  go_wp2_with (first
    | (go_at_call 11; refine (H1.out _).mono ?_; rintro e w1 ⟨rfl, hb1⟩; have HB1 := hidD (Below.next HW.out hb1); clear hb1 H1)
    | (go_at_call 11; refine (H2.out _).mono ?_; rintro e w2 ⟨rfl, hb2⟩; have HB2 := hidD (Below.next HB1.out hb2); clear hb2 H2)
    | (go_at_call 13; refine (H3.out _).mono ?_; rintro e w3 ⟨rfl, hb3⟩; have HB3 := hidD (Below.next HB2.out hb3); clear hb3 H3)
    | (go_at_call 15; refine (H4.out _).mono ?_; rintro e w4 ⟨rfl, hb4⟩; have HB4 := hidD (Below.next HB3.out hb4); clear hb4 H4)
    | (go_at_call 19; refine (H5.out _).mono ?_; rintro e w5 ⟨rfl, hb5⟩; have HB5 := hidD (Below.next HB4.out hb5); clear hb5 H5)
    | (go_at_call 21; refine (H6.out _).mono ?_; rintro e w6 ⟨rfl, hb6⟩; have HB6 := hidD (Below.next HB5.out hb6); clear hb6 H6)
    | (go_at_call 37; refine (H7.out _).mono ?_; rintro e w7 ⟨v7, rfl, ⟨g7, c7, cs7, rfl, hr7⟩, hb7⟩; have HB7 := hidD (Below.next HB6.out hb7); clear hb7 hr7 H7))
  go_ret
  exact ⟨rfl, HB7.out⟩
end Go.Proofs.Ytdbledfpphkppaa
