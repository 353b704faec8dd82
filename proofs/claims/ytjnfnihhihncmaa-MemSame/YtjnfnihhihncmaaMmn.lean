/- MemNils: of a nil memory. -/
import Derived.Test.YtjnfnihhihncmaaMmm
namespace Go.Proofs.Ytjnfnihhihncmaa
open Go.RowKit
set_option linter.unusedVariables false

set_option maxRecDepth 100000 in
set_option maxHeartbeats 3200000 in
theorem nils_any (at' bit : Int) (b : Nat) (w : World) : Calls Try.prog 4 #[.int .i64 at', .int .i64 bit, .int .u8 (b : Int)] w fun e w' => e = .returned (.bool true) ∧ Below w.heap.size w w' := by
  have F16 : Hid (∀ w, Calls Try.prog 16 #[.pointer none, .int .i64 at'] w fun e w' => e = .returned (.tuple #[.int .u8 0, .int .i64 2]) ∧ Below w.heap.size w w') := fun w => read_nil at' w
  have F17 : Hid (∀ w, Calls Try.prog 17 #[.pointer none, .int .i64 at'] w fun e w' => e = .returned (.tuple #[.int .u8 0, .int .i64 2]) ∧ Below w.heap.size w w') := fun w => peek_nil at' w
  have F18 : Hid (∀ w, Calls Try.prog 18 #[.pointer none, .int .i64 at'] w fun e w' => e = .returned (.tuple #[.agg #[.int .u64 0, .int .u8 0], .int .i64 2]) ∧ Below w.heap.size w w') := fun w => cell_nil at' w
  have F19 : Hid (∀ w, Calls Try.prog 19 #[.pointer none] w fun e w' => e = .returned (.tuple #[.int .i64 0, .int .i64 0]) ∧ Below w.heap.size w w') := fun w => scrub_nil w
  have F14 : Hid (∀ w, Calls Try.prog 14 #[.pointer none] w fun e w' => e = .returned (.tuple #[.int .i64 0, .int .i64 0]) ∧ Below w.heap.size w w') := fun w => counts_nil w
  have F20 : Hid (∀ w, Calls Try.prog 20 #[.pointer none, .int .i64 at', .int .u8 (b : Int)] w fun e w' => e = .returned (.int .i64 2) ∧ Below w.heap.size w w') := fun w => write_nil at' b w
  have F21 : Hid (∀ w, Calls Try.prog 21 #[.pointer none, .slice none 0 0] w fun e w' => e = .returned (.int .i64 2) ∧ Below w.heap.size w w') := fun w => load_nil _ w
  have F22 : Hid (∀ w, Calls Try.prog 22 #[.pointer none, .int .i64 at', .int .i64 bit] w fun e w' => e = .returned (.int .i64 2) ∧ Below w.heap.size w w') := fun w => turn_nil at' bit w
  have F23 : Hid (∀ w, Calls Try.prog 23 #[.pointer none, .int .i64 at', .agg #[.int .u64 0, .int .u8 0]] w fun e w' => e = .returned (.int .i64 2) ∧ Below w.heap.size w w') := fun w => lay_nil at' 0 0 w
  have F24 : Hid (∀ w, Calls Try.prog 24 #[.pointer none, .int .i64 at', .nilFunc, .nilFunc] w fun e w' => e = .returned (.int .i64 2) ∧ Below w.heap.size w w') := fun w => attach_nil at' w
  have F25 : Hid (∀ w, Calls Try.prog 25 #[.pointer none] w fun e w' => e = .returned (.slice none 0 0) ∧ Below w.heap.size w w') := fun w => regions_nil w
  have F26 : Hid (∀ w, Calls Try.prog 26 #[.pointer none, .int .i64 at'] w fun e w' => e = .returned (.int .i64 0) ∧ Below w.heap.size w w') := fun w => kind_nil at' w
  have F15 : Hid (∀ w, Calls Try.prog 15 #[.pointer none, .pointer none] w fun e w' => e = .returned (.bool true) ∧ Below w.heap.size w w') := fun w => same_nil w
  have F11 : Hid (∀ w, Calls Try.prog 11 #[] w fun e w' => e = .returned (.bool true) ∧ Below w.heap.size w w') := fun w => alive_any w
  go_enter Try.func4, Try.ntmps4
  go_wp2_with (first
    | (go_at_call 16; refine (F16.out _).mono ?_; rintro e w1 ⟨rfl, hb⟩; have B1 := hidD hb; clear hb)
    | (go_at_call 17; refine (F17.out _).mono ?_; rintro e w2 ⟨rfl, hb⟩; have B2 := hidD (Below.next B1.out hb); clear hb)
    | (go_at_call 18; refine (F18.out _).mono ?_; rintro e w3 ⟨rfl, hb⟩; have B3 := hidD (Below.next (Below.next B2.out hb) (pin_map (.cells #[.int .u64 0, .int .u8 0] (58 : TypeId)))); clear hb)
    | (go_at_call 19; refine (F19.out _).mono ?_; rintro e w4 ⟨rfl, hb⟩; have B4 := hidD (Below.next B3.out hb); clear hb)
    | (go_at_call 14; refine (F14.out _).mono ?_; rintro e w5 ⟨rfl, hb⟩; have B5 := hidD (Below.next B4.out hb); clear hb)
    | (go_at_call 20; refine (F20.out _).mono ?_; rintro e w6 ⟨rfl, hb⟩; have B6 := hidD (Below.next B5.out hb); clear hb)
    | (go_at_call 21; refine (F21.out _).mono ?_; rintro e w7 ⟨rfl, hb⟩; have B7 := hidD (Below.next B6.out hb); clear hb)
    | (go_at_call 22; refine (F22.out _).mono ?_; rintro e w8 ⟨rfl, hb⟩; have B8 := hidD (Below.next B7.out hb); clear hb)
    | (go_at_call 23; refine (F23.out _).mono ?_; rintro e w9 ⟨rfl, hb⟩; have B9 := hidD (Below.next B8.out hb); clear hb)
    | (go_at_call 24; refine (F24.out _).mono ?_; rintro e w10 ⟨rfl, hb⟩; have B10 := hidD (Below.next B9.out hb); clear hb)
    | (go_at_call 25; refine (F25.out _).mono ?_; rintro e w11 ⟨rfl, hb⟩; have B11 := hidD (Below.next B10.out hb); clear hb)
    | (go_at_call 26; refine (F26.out _).mono ?_; rintro e w12 ⟨rfl, hb⟩; have B12 := hidD (Below.next B11.out hb); clear hb)
    | (go_at_call 15; refine (F15.out _).mono ?_; rintro e w13 ⟨rfl, hb⟩; have B13 := hidD (Below.next B12.out hb); clear hb)
    | (go_at_call 11; refine (F11.out _).mono ?_; rintro e w14 ⟨rfl, hb⟩; have B14 := hidD (Below.next B13.out hb); clear hb))
  go_ret
  exact ⟨rfl, B14.out⟩
end Go.Proofs.Ytjnfnihhihncmaa
