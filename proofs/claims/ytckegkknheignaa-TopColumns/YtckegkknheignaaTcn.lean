/- TopColumns: a key that is none, a block that is none. -/
import Derived.Test.YtckegkknheignaaMl
import Derived.Test.YtckegkknheignaaMn
namespace Go.Proofs.Ytckegkknheignaa
open Go.RowKit
set_option linter.unusedVariables false

set_option maxRecDepth 100000 in
set_option maxHeartbeats 1600000 in
theorem top_no (l : List UInt8) (h16 : l.length ≠ 16) (h24 : l.length ≠ 24) (h32 : l.length ≠ 32) (v x : Value) (w : World) (hv : ByAt w v l) : Calls Try.prog 3 #[v, x] w fun e w' => e = .returned (.bool true) ∧ Below w.heap.size w w' := by
  have HN := hidD (pNew_no l h16 h24 h32 v w hv)
  have HS : Hid (∀ wA, Calls Try.prog 5 #[.int .u8 0] wA fun e w' => e = .returned (.int .u8 99) ∧ Below wA.heap.size wA w') := fun wA => by
    have := pSub_any 0 wA
    rw [show ((subS 0).toNat : Int) = 99 by decide +kernel] at this
    exact this
  have HM : Hid (∀ wA, Calls Try.prog 6 #[.int .u8 2, .int .u8 128] wA fun e w' => e = .returned (.int .u8 27) ∧ w' = wA) := fun wA => by
    have := gmul_any 2 128 wA
    rw [show ((bm 27 2 128).toNat : Int) = 27 by decide +kernel] at this
    exact this
  obtain ⟨a, cap, rfl, _⟩ := hv.shape
  have e16 : ((l.length : Int) != 16) = true := by simp; omega
  have e24 : ((l.length : Int) != 24) = true := by simp; omega
  have e32 : ((l.length : Int) != 32) = true := by simp; omega
  clear hv h16 h24 h32
  generalize l.length = LL at *
  go_enter Try.func3, Try.ntmps3
  go_wp2_with (first
    | (go_at_call 4; refine HN.out.mono ?_; rintro e w1 ⟨rfl, hb⟩; have HB1 := hidD hb; clear hb HN)
    | (go_at_call 5; refine (HS.out _).mono ?_; rintro e w2 ⟨rfl, hb⟩; have HB2 : Hid (Below w.heap.size w w2) := Below.next HB1.out hb; clear hb HS)
    | (go_at_call 6; refine (HM.out _).mono ?_; rintro e wz ⟨rfl, hwz⟩; subst wz; clear HM))
  go_ret
  exact ⟨rfl, HB2.out⟩
set_option maxRecDepth 100000 in
set_option maxHeartbeats 1600000 in
theorem top_block (l o : List UInt8) (n : Nat) (hn : n = 4 ∨ n = 6 ∨ n = 8) (hl : l.length = 4 * n) (ho : o.length ≠ 16) (v x : Value) (w : World) (hv : SlAt w v l) (hx : ByAt w x o) : Calls Try.prog 3 #[v, x] w fun e w' => e = .returned (.bool true) ∧ Below w.heap.size w w' := by
  have HN := hidD (pNew_any l n hn hl v w hv)
  have HS : Hid (∀ wA, Calls Try.prog 5 #[.int .u8 0] wA fun e w' => e = .returned (.int .u8 99) ∧ Below wA.heap.size wA w') := fun wA => by
    have := pSub_any 0 wA
    rw [show ((subS 0).toNat : Int) = 99 by decide +kernel] at this
    exact this
  have HM : Hid (∀ wA, Calls Try.prog 6 #[.int .u8 2, .int .u8 128] wA fun e w' => e = .returned (.int .u8 27) ∧ w' = wA) := fun wA => by
    have := gmul_any 2 128 wA
    rw [show ((bm 27 2 128).toNat : Int) = 27 by decide +kernel] at this
    exact this
  obtain ⟨a, cap, rfl, _⟩ := hv.by'.shape
  obtain ⟨a2, cap2, rfl, _⟩ := hx.shape
  have e16 : ((o.length : Int) != 16) = true := by simp; omega
  clear hv hx ho
  rw [hl] at *
  generalize o.length = OL at *
  clear hl
  rcases hn with rfl | rfl | rfl <;>
  · go_enter Try.func3, Try.ntmps3
    go_wp2_with (first
      | (go_at_call 4; refine HN.out.mono ?_; rintro e w1 ⟨p, rfl, _, hb⟩; have HB1 := hidD hb; clear hb HN)
      | (go_at_call 5; refine (HS.out _).mono ?_; rintro e w2 ⟨rfl, hb⟩; have HB2 : Hid (Below w.heap.size w w2) := Below.next HB1.out hb; clear hb HS)
      | (go_at_call 6; refine (HM.out _).mono ?_; rintro e wz ⟨rfl, hwz⟩; subst wz; clear HM))
    go_ret
    exact ⟨rfl, HB2.out⟩
end Go.Proofs.Ytckegkknheignaa
