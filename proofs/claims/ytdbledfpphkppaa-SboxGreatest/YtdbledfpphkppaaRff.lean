/- What the document's New and its field's calls answer. -/
import Derived.Test.YtdbledfpphkppaaRfc
import Derived.Test.YtdbledfpphkppaaQuietB
import Derived.Deep.WholeRow
import Derived.Laws.Alloc2
import Derived.Laws.Pointers
import Derived.Laws.Build
namespace Go.Proofs.Ytdbledfpphkppaa
open Go.RowKit
set_option linter.unusedVariables false

/-- The document's field lies in a block. -/
structure RfAt (w : World) (b : Nat) (P g : UInt8) : Prop where
  lt : b < w.heap.size
  c0 : w.cell? ⟨b, 0, none⟩ = some (.int .i64 (256 + (P.toNat : Int)))
  c1 : w.cell? ⟨b, 1, none⟩ = some (.int .u8 (g.toNat : Int))
theorem RfAt.below {w w' : World} {b n : Nat} {P g : UInt8} (h : RfAt w b P g) (hb : Below n w w') (hn : b < n) : RfAt w' b P g :=
  ⟨Nat.lt_of_lt_of_le h.lt hb.size, by rw [hb.cell hn]; exact h.c0, by rw [hb.cell hn]; exact h.c1⟩
theorem RfAt.next {w w' : World} {b : Nat} {P g : UInt8} (h : RfAt w b P g) (hb : Below w.heap.size w w') : RfAt w' b P g := h.below hb h.lt
theorem RfAt.new (w : World) (P g : UInt8) (Q : Int) (hQ : Q = 256 + (P.toNat : Int)) (t : TypeId) : RfAt (w.alloc (.cells #[.int .i64 Q, .int .u8 (g.toNat : Int)] t)) w.heap.size P g := by
  subst hQ
  refine ⟨by simp, ?_, ?_⟩ <;> (rw [World.cell?_alloc_new]; rfl)

set_option maxRecDepth 100000 in
set_option maxHeartbeats 400000 in
theorem refMul_any {P g : UInt8} {b : Nat} (x y : UInt8) (w : World) (hf : RfAt w b P g) : Calls Try.prog 70 #[.pointer (some ⟨b, 0, none⟩), .int .u8 (x.toNat : Int), .int .u8 (y.toNat : Int)] w fun e w' => e = .returned (.int .u8 ((bm P x y).toNat : Int)) ∧ w' = w := by
  have HC := hidD (fun w => refCarry_in P x y _ rfl w)
  have hc := hf.c0
  generalize ((bm P x y).toNat : Int) = R at *
  generalize 256 + (P.toNat : Int) = Q at *
  clear hf
  go_enter Try.func70, Try.ntmps70
  go_wp2_with (go_at_call 49; refine (HC.out _).mono ?_; rintro e w2 ⟨rfl, hb2⟩)
  go_ret
  exact ⟨rfl, rfl⟩
set_option maxRecDepth 100000 in
set_option maxHeartbeats 400000 in
theorem power_any {P g : UInt8} {b : Nat} (a : UInt8) (n : Nat) (hn : n < 9223372036854775807) (w : World) (hf : RfAt w b P g) : Calls Try.prog 65 #[.pointer (some ⟨b, 0, none⟩), .int .u8 (a.toNat : Int), .int .i64 (n : Int)] w fun e w' => e = .returned (.int .u8 ((pw P a n).toNat : Int)) ∧ w' = w := by
  have HC : Hid (∀ k, Calls Try.prog 70 #[.pointer (some ⟨b, 0, none⟩), .int .u8 ((pw P a k).toNat : Int), .int .u8 (a.toNat : Int)] w fun e w' => e = .returned (.int .u8 ((pw P a (k + 1)).toNat : Int)) ∧ w' = w) := fun k => refMul_any (pw P a k) a w hf
  generalize hR : ((pw P a n).toNat : Int) = R
  have HR := hidD hR
  clear hf hR
  go_enter Try.func65, Try.ntmps65
  go_wp2_with fail
  go_loopw [7, 8] (fun x i wr => ∃ k : Nat, k ≤ n ∧ i = .int .i64 k ∧ x = .int .u8 ((pw P a k).toNat : Int) ∧ wr = w) (fun _ i _ => n - (intOf i).toNat)
  case atStart => exact ⟨0, Nat.zero_le _, rfl, rfl, rfl⟩
  case round =>
    obtain ⟨k, hk, rfl, rfl, rfl⟩ := hrel
    by_cases hlt : k < n
    · have hlti : (k : Int) < n := by omega
      have HCk := hidD (HC.out k)
      generalize hx : ((pw P a (k + 1)).toNat : Int) = X at *
      have HX := hidD hx
      clear hx
      generalize ((pw P a k).toNat : Int) = Y at *
      go_wp2_with (go_at_call 70; refine HCk.out.mono ?_; rintro e w3 ⟨rfl, hb3⟩)
      go_roundw
      case rel => exact ⟨k + 1, by omega, by go_num, by rw [HX.out], trivial⟩
      case measure => simp [intOf]; omega
    · obtain rfl : k = n := by omega
      rw [HR.out]
      go_wp2_with fail
      go_ret
      exact ⟨rfl, rfl⟩

end Go.Proofs.Ytdbledfpphkppaa
