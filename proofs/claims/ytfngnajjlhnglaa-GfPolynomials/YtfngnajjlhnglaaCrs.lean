/- GfCarries' walk. -/
import Derived.Test.YtfngnajjlhnglaaAlv
namespace Go.Proofs.Ytfngnajjlhnglaa
open Go.RowKit
set_option linter.unusedVariables false

theorem u8_of (n : Nat) (h : n < 256) : ∃ a : UInt8, a.toNat = n := ⟨UInt8.ofNat n, by rw [UInt8.toNat_ofNat']; exact Nat.mod_eq_of_lt h⟩
theorem poly_of (Q : Int) (h : 256 ≤ Q ∧ Q ≤ 511) : ∃ P : UInt8, Q = 256 + (P.toNat : Int) := by
  obtain ⟨P, hP⟩ := u8_of (Q - 256).toNat (by omega)
  exact ⟨P, by omega⟩
set_option maxRecDepth 100000 in
set_option maxHeartbeats 800000 in
theorem carries_of (A B C I O : Value) (Q : Int) (R S : Int) (b : Bool) (w : World)
    (h1 : ∀ w, Calls Try.prog 9 #[A, B, .int .i64 Q] w fun e w' => e = .returned (.int .u8 R) ∧ w' = w)
    (h2 : ∀ w, Calls Try.prog 10 #[A, B, .int .i64 Q] w fun e w' => e = .returned (.int .u8 R) ∧ w' = w)
    (h3 : ∀ w, Calls Try.prog 11 #[.int .i64 Q] w fun e w' => e = .returned (.bool b) ∧ w' = w)
    (h4 : ∀ w, Calls Try.prog 12 #[.int .i64 Q] w fun e w' => e = .returned (.bool b) ∧ w' = w)
    (h5 : ∀ w, Calls Try.prog 13 #[.int .i64 Q, A] w fun e w' => e = .returned (.int .i64 S) ∧ w' = w)
    (h6 : ∀ w, Calls Try.prog 14 #[.int .i64 Q, A] w fun e w' => e = .returned (.int .i64 S) ∧ w' = w) :
    Calls Try.prog 3 #[A, B, .int .i64 Q] w fun e w' => e = .returned (.bool true) ∧ Below w.heap.size w w' := by
  have H1 := hidD h1
  have H2 := hidD h2
  have H3 := hidD h3
  have H4 := hidD h4
  have H5 := hidD h5
  have H6 := hidD h6
  have HA := hidD (fun w => alive_any w)
  clear h1 h2 h3 h4 h5 h6
  go_enter Try.func3, Try.ntmps3
  go_wp2_with (first
    | (go_at_call 9; refine (H1.out _).mono ?_; rintro e w2 ⟨rfl, hb2⟩)
    | (go_at_call 10; refine (H2.out _).mono ?_; rintro e w2 ⟨rfl, hb2⟩)
    | (go_at_call 11; refine (H3.out _).mono ?_; rintro e w2 ⟨rfl, hb2⟩)
    | (go_at_call 12; refine (H4.out _).mono ?_; rintro e w2 ⟨rfl, hb2⟩)
    | (go_at_call 13; refine (H5.out _).mono ?_; rintro e w2 ⟨rfl, hb2⟩)
    | (go_at_call 14; refine (H6.out _).mono ?_; rintro e w2 ⟨rfl, hb2⟩)
    | (go_at_call 15; refine (HA.out _).mono ?_; rintro e w9 ⟨rfl, hb9⟩))
  go_ret
  exact ⟨rfl, hb9⟩
theorem gfCarries_any (na nb : Nat) (ha : na < 256) (hb : nb < 256) (Q : Int) (w : World) : Calls Try.prog 3 #[.int .u8 na, .int .u8 nb, .int .i64 Q] w fun e w' => e = .returned (.bool true) ∧ Below w.heap.size w w' := by
  obtain ⟨a, rfl⟩ := u8_of na ha
  obtain ⟨b, rfl⟩ := u8_of nb hb
  by_cases h : 256 ≤ Q ∧ Q ≤ 511
  · obtain ⟨P, hQ⟩ := poly_of Q h
    have hP := u8_lt P
    have e : Q = ((256 + P.toNat : Nat) : Int) := by omega
    refine carries_of _ _ (.bool true) (.bool true) (.bool true) Q _ _ (irrS (256 + P.toNat)) w (fun w => carry_in P a b Q hQ w) (fun w => refCarry_in P a b Q hQ w) (fun w => ?_) (fun w => ?_) (fun w => order_in P a Q hQ w) (fun w => refOrder_in P a Q hQ w)
    · rw [e]; exact irr_in (256 + P.toNat) (by omega) (by omega) w
    · rw [e]; exact refIrr_in (256 + P.toNat) (by omega) (by omega) w
  · exact carries_of _ _ (.bool true) (.bool true) (.bool true) Q _ _ false w (fun w => carry_out Q h a b w) (fun w => refCarry_out Q h a b w) (fun w => irr_out Q h w) (fun w => refIrr_out Q h w) (fun w => order_out Q h a w) (fun w => refOrder_out Q h a w)
end Go.Proofs.Ytfngnajjlhnglaa
