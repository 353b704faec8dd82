/- EccGroup: the pentagon's turns are a group. -/
import Derived.Test.YtjmaejdkdpiigaaL1
namespace Go.Proofs.Ytjmaejdkdpiigaa
open Go.RowKit
set_option linter.unusedVariables false

def prI (x y : Int) : Int := ((prS (mdS x 10) (mdS y 10) : Nat) : Int)
set_option maxRecDepth 100000 in
set_option maxHeartbeats 1600000 in
theorem group_any (a b c : Int) (w : World) : Calls Try.prog 7 #[.int .i64 a, .int .i64 b, .int .i64 c] w fun e w' => e = .returned (.bool true) ∧ Below w.heap.size w w' := by
  have HL := hidD live_any
  have HP : Hid (∀ x y : Int, ∀ w, Calls Try.prog 33 #[.int .i64 x, .int .i64 y] w fun e w' => e = .returned (.int .i64 (prI x y)) ∧ w' = w) := fun x y w => product_any x y w
  have HI : Hid (∀ w, Calls Try.prog 34 #[.int .i64 a] w fun e w' => e = .returned (.int .i64 (ivS (mdS a 10) : Int)) ∧ w' = w) := fun w => inverse_any a w
  have hA := md_lt a 10 (by decide)
  have hB := md_lt b 10 (by decide)
  have hC := md_lt c 10 (by decide)
  obtain ⟨i1, i2, i3⟩ := iv_ok _ hA
  have z0 : mdS 0 10 = 0 := rfl
  have e0 : prI (prI a b) c = prI a (prI b c) := by
    unfold prI
    rw [md_nat _ 10 (pr_lt _ hA _ hB), md_nat _ 10 (pr_lt _ hB _ hC), pr_assoc _ hA _ hB _ hC]
  have e1 : prI a 0 = ((mdS a 10 : Nat) : Int) := by unfold prI; rw [z0, (pr_zero _ hA).1]
  have e2 : prI 0 a = ((mdS a 10 : Nat) : Int) := by unfold prI; rw [z0, (pr_zero _ hA).2]
  have e3 : prI ((mdS a 10 : Nat) : Int) 0 = ((mdS a 10 : Nat) : Int) := by unfold prI; rw [z0, md_nat _ 10 hA, (pr_zero _ hA).1]
  have e5 : prI a ((ivS (mdS a 10) : Nat) : Int) = 0 := by unfold prI; rw [md_nat _ 10 i1, i2]; rfl
  have e6 : prI ((ivS (mdS a 10) : Nat) : Int) a = 0 := by unfold prI; rw [md_nat _ 10 i1, i3]; rfl
  have e7 : prI 1 5 = 6 := by decide +kernel
  have e8 : prI 5 1 = 9 := by decide +kernel
  clear hB hC i1 i2 i3 z0
  generalize ivS (mdS a 10) = Y at *
  generalize mdS a 10 = A at *
  have hq : (prI (prI a b) c != prI a (prI b c)) = false := by rw [e0]; simp
  clear e0
  go_enter Try.func7, Try.ntmps7
  go_wp2_with (first | (go_at_call 13; refine (HL.out _).mono ?_; rintro e w1 ⟨rfl, hb1⟩) | (go_at_call 33; refine (HP.out _ _ _).mono ?_; rintro e w2 ⟨rfl, hb2⟩) | (go_at_call 34; refine (HI.out _).mono ?_; rintro e w2 ⟨rfl, hb2⟩))
  go_ret
  exact ⟨rfl, hb1⟩
end Go.Proofs.Ytjmaejdkdpiigaa
