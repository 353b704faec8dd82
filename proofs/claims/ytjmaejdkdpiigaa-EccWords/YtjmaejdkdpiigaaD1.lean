/- What the calls of ecc about turns and digits answer: modulo, productOf, Product, Inverse, Permuted. -/
import Derived.Test.YtjmaejdkdpiigaaUtl
import Derived.Test.YtjmaejdkdpiigaaEdg
import Derived.BigQuiet
import Derived.Laws.ShiftsVarLaws
import Derived.Laws.BitsAllLaws
import Derived.Laws.Unary
namespace Go.Proofs.Ytjmaejdkdpiigaa
open Go.RowKit
set_option linter.unusedVariables false

/- a number modulo m -/
def mdS (x : Int) (m : Nat) : Nat := (x % (m : Int)).toNat
theorem md_lt (x : Int) (m : Nat) (h : 0 < m) : mdS x m < m := by
  unfold mdS
  have h1 := Int.emod_lt_of_pos x (show (0 : Int) < (m : Int) by omega)
  have h2 := Int.emod_nonneg x (show (m : Int) ≠ 0 by omega)
  omega
theorem md_int (x : Int) (m : Nat) (h : 0 < m) : ((mdS x m : Nat) : Int) = x % (m : Int) := by
  unfold mdS
  have h2 := Int.emod_nonneg x (show (m : Int) ≠ 0 by omega)
  omega
theorem md_nat (k m : Nat) (h : k < m) : mdS (k : Int) m = k := by
  unfold mdS
  rw [← Int.natCast_emod, Nat.mod_eq_of_lt h]; simp
theorem tmod_md (x : Int) (m : Nat) (h : 0 < m) : -(m : Int) < x.tmod m ∧ x.tmod m < m ∧ (x.tmod m + m).tmod m = ((mdS x m : Nat) : Int) := by
  have hm : (0 : Int) < (m : Int) := by omega
  rw [md_int x m h]
  by_cases hx : 0 ≤ x
  · have e := Int.tmod_eq_emod_of_nonneg (b := (m : Int)) hx
    have h1 := Int.emod_lt_of_pos x hm
    have h2 := Int.emod_nonneg x (show (m : Int) ≠ 0 by omega)
    rw [e]
    refine ⟨by omega, h1, ?_⟩
    rw [Int.tmod_eq_emod_of_nonneg (by omega), Int.add_emod_right, Int.emod_emod_of_dvd _ (Int.dvd_refl _)]
  · have e : x.tmod m = -((-x) % (m : Int)) := by
      have := Int.neg_tmod (a := -x) (b := (m : Int))
      rw [Int.neg_neg] at this
      rw [this, Int.tmod_eq_emod_of_nonneg (by omega)]
    have h1 := Int.emod_lt_of_pos (-x) hm
    have h2 := Int.emod_nonneg (-x) (show (m : Int) ≠ 0 by omega)
    rw [e]
    refine ⟨by omega, by omega, ?_⟩
    rw [Int.tmod_eq_emod_of_nonneg (by omega), Int.add_emod_right]
    have h3 : ((-((-x) % (m : Int))) - x) % (m : Int) = 0 := by
      have h4 : -((-x) % (m : Int)) - x = (m : Int) * ((-x) / (m : Int)) := by
        have := Int.emod_add_mul_ediv (-x) (m : Int)
        omega
      rw [h4]; exact Int.mul_emod_right _ _
    exact Int.emod_eq_emod_iff_emod_sub_eq_zero.mpr h3

set_option maxRecDepth 100000 in
theorem modulo_any (x : Int) (m : Nat) (hm : m = 8 ∨ m = 10) (w : World) : Calls Try.prog 50 #[.int .i64 x, .int .i64 (m : Int)] w fun e w' => e = .returned (.int .i64 (mdS x m : Int)) ∧ w' = w := by
  obtain ⟨h1, h2, h3⟩ := tmod_md x m (by omega)
  have hm0 : ¬ (m : Int) = 0 := by omega
  have hm10 : (m : Int) ≤ 10 := by omega
  have hm1 : (8 : Int) ≤ (m : Int) := by omega
  generalize ((mdS x m : Nat) : Int) = R at *
  clear hm
  go_enter Try.func50, Try.ntmps50
  go_wp2_with fail
  go_ret
  exact ⟨by first | rfl | (rw [← h3]; rfl), rfl⟩

theorem pf1 : ∀ a < 10, ∀ b < 10, (((a : Nat) : Int) + ((b : Nat) : Int)).tmod 5 = (((a + b) % 5 : Nat) : Int) := by decide +kernel
theorem pf2 : ∀ a < 10, ∀ b < 5, 5 ≤ a → (((a : Nat) : Int) - ((b : Nat) : Int)).tmod 5 = (((a - b) % 5 : Nat) : Int) := by decide +kernel
theorem pf3 : ∀ a < 10, ∀ b < 10, 5 ≤ a → 5 ≤ b → (((a : Nat) : Int) - ((b : Nat) : Int) + 5).tmod 5 = (((a + 5 - b) % 5 : Nat) : Int) := by decide +kernel
set_option maxRecDepth 100000 in
set_option maxHeartbeats 800000 in
theorem productOf_any (a b : Nat) (ha : a < 10) (hb : b < 10) (w : World) : Calls Try.prog 49 #[.int .i64 (a : Int), .int .i64 (b : Int)] w fun e w' => e = .returned (.int .i64 (prS a b : Int)) ∧ w' = w := by
  have h1 := pf1 a ha b hb
  by_cases ha5 : a < 5
  · have ha5i : (a : Int) < 5 := by omega
    by_cases hb5 : b < 5
    · have hb5i : (b : Int) < 5 := by omega
      have HR : Hid (prS a b = (a + b) % 5) := by show _ = _; unfold prS; rw [if_pos ha5, if_pos hb5]
      have hl : (a + b) % 5 < 5 := Nat.mod_lt _ (by decide)
      generalize (a + b) % 5 = q at *
      go_enter Try.func49, Try.ntmps49
      go_wp2_with fail
      go_ret
      exact ⟨by rw [HR.out]; first | rfl | (rw [← h1]; rfl), rfl⟩
    · have hb5i : ¬ (b : Int) < 5 := by omega
      have HR : Hid (prS a b = 5 + (a + b) % 5) := by show _ = _; unfold prS; rw [if_pos ha5, if_neg hb5]
      have hl : (a + b) % 5 < 5 := Nat.mod_lt _ (by decide)
      generalize (a + b) % 5 = q at *
      go_enter Try.func49, Try.ntmps49
      go_wp2_with fail
      go_ret
      exact ⟨by rw [HR.out]; first | rfl | (simp [h1]; done), rfl⟩
  · have ha5i : ¬ (a : Int) < 5 := by omega
    clear h1
    by_cases hb5 : b < 5
    · have hb5i : (b : Int) < 5 := by omega
      have h1 := pf2 a ha b hb5 (by omega)
      have HR : Hid (prS a b = 5 + (a - b) % 5) := by show _ = _; unfold prS; rw [if_neg ha5, if_pos hb5]
      have hl : (a - b) % 5 < 5 := Nat.mod_lt _ (by decide)
      generalize (a - b) % 5 = q at *
      go_enter Try.func49, Try.ntmps49
      go_wp2_with fail
      go_ret
      exact ⟨by rw [HR.out]; first | rfl | (simp [h1]; done), rfl⟩
    · have hb5i : ¬ (b : Int) < 5 := by omega
      have h1 := pf3 a ha b hb (by omega) (by omega)
      have HR : Hid (prS a b = (a + 5 - b) % 5) := by show _ = _; unfold prS; rw [if_neg ha5, if_neg hb5]
      have hl : (a + 5 - b) % 5 < 5 := Nat.mod_lt _ (by decide)
      generalize (a + 5 - b) % 5 = q at *
      go_enter Try.func49, Try.ntmps49
      go_wp2_with fail
      go_ret
      exact ⟨by rw [HR.out]; first | rfl | (rw [← h1]; rfl), rfl⟩

set_option maxRecDepth 100000 in
theorem product_any (x y : Int) (w : World) : Calls Try.prog 33 #[.int .i64 x, .int .i64 y] w fun e w' => e = .returned (.int .i64 (prS (mdS x 10) (mdS y 10) : Int)) ∧ w' = w := by
  have HM : Hid (∀ x w, Calls Try.prog 50 #[.int .i64 x, .int .i64 10] w fun e w' => e = .returned (.int .i64 (mdS x 10 : Int)) ∧ w' = w) := fun x w => modulo_any x 10 (Or.inr rfl) w
  have HP : Hid (∀ w, Calls Try.prog 49 #[.int .i64 (mdS x 10 : Int), .int .i64 (mdS y 10 : Int)] w fun e w' => e = .returned (.int .i64 (prS (mdS x 10) (mdS y 10) : Int)) ∧ w' = w) := fun w => productOf_any _ _ (md_lt x 10 (by decide)) (md_lt y 10 (by decide)) w
  generalize (prS (mdS x 10) (mdS y 10) : Int) = R at *
  go_enter Try.func33, Try.ntmps33
  go_wp2_with (first | (go_at_call 50; refine (HM.out _ _).mono ?_; rintro e w2 ⟨rfl, hb2⟩) | (go_at_call 49; refine (HP.out _).mono ?_; rintro e w2 ⟨rfl, hb2⟩))
  go_ret
  exact ⟨rfl, rfl⟩

set_option maxRecDepth 100000 in
set_option maxHeartbeats 800000 in
theorem inverse_any (x : Int) (w : World) : Calls Try.prog 34 #[.int .i64 x] w fun e w' => e = .returned (.int .i64 (ivS (mdS x 10) : Int)) ∧ w' = w := by
  have ha := md_lt x 10 (by decide)
  have HP : Hid (∀ k : Nat, k < 10 → ∀ w, Calls Try.prog 33 #[.int .i64 x, .int .i64 (k : Int)] w fun e w' => e = .returned (.int .i64 (prS (mdS x 10) k : Int)) ∧ w' = w) := fun k hk w => by
    have := product_any x (k : Int) w
    rw [md_nat k 10 hk] at this; exact this
  generalize mdS x 10 = a at *
  obtain ⟨i1, i2, i3⟩ := iv_ok a ha
  have HO : Hid (∀ k < 10, prS a k = 0 → k = ivS a) := fun k hk h => iv_one a ha k hk h
  have HZ := hidD i2
  clear i2 i3
  generalize ivS a = J at *
  go_enter Try.func34, Try.ntmps34
  go_wp2_with fail
  go_loopw [4] (fun i wr => ∃ k : Nat, k ≤ J ∧ i = .int .i64 k ∧ wr = w) (fun i _ => 10 - (intOf i).toNat)
  case atStart => exact ⟨0, Nat.zero_le _, rfl, rfl⟩
  case round =>
    obtain ⟨k, hk, rfl, rfl⟩ := hrel
    have hk10 : k < 10 := by omega
    have HPk := hidD (HP.out k hk10)
    by_cases he : k = J
    · subst he
      rw [HZ.out] at HPk
      go_wp2_with (go_at_call 33; refine (HPk.out _).mono ?_; rintro e w2 ⟨rfl, hb2⟩)
      go_ret
      exact ⟨rfl, rfl⟩
    · have hne : prS a k ≠ 0 := fun h => he (HO.out k hk10 h)
      generalize prS a k = P at *
      have hPi : ((P : Int) == 0) = false := by simp; exact hne
      go_wp2_with (go_at_call 33; refine (HPk.out _).mono ?_; rintro e w2 ⟨rfl, hb2⟩)
      go_roundw
      case rel => exact ⟨k + 1, by omega, by go_num, trivial⟩
      case measure => simp [intOf]; omega
end Go.Proofs.Ytjmaejdkdpiigaa
