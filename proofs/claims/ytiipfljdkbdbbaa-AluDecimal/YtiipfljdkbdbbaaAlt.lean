/- Two decimal digits: of the document. -/
import Derived.Test.YtiipfljdkbdbbaaAls
namespace Go.Proofs.Ytiipfljdkbdbbaa
open Go.RowKit
set_option linter.unusedVariables false

set_option maxRecDepth 100000 in
set_option maxHeartbeats 1600000 in
theorem refDigits_any (v : Nat) (hv : v < 256) : W1 54 #[.int .u8 (v : Int)] (.tuple #[.int .i64 (dN v : Int), .bool (pkd v)]) := by
  intro w
  have h2 : (v : Int) / 16 = ((v / 16 : Nat) : Int) := by omega
  have h1 : (v : Int) % 16 = ((v % 16 : Nat) : Int) := by omega
  have hq : v / 16 < 16 := by omega
  have hr : v % 16 < 16 := by omega
  have h3 : 10 * ((v / 16 : Nat) : Int) + ((v % 16 : Nat) : Int) = ((dN v : Nat) : Int) := by unfold dN; omega
  unfold pkd
  generalize dN v = d at *
  generalize v % 16 = r at *
  generalize v / 16 = q at *
  by_cases hq : q ≤ 9
  · have hj : (q : Int) < 10 := by omega
    rw [decide_eq_true hq]
    by_cases hr : r ≤ 9
    · have hi : (r : Int) < 10 := by omega
      rw [decide_eq_true hr]
      go_enter Try.func54, Try.ntmps54
      go_wp2_with fail
      go_ret2
      exact ⟨by first | rfl | (simp; done), rfl⟩
    · have hi : ¬ (r : Int) < 10 := by omega
      rw [decide_eq_false hr]
      go_enter Try.func54, Try.ntmps54
      go_wp2_with fail
      go_ret2
      exact ⟨by first | rfl | (simp; done), rfl⟩
  · have hj : ¬ (q : Int) < 10 := by omega
    rw [decide_eq_false hq, Bool.and_false]
    go_enter Try.func54, Try.ntmps54
    go_wp2_with fail
    go_ret2
    exact ⟨by first | rfl | (simp; done), rfl⟩

set_option maxRecDepth 100000 in
set_option maxHeartbeats 1600000 in
theorem refByteOf_any (n : Nat) (hn : n < 100) : W1 55 #[.int .i64 (n : Int)] (.int .u8 (pk n : Int)) := by
  intro w
  have h2 : (n : Int) / 10 = ((n / 10 : Nat) : Int) := by omega
  have h1 : (n : Int) % 10 = ((n % 10 : Nat) : Int) := by omega
  have h3 : ((n / 10 : Nat) : Int) * 16 + ((n % 10 : Nat) : Int) = ((pk n : Nat) : Int) := by unfold pk; omega
  have hq : n / 10 < 10 := by omega
  have hr : n % 10 < 10 := by omega
  generalize pk n = k at *
  generalize n % 10 = r at *
  generalize n / 10 = q at *
  go_enter Try.func55, Try.ntmps55
  go_wp2_with fail
  go_ret
  exact ⟨by first | rfl | (simp; done), rfl⟩

set_option maxRecDepth 100000 in
set_option maxHeartbeats 1600000 in
theorem refDecimal_yes (a b p : Nat) (ha : a < 256) (hb : b < 256) (hp : p < 256) (qa : pkd a = true) (qb : pkd b = true) : W1 21 #[.int .u8 (a : Int), .int .u8 (b : Int), .int .u8 (p : Int)] (.tuple #[.int .u8 (dO ((dN a : Int) + (dN b : Int) + (cyN p : Int)) : Int), .int .u8 (dO ((dN a : Int) - (dN b : Int) - 1 + (cyN p : Int)) : Int), .bool true]) := by
  intro w
  have hx := dN_lt qa
  have hy := dN_lt qb
  have hc := cy_lt p
  have h1 := and1N p hp
  have f1 : ∀ n : Int, dO n = pk (n % 100).toNat := fun n => rfl
  rw [f1, f1]
  have e1 : ((dN a : Int) + (dN b : Int) + (cyN p : Int)) % 100 = ((((dN a : Int) + (dN b : Int) + (cyN p : Int)) % 100).toNat : Int) := by omega
  have e2 : ((dN a : Int) - (dN b : Int) - 1 + (cyN p : Int)) % 100 = ((((dN a : Int) - (dN b : Int) - 1 + (cyN p : Int)) % 100).toNat : Int) := by omega
  have e3 : ((dN a : Int) - (dN b : Int) - 1 + (cyN p : Int) + 100) % 100 = ((((dN a : Int) - (dN b : Int) - 1 + (cyN p : Int)) % 100).toNat : Int) := by omega
  have m1 : (((dN a : Int) + (dN b : Int) + (cyN p : Int)) % 100).toNat < 100 := by omega
  have m2 : (((dN a : Int) - (dN b : Int) - 1 + (cyN p : Int)) % 100).toNat < 100 := by omega
  generalize (((dN a : Int) + (dN b : Int) + (cyN p : Int)) % 100).toNat = k1 at *
  generalize (((dN a : Int) - (dN b : Int) - 1 + (cyN p : Int)) % 100).toNat = k2 at *
  go_enter Try.func21, Try.ntmps21
  go_wp2_with (first | (go_at_call 54; refine (refDigits_any _ (by assumption) _).mono ?_; rintro e w2 ⟨rfl, rfl⟩; try rw [qa]; try rw [qb]) | (go_at_call 55; refine (refByteOf_any _ (by first | assumption | omega) _).mono ?_; rintro e w2 ⟨rfl, rfl⟩))
  go_ret3
  exact ⟨by first | rfl | (simp; done), rfl⟩

set_option maxRecDepth 100000 in
set_option maxHeartbeats 1600000 in
theorem refDecimal_na (a b p : Nat) (ha : a < 256) (hb : b < 256) (hp : p < 256) (qa : pkd a = false) : W1 21 #[.int .u8 (a : Int), .int .u8 (b : Int), .int .u8 (p : Int)] (.tuple #[.int .u8 0, .int .u8 0, .bool false]) := by
  intro w
  go_enter Try.func21, Try.ntmps21
  go_wp2_with (go_at_call 54; refine (refDigits_any _ (by assumption) _).mono ?_; rintro e w2 ⟨rfl, rfl⟩; try rw [qa])
  go_ret3
  exact ⟨rfl, rfl⟩

set_option maxRecDepth 100000 in
set_option maxHeartbeats 1600000 in
theorem refDecimal_nb (a b p : Nat) (ha : a < 256) (hb : b < 256) (hp : p < 256) (qa : pkd a = true) (qb : pkd b = false) : W1 21 #[.int .u8 (a : Int), .int .u8 (b : Int), .int .u8 (p : Int)] (.tuple #[.int .u8 0, .int .u8 0, .bool false]) := by
  intro w
  go_enter Try.func21, Try.ntmps21
  go_wp2_with (go_at_call 54; refine (refDigits_any _ (by assumption) _).mono ?_; rintro e w2 ⟨rfl, rfl⟩; try rw [qa]; try rw [qb])
  go_ret3
  exact ⟨rfl, rfl⟩

end Go.Proofs.Ytiipfljdkbdbbaa
