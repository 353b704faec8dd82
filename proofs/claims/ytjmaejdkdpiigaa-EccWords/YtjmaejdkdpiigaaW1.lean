/- What the document's Checks, power and Position answer. -/
import Derived.Test.YtjmaejdkdpiigaaE5
namespace Go.Proofs.Ytjmaejdkdpiigaa
open Go.RowKit
set_option linter.unusedVariables false

theorem refChecks_ok {W r : Nat} (h : Wid W r) (w : World) : Calls Try.prog 9 #[.int .i64 (W : Int)] w fun e w' => e = .returned (.tuple #[.int .i64 (r : Int), .int .i64 0]) ∧ w' = w := by
  rcases h with ⟨rfl, rfl⟩ | ⟨rfl, rfl⟩ | ⟨rfl, rfl⟩ | ⟨rfl, rfl⟩
  all_goals
    go_enter Try.func9, Try.ntmps9
    go_wp2_with fail
    go_ret2
    exact ⟨rfl, rfl⟩
theorem refChecks_no {x : Int} (h : NoWid x) (w : World) : Calls Try.prog 9 #[.int .i64 x] w fun e w' => e = .returned (.tuple #[.int .i64 0, .int .i64 1]) ∧ w' = w := by
  obtain ⟨h1, h2, h3, h4⟩ := h
  go_enter Try.func9, Try.ntmps9
  go_wp2_with fail
  go_ret2
  exact ⟨rfl, rfl⟩
def isPw (p : Nat) : Bool := p == 1 || p == 2 || p == 4 || p == 8 || p == 16 || p == 32 || p == 64 || p == 128
theorem pw_half : ∀ p ≤ 128, 1 < p → p % 2 = 0 → isPw p = isPw (p / 2) := by decide +kernel
theorem pw_end : ∀ p ≤ 128, 1 ≤ p → (p ≤ 1 ∨ p % 2 = 1) → isPw p = (p == 1) := by decide +kernel
set_option maxRecDepth 100000 in
set_option maxHeartbeats 800000 in
theorem refPower_any (p : Nat) (hp : p ≤ 128) (hp1 : 1 ≤ p) (w : World) : Calls Try.prog 53 #[.int .i64 (p : Int)] w fun e w' => e = .returned (.bool (isPw p)) ∧ w' = w := by
  go_enter Try.func53, Try.ntmps53
  go_wp2_with fail
  go_loopw [0] (fun x wr => ∃ q : Nat, 1 ≤ q ∧ q ≤ 128 ∧ x = .int .i64 q ∧ Hid (isPw q = isPw p) ∧ wr = w) (fun x _ => (intOf x).toNat)
  case atStart => exact ⟨p, hp1, hp, rfl, (rfl : _ = _), rfl⟩
  case round =>
    obtain ⟨q, hq1, hq, rfl, HQ, rfl⟩ := hrel
    have hm : (q : Int).tmod 2 = ((q % 2 : Nat) : Int) := rfl
    by_cases h1 : 1 < q
    · have h1i : (1 : Int) < (q : Int) := by omega
      have hm2 : q % 2 < 2 := Nat.mod_lt _ (by decide)
      by_cases h2 : q % 2 = 0
      · have HH : Hid (isPw (q / 2) = isPw p) := (pw_half q hq h1 h2).symm.trans HQ.out
        have hdv : (q : Int).tdiv 2 = ((q / 2 : Nat) : Int) := rfl
        have hle : q / 2 ≤ q := Nat.div_le_self _ _
        have hl1 : 1 ≤ q / 2 := by omega
        have hl2 : q / 2 < q := by omega
        rw [h2] at hm
        generalize q / 2 = d at *
        go_wp2_with fail
        go_roundw
        case rel => exact ⟨d, hl1, by omega, by first | rfl | go_num, HH, trivial⟩
        case measure => simp [intOf]; omega
      · have h21 : q % 2 = 1 := by omega
        have HE : Hid (isPw p = ((q : Int) == 1)) := by
          show _ = _
          rw [← HQ.out, pw_end q hq hq1 (Or.inr h21)]
          by_cases e : q = 1
          · rw [e]; rfl
          · rw [beq_eq_false_iff_ne.mpr e]; exact (beq_eq_false_iff_ne.mpr (by omega)).symm
        rw [h21] at hm
        go_wp2_with fail
        go_ret
        exact ⟨by rw [HE.out]; rfl, rfl⟩
    · obtain rfl : q = 1 := by omega
      have HE : Hid (isPw p = true) := HQ.out.symm
      clear hm
      go_wp2_with fail
      go_ret
      exact ⟨by rw [HE.out]; rfl, rfl⟩
/- how many positions up to P are no powers -/
def cnS : Nat → Nat
  | 0 => 0
  | P + 1 => cnS P + (if isPw (P + 1) then 0 else 1)
theorem cn_at : ∀ i < 64, cnS (posS i) = i + 1 := by decide +kernel
theorem cn_le : ∀ i < 64, ∀ P < posS i, cnS P ≤ i := by decide +kernel
set_option maxRecDepth 100000 in
set_option maxHeartbeats 800000 in
theorem refPosition_any (i : Nat) (hi : i < 64) (w : World) : Calls Try.prog 38 #[.int .i64 (i : Int)] w fun e w' => e = .returned (.int .i64 (posS i : Int)) ∧ w' = w := by
  have hpl := pos_lt i hi
  have HA := hidD (cn_at i hi)
  have HL := hidD (cn_le i hi)
  go_enter Try.func38, Try.ntmps38
  go_wp2_with fail
  go_loopw [3, 4] (fun p n wr => ∃ P : Nat, P ≤ posS i ∧ p = .int .i64 P ∧ n = .int .i64 ((cnS P : Int) - 1) ∧ wr = w) (fun p _ _ => 200 - (intOf p).toNat)
  case atStart => exact ⟨0, Nat.zero_le _, rfl, rfl, rfl⟩
  case round =>
    obtain ⟨P, hP, rfl, rfl, rfl⟩ := hrel
    by_cases hlt : P < posS i
    · have hc := HL.out P hlt
      have hci : (cnS P : Int) - 1 < (i : Int) := by omega
      have HPw : Hid (∀ w, Calls Try.prog 53 #[.int .i64 ((P : Int) + 1)] w fun e w' => e = .returned (.bool (isPw (P + 1))) ∧ w' = w) := fun w => refPower_any (P + 1) (by omega) (by omega) w
      have HS : Hid (cnS (P + 1) = cnS P + (if isPw (P + 1) then 0 else 1)) := (rfl : _ = _)
      generalize cnS P = n at *
      generalize isPw (P + 1) = B at *
      cases B
      · go_wp2_with (go_at_call 53; refine (HPw.out _).mono ?_; rintro e w2 ⟨rfl, hb2⟩)
        go_roundw
        case rel => exact ⟨P + 1, by omega, by go_num, by rw [HS.out]; simp, trivial⟩
        case measure => simp [intOf]; omega
      · go_wp2_with (go_at_call 53; refine (HPw.out _).mono ?_; rintro e w2 ⟨rfl, hb2⟩)
        go_roundw
        case rel => exact ⟨P + 1, by omega, by go_num, by rw [HS.out]; simp, trivial⟩
        case measure => simp [intOf]; omega
    · obtain rfl : P = posS i := by omega
      have hc := HA.out
      have hci : ¬ (cnS (posS i) : Int) - 1 < (i : Int) := by omega
      clear hc
      go_wp2_with fail
      go_ret
      exact ⟨rfl, rfl⟩
end Go.Proofs.Ytjmaejdkdpiigaa
