/- What the document's modulo, Product, Digits and LuhnRight answer. -/
import Derived.Test.YtjmaejdkdpiigaaD4
namespace Go.Proofs.Ytjmaejdkdpiigaa
open Go.RowKit
set_option linter.unusedVariables false

set_option maxRecDepth 100000 in
theorem refmod_any (x : Int) (m : Nat) (hm : m = 5 ∨ m = 8 ∨ m = 10) (w : World) : Calls Try.prog 57 #[.int .i64 x, .int .i64 (m : Int)] w fun e w' => e = .returned (.int .i64 (mdS x m : Int)) ∧ w' = w := by
  obtain ⟨h1, h2, h3⟩ := tmod_md x m (by omega)
  have hm0 : ¬ (m : Int) = 0 := by omega
  have hm10 : (m : Int) ≤ 10 := by omega
  have hm1 : (5 : Int) ≤ (m : Int) := by omega
  generalize ((mdS x m : Nat) : Int) = R at *
  clear hm
  go_enter Try.func57, Try.ntmps57
  go_wp2_with fail
  go_ret
  exact ⟨by first | rfl | (rw [← h3]; rfl), rfl⟩
theorem refmod_all (z m : Int) (hm : m = 5 ∨ m = 8 ∨ m = 10) (w : World) : Calls Try.prog 57 #[.int .i64 z, .int .i64 m] w fun e w' => e = .returned (.int .i64 (z % m)) ∧ w' = w := by
  rcases hm with rfl | rfl | rfl
  · have := refmod_any z 5 (Or.inl rfl) w; rw [md_int z 5 (by decide)] at this; exact this
  · have := refmod_any z 8 (Or.inr (Or.inl rfl)) w; rw [md_int z 8 (by decide)] at this; exact this
  · have := refmod_any z 10 (Or.inr (Or.inr rfl)) w; rw [md_int z 10 (by decide)] at this; exact this
set_option maxRecDepth 100000 in
set_option maxHeartbeats 800000 in
theorem refProduct_any (x y : Int) (w : World) : Calls Try.prog 47 #[.int .i64 x, .int .i64 y] w fun e w' => e = .returned (.int .i64 (prS (mdS x 10) (mdS y 10) : Int)) ∧ w' = w := by
  have HM := hidD refmod_all
  have ha := md_lt x 10 (by decide)
  have hb := md_lt y 10 (by decide)
  have ex : x % 10 = ((mdS x 10 : Nat) : Int) := (md_int x 10 (by decide)).symm
  have ey : y % 10 = ((mdS y 10 : Nat) : Int) := (md_int y 10 (by decide)).symm
  generalize mdS x 10 = a at *
  generalize mdS y 10 = b at *
  by_cases ha5 : a < 5
  · have ha5i : (a : Int) < 5 := by omega
    have h1 : ((a : Int) + (b : Int)) % 5 = (((a + b) % 5 : Nat) : Int) := by omega
    have hl : (a + b) % 5 < 5 := Nat.mod_lt _ (by decide)
    by_cases hb5 : b < 5
    · have hb5i : (b : Int) < 5 := by omega
      have HR : Hid (prS a b = (a + b) % 5) := by show _ = _; unfold prS; rw [if_pos ha5, if_pos hb5]
      generalize (a + b) % 5 = q at *
      go_enter Try.func47, Try.ntmps47
      go_wp2_with (go_at_call 57; refine (HM.out _ _ (by simp) _).mono ?_; rintro e w2 ⟨rfl, hb2⟩)
      go_ret
      exact ⟨by rw [HR.out]; first | rfl | (rw [← h1]; rfl), rfl⟩
    · have hb5i : ¬ (b : Int) < 5 := by omega
      have HR : Hid (prS a b = 5 + (a + b) % 5) := by show _ = _; unfold prS; rw [if_pos ha5, if_neg hb5]
      generalize (a + b) % 5 = q at *
      go_enter Try.func47, Try.ntmps47
      go_wp2_with (go_at_call 57; refine (HM.out _ _ (by simp) _).mono ?_; rintro e w2 ⟨rfl, hb2⟩)
      go_ret
      exact ⟨by rw [HR.out]; first | rfl | (simp [h1]; done), rfl⟩
  · have ha5i : ¬ (a : Int) < 5 := by omega
    by_cases hb5 : b < 5
    · have hb5i : (b : Int) < 5 := by omega
      have h1 : ((a : Int) - (b : Int)) % 5 = (((a - b) % 5 : Nat) : Int) := by omega
      have HR : Hid (prS a b = 5 + (a - b) % 5) := by show _ = _; unfold prS; rw [if_neg ha5, if_pos hb5]
      have hl : (a - b) % 5 < 5 := Nat.mod_lt _ (by decide)
      generalize (a - b) % 5 = q at *
      go_enter Try.func47, Try.ntmps47
      go_wp2_with (go_at_call 57; refine (HM.out _ _ (by simp) _).mono ?_; rintro e w2 ⟨rfl, hb2⟩)
      go_ret
      exact ⟨by rw [HR.out]; first | rfl | (simp [h1]; done), rfl⟩
    · have hb5i : ¬ (b : Int) < 5 := by omega
      have h1 : ((a : Int) - (b : Int)) % 5 = (((a + 5 - b) % 5 : Nat) : Int) := by omega
      have HR : Hid (prS a b = (a + 5 - b) % 5) := by show _ = _; unfold prS; rw [if_neg ha5, if_neg hb5]
      have hl : (a + 5 - b) % 5 < 5 := Nat.mod_lt _ (by decide)
      generalize (a + 5 - b) % 5 = q at *
      go_enter Try.func47, Try.ntmps47
      go_wp2_with (go_at_call 57; refine (HM.out _ _ (by simp) _).mono ?_; rintro e w2 ⟨rfl, hb2⟩)
      go_ret
      exact ⟨by rw [HR.out]; first | rfl | (rw [← h1]; rfl), rfl⟩

set_option maxRecDepth 100000 in
set_option maxHeartbeats 800000 in
theorem refDigits_any (s : List UInt8) (hs : s.length ≤ 140737488355328) (w : World) : Calls Try.prog 45 #[.string ⟨s.toArray⟩] w fun e w' => e = .returned (.bool (decide (AllD s))) ∧ w' = w := by
  obtain ⟨A, hA, hb, hc⟩ := first_bad s s.length
  have HG := hidD hb
  have HA := hidD hc
  have HD : Hid (decide (AllD s) = decide (A = s.length)) := by
    show _ = _
    by_cases h : A = s.length
    · rw [decide_eq_true h, decide_eq_true (show AllD s from fun i hi => hb i (by omega))]
    · rw [decide_eq_false h, decide_eq_false (show ¬ AllD s from fun h2 => hc (by omega) (h2 A (by omega)))]
  clear hb hc
  rw [HD.out]
  go_enter Try.func45, Try.ntmps45
  go_wp2_with fail
  go_loopw [3] (fun i wr => ∃ k : Nat, k ≤ A ∧ i = .int .i64 k ∧ wr = w) (fun i _ => s.length - (intOf i).toNat)
  case atStart => exact ⟨0, Nat.zero_le _, rfl, rfl⟩
  case round =>
    obtain ⟨k, hk, rfl, rfl⟩ := hrel
    by_cases hlt : k < s.length
    · have hlt' : k < ({ data := s.toArray } : ByteArray).size := by rw [ba_size]; exact hlt
      have ek := ba_nat s k hlt'
      have hki : (k : Int) < ({ data := s.toArray } : ByteArray).size := by rw [ba_size]; omega
      have hc := byteAt_le s k
      by_cases hkA : k < A
      · obtain ⟨g1, g2⟩ := HG.out k hkA
        generalize byteAt s k = c at *
        have g3 : ¬ (c : Int) < 48 := by omega
        have g4 : ¬ (57 : Int) < c := by omega
        go_wp2_with fail
        go_roundw
        case rel => exact ⟨k + 1, by omega, by go_num, trivial⟩
        case measure => simp [intOf]; omega
      · obtain rfl : k = A := by omega
        have hg := HA.out hlt
        unfold Gd at hg
        have hne : ¬ k = s.length := by omega
        generalize byteAt s k = c at *
        by_cases g3 : (c : Int) < 48
        · go_wp2_with fail
          go_ret
          exact ⟨by first | rfl | (rw [decide_eq_false hne]; rfl), rfl⟩
        · have g4 : (57 : Int) < c := by omega
          go_wp2_with fail
          go_ret
          exact ⟨by first | rfl | (rw [decide_eq_false hne]; rfl), rfl⟩
    · have HE : Hid (A = s.length) := (show A = s.length by omega)
      obtain rfl : k = A := by omega
      have hki : ¬ (k : Int) < ({ data := s.toArray } : ByteArray).size := by rw [ba_size]; omega
      clear hk hlt hA
      go_wp2_with fail
      go_ret
      exact ⟨by first | rfl | (rw [decide_eq_true HE.out]; rfl), rfl⟩
end Go.Proofs.Ytjmaejdkdpiigaa
