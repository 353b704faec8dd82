/- What the calls of ecc about texts of digits answer. -/
import Derived.Test.YtjmaejdkdpiigaaD1
namespace Go.Proofs.Ytjmaejdkdpiigaa
open Go.RowKit
set_option linter.unusedVariables false

def byteAt (s : List UInt8) (i : Nat) : Nat := (s.getD i 0).toNat
theorem ba_size (l : List UInt8) : ({ data := l.toArray } : ByteArray).size = l.length := by simp [ByteArray.size]
theorem ba_get (l : List UInt8) (k : Nat) (h : k < ({ data := l.toArray } : ByteArray).size) : ({ data := l.toArray } : ByteArray)[k] = l.getD k 0 := by
  have h' : k < l.length := by rw [ba_size] at h; exact h
  show l.toArray[k] = _
  simp [List.getD, List.getElem?_eq_getElem h']
theorem ba_nat (l : List UInt8) (k : Nat) (h : k < ({ data := l.toArray } : ByteArray).size) : (({ data := l.toArray } : ByteArray)[k]).toNat = byteAt l k := by rw [ba_get]; rfl
theorem byteAt_le (s : List UInt8) (k : Nat) : byteAt s k ≤ 255 := by unfold byteAt; have := (s.getD k 0).toNat_lt; omega
/- all digits -/
def Gd (s : List UInt8) (i : Nat) : Prop := 48 ≤ byteAt s i ∧ byteAt s i ≤ 57
def AllD (s : List UInt8) : Prop := ∀ i < s.length, Gd s i
instance (s : List UInt8) (i : Nat) : Decidable (Gd s i) := by unfold Gd; infer_instance
instance (s : List UInt8) : Decidable (AllD s) := by unfold AllD; infer_instance
theorem first_bad (s : List UInt8) : ∀ n, ∃ A ≤ n, (∀ i < A, Gd s i) ∧ (A < n → ¬ Gd s A)
  | 0 => ⟨0, Nat.le_refl _, fun i h => by omega, fun h => by omega⟩
  | n + 1 => by
    obtain ⟨A, h1, h2, h3⟩ := first_bad s n
    by_cases hA : A < n
    · exact ⟨A, by omega, h2, fun _ => h3 hA⟩
    · obtain rfl : A = n := by omega
      by_cases hg : Gd s A
      · exact ⟨A + 1, Nat.le_refl _, fun i hi => by
          rcases Nat.lt_or_ge i A with h | h
          · exact h2 i h
          · obtain rfl : i = A := by omega
            exact hg, fun h => by omega⟩
      · exact ⟨A, by omega, h2, fun _ => hg⟩
/- the digit i, from the right -/
def dgS (s : List UInt8) (i : Nat) : Nat := if i < s.length then byteAt s (s.length - 1 - i) - 48 else 0
theorem dg_dgs {s : List UInt8} (h : AllD s) : Dgs (dgS s) := fun i => by
  unfold dgS
  by_cases hi : i < s.length
  · rw [if_pos hi]
    have := h (s.length - 1 - i) (by omega)
    unfold Gd at this
    omega
  · rw [if_neg hi]; decide

set_option maxRecDepth 100000 in
set_option maxHeartbeats 800000 in
theorem areDigits_any (s : List UInt8) (hs : s.length ≤ 140737488355328) (w : World) : Calls Try.prog 43 #[.string ⟨s.toArray⟩] w fun e w' => e = .returned (.bool (decide (AllD s))) ∧ w' = w := by
  obtain ⟨A, hA, hb, hc⟩ := first_bad s s.length
  have HG := hidD hb
  have HA := hidD hc
  have HD : Hid (decide (AllD s) = decide (A = s.length)) := by
    show _ = _
    by_cases h : A = s.length
    · rw [decide_eq_true h, decide_eq_true (show AllD s from fun i hi => hb i (by omega))]
    · rw [decide_eq_false h, decide_eq_false (show ¬ AllD s from fun h2 => hc (by omega) (h2 A (by omega)))]
  clear hb hc
  rw [HD.out]
  go_enter Try.func43, Try.ntmps43
  go_wp2_with fail
  go_loopw [6] (fun i wr => ∃ k : Nat, k ≤ A ∧ i = .int .i64 k ∧ wr = w) (fun i _ => s.length - (intOf i).toNat)
  case atStart => exact ⟨0, Nat.zero_le _, rfl, rfl⟩
  case round =>
    obtain ⟨k, hk, rfl, rfl⟩ := hrel
    by_cases hlt : k < s.length
    · have hlt' : k < ({ data := s.toArray } : ByteArray).size := by rw [ba_size]; exact hlt
      have ek := ba_nat s k hlt'
      have hki : (k : Int) < ({ data := s.toArray } : ByteArray).size := by rw [ba_size]; omega
      have hc := byteAt_le s k
      by_cases hkA : k < A
      · obtain ⟨g1, g2⟩ := HG.out k hkA
        generalize byteAt s k = c at *
        have g3 : ¬ (c : Int) < 48 := by omega
        have g4 : ¬ (57 : Int) < c := by omega
        go_wp2_with fail
        go_roundw
        case rel => exact ⟨k + 1, by omega, by go_num, trivial⟩
        case measure => simp [intOf]; omega
      · obtain rfl : k = A := by omega
        have hg := HA.out hlt
        unfold Gd at hg
        have hne : ¬ k = s.length := by omega
        generalize byteAt s k = c at *
        by_cases g3 : (c : Int) < 48
        · go_wp2_with fail
          go_ret
          exact ⟨by first | rfl | (rw [decide_eq_false hne]; rfl), rfl⟩
        · have g4 : (57 : Int) < c := by omega
          go_wp2_with fail
          go_ret
          exact ⟨by first | rfl | (rw [decide_eq_false hne]; rfl), rfl⟩
    · have HE : Hid (A = s.length) := (show A = s.length by omega)
      obtain rfl : k = A := by omega
      have hki : ¬ (k : Int) < ({ data := s.toArray } : ByteArray).size := by rw [ba_size]; omega
      clear hk hlt hA
      go_wp2_with fail
      go_ret
      exact ⟨by first | rfl | (rw [decide_eq_true HE.out]; rfl), rfl⟩

set_option maxRecDepth 100000 in
set_option maxHeartbeats 800000 in
theorem fromRight_any (s : List UInt8) (hs : s.length ≤ 140737488355328) (hd : AllD s) (i : Nat) (hi : i < s.length) (w : World) : Calls Try.prog 55 #[.string ⟨s.toArray⟩, .int .i64 (i : Int)] w fun e w' => e = .returned (.int .i64 (dgS s i : Int)) ∧ w' = w := by
  have HR : Hid (dgS s i = byteAt s (s.length - 1 - i) - 48) := by show _ = _; unfold dgS; rw [if_pos hi]
  have hz := ba_size s
  have hs1 : ((({ data := s.toArray } : ByteArray).size : Nat) : Int) - 1 - (i : Int) = ((s.length - 1 - i : Nat) : Int) := by rw [hz]; omega
  have hs2 : ((({ data := s.toArray } : ByteArray).size : Nat) : Int) ≤ 140737488355328 := by rw [hz]; omega
  have hs3 : (1 : Int) ≤ ((({ data := s.toArray } : ByteArray).size : Nat) : Int) := by rw [hz]; omega
  have hlt : s.length - 1 - i < s.length := by omega
  have hlt' : s.length - 1 - i < ({ data := s.toArray } : ByteArray).size := by rw [ba_size]; exact hlt
  have ek := ba_nat s _ hlt'
  obtain ⟨g1, g2⟩ := hd (s.length - 1 - i) hlt
  clear hd hz
  generalize s.length - 1 - i = j at *
  generalize byteAt s j = c at *
  rw [HR.out]
  go_enter Try.func55, Try.ntmps55
  go_wp2_with fail
  go_ret
  exact ⟨by first | rfl | (rw [show ((c - 48 : Nat) : Int) = (c : Int) - 48 by omega]; rfl), rfl⟩

set_option maxRecDepth 100000 in
set_option maxHeartbeats 800000 in
theorem permuted_any (x y : Int) (w : World) : Calls Try.prog 56 #[.int .i64 x, .int .i64 y] w fun e w' => e = .returned (.int .i64 (peS (mdS x 8) (mdS y 10) : Int)) ∧ w' = w := by
  have HM : Hid (∀ z m : Int, (m = 8 ∨ m = 10) → ∀ w, Calls Try.prog 50 #[.int .i64 z, .int .i64 m] w fun e w' => e = .returned (.int .i64 (z % m)) ∧ w' = w) := fun z m hm w => by
    rcases hm with rfl | rfl
    · have := modulo_any z 8 (Or.inl rfl) w; rw [md_int z 8 (by decide)] at this; exact this
    · have := modulo_any z 10 (Or.inr rfl) w; rw [md_int z 10 (by decide)] at this; exact this
  have hy := md_lt y 10 (by decide)
  have hx := md_lt x 8 (by decide)
  have ey : y % 10 = ((mdS y 10 : Nat) : Int) := (md_int y 10 (by decide)).symm
  have ex : x % 8 = ((mdS x 8 : Nat) : Int) := (md_int x 8 (by decide)).symm
  generalize mdS y 10 = d at *
  generalize mdS x 8 = n at *
  go_enter Try.func56, Try.ntmps56
  go_wp2_with (go_at_call 50; refine (HM.out _ _ (by simp) _).mono ?_; rintro e w2 ⟨rfl, hb2⟩)
  clear ey ex
  go_loopw [5, 10] (fun t i wr => ∃ k : Nat, k ≤ n ∧ i = .int .i64 k ∧ t = .int .i64 (peS k d : Int) ∧ wr = w) (fun _ i _ => n - (intOf i).toNat)
  case atStart => exact ⟨0, Nat.zero_le _, rfl, rfl, rfl⟩
  case round =>
    obtain ⟨k, hk, rfl, rfl, rfl⟩ := hrel
    have hp := pe_lt k d hy
    by_cases hlt : k < n
    · have hlti : (k : Int) < n := by omega
      have HS : Hid (peS (k + 1) d = snS (peS k d)) := (rfl : _ = _)
      have hsn := sn_lt _ hp
      generalize peS k d = P at *
      obtain rfl | rfl | rfl | rfl | rfl | rfl | rfl | rfl | rfl | rfl : P = 0 ∨ P = 1 ∨ P = 2 ∨ P = 3 ∨ P = 4 ∨ P = 5 ∨ P = 6 ∨ P = 7 ∨ P = 8 ∨ P = 9 := by omega
      all_goals
        go_wp2_with fail
        go_roundw
        case rel => exact ⟨k + 1, by omega, by go_num, by rw [HS.out]; rfl, trivial⟩
        case measure => simp [intOf]; omega
    · obtain rfl : k = n := by omega
      go_wp2_with fail
      go_ret
      exact ⟨rfl, rfl⟩
end Go.Proofs.Ytjmaejdkdpiigaa
