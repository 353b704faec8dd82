/- Texts of three capital letters, their hash: what letter, hashOf, isThreeCapitals, isFactor, Hash, Pair and no answer. -/
import Derived.Test.YtfecadongbmfhaaOp1
namespace Go.Proofs.Ytfecadongbmfhaa
open Go.RowKit
set_option linter.unusedVariables false

def byteAt (s : List UInt8) (i : Nat) : Nat := (s.getD i 0).toNat
theorem ba_size (l : List UInt8) : ({ data := l.toArray } : ByteArray).size = l.length := by simp [ByteArray.size]
theorem ba_get (l : List UInt8) (k : Nat) (h : k < ({ data := l.toArray } : ByteArray).size) : ({ data := l.toArray } : ByteArray)[k] = l.getD k 0 := by
  have h' : k < l.length := by rw [ba_size] at h; exact h
  show l.toArray[k] = _
  simp [List.getD, List.getElem?_eq_getElem h']
theorem ba_nat (l : List UInt8) (k : Nat) (h : k < ({ data := l.toArray } : ByteArray).size) : (({ data := l.toArray } : ByteArray)[k]).toNat = byteAt l k := by rw [ba_get]; rfl
theorem byteAt_le (s : List UInt8) (k : Nat) : byteAt s k ≤ 255 := by unfold byteAt; have := (s.getD k 0).toNat_lt; omega
theorem ba_list (l : List UInt8) : ({ data := l.toArray } : ByteArray).toList = l := by rw [ByteArray.toList_eq]

def Ca (s : List UInt8) (i : Nat) : Prop := 65 ≤ byteAt s i ∧ byteAt s i ≤ 90
instance (s : List UInt8) (i : Nat) : Decidable (Ca s i) := by unfold Ca; infer_instance
def Cap (s : List UInt8) : Prop := s.length = 3 ∧ ∀ i < 3, Ca s i
instance (s : List UInt8) : Decidable (Cap s) := by unfold Cap; infer_instance
theorem first_bad (s : List UInt8) (n : Nat) : ∃ A, A ≤ n ∧ (∀ i < A, Ca s i) ∧ (A < n → ¬ Ca s A) := by
  induction n with
  | zero => exact ⟨0, Nat.le_refl _, fun i h => absurd h (Nat.not_lt_zero _), fun h => absurd h (Nat.lt_irrefl _)⟩
  | succ n ih =>
    obtain ⟨A, h1, h2, h3⟩ := ih
    by_cases hA : A < n
    · exact ⟨A, by omega, h2, fun _ => h3 hA⟩
    · obtain rfl : A = n := by omega
      by_cases hc : Ca s A
      · refine ⟨A + 1, Nat.le_refl _, ?_, fun h => by omega⟩
        intro i hi
        rcases Nat.lt_or_ge i A with h | h
        · exact h2 i h
        · obtain rfl : i = A := by omega
          exact hc
      · exact ⟨A, by omega, h2, fun _ => hc⟩
/- the hash -/
def hsS (s : List UInt8) (p q : Nat) : Nat := ((byteAt s 0 - 65) + p * (byteAt s 1 - 65) + q * (byteAt s 2 - 65)) % 256

theorem wrap_nat (n : Nat) (h : n < 1000000) : IntKind.i64.wrap (n : Int) = (n : Int) := by
  rw [IntKind.wrap_i64]; omega
set_option maxRecDepth 100000 in
theorem no_any (x : Int) (w : World) : Calls Try.prog 34 #[.int .i64 x] w fun e w' => e = .returned (.int .i64 x) ∧ w' = w := by
  go_enter Try.func34, Try.ntmps34
  go_wp2_with fail
  go_ret
  exact ⟨rfl, rfl⟩
set_option maxRecDepth 100000 in
theorem pair_any (w : World) : Calls Try.prog 33 #[] w fun e w' => e = .returned (.tuple #[.int .i64 7, .int .i64 79]) ∧ w' = w := by
  go_enter Try.func33, Try.ntmps33
  go_wp2_with fail
  go_ret2
  exact ⟨rfl, rfl⟩
set_option maxRecDepth 100000 in
theorem letter_any (c : Nat) (h1 : 65 ≤ c) (h2 : c ≤ 90) (w : World) : Calls Try.prog 64 #[.int .u8 (c : Int)] w fun e w' => e = .returned (.int .i64 ((c - 65 : Nat) : Int)) ∧ w' = w := by
  have he : (c : Int) - 65 = ((c - 65 : Nat) : Int) := by omega
  have hl : c - 65 < 26 := by omega
  generalize c - 65 = d at *
  go_enter Try.func64, Try.ntmps64
  go_wp2_with fail
  go_ret
  exact ⟨by first | rfl | (rw [he]), rfl⟩
def facB (x : Int) : Bool := decide (0 ≤ x ∧ x < 256)
set_option maxRecDepth 100000 in
theorem isFactor_any (x : Int) (w : World) : Calls Try.prog 53 #[.int .i64 x] w fun e w' => e = .returned (.bool (facB x)) ∧ w' = w := by
  by_cases h0 : 0 ≤ x
  · by_cases h1 : x < 256
    · have hR : facB x = true := decide_eq_true ⟨h0, h1⟩
      rw [hR]
      clear hR
      go_enter Try.func53, Try.ntmps53
      go_wp2_with fail
      go_ret
      exact ⟨rfl, rfl⟩
    · have hR : facB x = false := decide_eq_false (fun h => h1 h.2)
      rw [hR]
      clear hR
      go_enter Try.func53, Try.ntmps53
      go_wp2_with fail
      go_ret
      exact ⟨rfl, rfl⟩
  · have hR : facB x = false := decide_eq_false (fun h => h0 h.1)
    rw [hR]
    clear hR
    go_enter Try.func53, Try.ntmps53
    go_wp2_with fail
    go_ret
    exact ⟨rfl, rfl⟩

set_option maxRecDepth 100000 in
set_option maxHeartbeats 800000 in
theorem isThree_any (s : List UInt8) (hs : s.length ≤ 140737488355328) (w : World) : Calls Try.prog 52 #[.string ⟨s.toArray⟩] w fun e w' => e = .returned (.bool (decide (Cap s))) ∧ w' = w := by
  by_cases hl : s.length = 3
  · obtain ⟨A, hA, hb, hc⟩ := first_bad s 3
    have HG := hidD hb
    have HA := hidD hc
    have HD : Hid (decide (Cap s) = decide (A = 3)) := by
      show _ = _
      by_cases h : A = 3
      · rw [decide_eq_true h, decide_eq_true (show Cap s from ⟨hl, fun i hi => hb i (by omega)⟩)]
      · rw [decide_eq_false h, decide_eq_false (show ¬ Cap s from fun h2 => hc (by omega) (h2.2 A (by omega)))]
    clear hb hc
    rw [HD.out]
    have hz : ({ data := s.toArray } : ByteArray).size = 3 := by rw [ba_size]; exact hl
    go_enter Try.func52, Try.ntmps52
    go_wp2_with fail
    go_loopw [3, 7] (fun _ i wr => ∃ k : Nat, k ≤ A ∧ i = .int .i64 k ∧ wr = w) (fun _ i _ => 3 - (intOf i).toNat)
    case atStart => exact ⟨0, Nat.zero_le _, rfl, rfl⟩
    case round =>
      obtain ⟨k, hk, rfl, rfl⟩ := hrel
      by_cases hlt : k < 3
      · have hlt' : k < ({ data := s.toArray } : ByteArray).size := by rw [hz]; exact hlt
        have ek := ba_nat s k hlt'
        have hki : (k : Int) < 3 := by omega
        have hcl := byteAt_le s k
        by_cases hkA : k < A
        · obtain ⟨g1, g2⟩ := HG.out k hkA
          generalize byteAt s k = c at *
          have g3 : ¬ (c : Int) < 65 := by omega
          have g4 : ¬ (90 : Int) < c := by omega
          go_wp2_with fail
          go_roundw
          case rel => exact ⟨k + 1, by omega, by go_num, trivial⟩
          case measure => simp [intOf]; omega
        · obtain rfl : k = A := by omega
          have hg := HA.out hlt
          unfold Ca at hg
          have hne : ¬ k = 3 := by omega
          generalize byteAt s k = c at *
          by_cases g3 : (c : Int) < 65
          · go_wp2_with fail
            go_ret
            exact ⟨by first | rfl | (rw [decide_eq_false hne]; rfl), rfl⟩
          · have g4 : (90 : Int) < c := by omega
            go_wp2_with fail
            go_ret
            exact ⟨by first | rfl | (rw [decide_eq_false hne]; rfl), rfl⟩
      · have HE : Hid (A = 3) := (show A = 3 by omega)
        have hk3 : ¬ (k : Int) < 3 := by omega
        go_wp2_with fail
        go_ret
        exact ⟨by first | rfl | (rw [decide_eq_true HE.out]; rfl), rfl⟩
  · have HD : Hid (decide (Cap s) = false) := decide_eq_false (fun h => hl h.1)
    rw [HD.out]
    have hz : ¬ (({ data := s.toArray } : ByteArray).size : Int) = 3 := by rw [ba_size]; omega
    go_enter Try.func52, Try.ntmps52
    go_wp2_with fail
    go_ret
    exact ⟨rfl, rfl⟩

set_option maxRecDepth 100000 in
set_option maxHeartbeats 800000 in
theorem hashOf_any (s : List UInt8) (hs : Cap s) (p q : Nat) (hp : p < 256) (hq : q < 256) (w : World) : Calls Try.prog 54 #[.string ⟨s.toArray⟩, .int .i64 (p : Int), .int .i64 (q : Int)] w fun e w' => e = .returned (.int .i64 (hsS s p q : Int)) ∧ Below w.heap.size w w' := by
  have hz : ({ data := s.toArray } : ByteArray).size = 3 := by rw [ba_size]; exact hs.1
  have e0 := ba_nat s 0 (by omega)
  have e1 := ba_nat s 1 (by omega)
  have e2 := ba_nat s 2 (by omega)
  obtain ⟨a1, a2⟩ := hs.2 0 (by decide)
  obtain ⟨b1, b2⟩ := hs.2 1 (by decide)
  obtain ⟨c1, c2⟩ := hs.2 2 (by decide)
  have HX : Hid (∀ w, Calls Try.prog 64 #[.int .u8 (byteAt s 0 : Int)] w fun e w' => e = .returned (.int .i64 ((byteAt s 0 - 65 : Nat) : Int)) ∧ Below w.heap.size w w') := fun w => (letter_any _ a1 a2 w).mono fun e w' ⟨h1, h2⟩ => ⟨h1, by rw [h2]; exact Below.refl _ _⟩
  have HY : Hid (∀ w, Calls Try.prog 64 #[.int .u8 (byteAt s 1 : Int)] w fun e w' => e = .returned (.int .i64 ((byteAt s 1 - 65 : Nat) : Int)) ∧ Below w.heap.size w w') := fun w => (letter_any _ b1 b2 w).mono fun e w' ⟨h1, h2⟩ => ⟨h1, by rw [h2]; exact Below.refl _ _⟩
  have HZ : Hid (∀ w, Calls Try.prog 64 #[.int .u8 (byteAt s 2 : Int)] w fun e w' => e = .returned (.int .i64 ((byteAt s 2 - 65 : Nat) : Int)) ∧ Below w.heap.size w w') := fun w => (letter_any _ c1 c2 w).mono fun e w' ⟨h1, h2⟩ => ⟨h1, by rw [h2]; exact Below.refl _ _⟩
  have hx : byteAt s 0 - 65 < 26 := by omega
  have hy : byteAt s 1 - 65 < 26 := by omega
  have hzz : byteAt s 2 - 65 < 26 := by omega
  have HR : Hid (hsS s p q = ((byteAt s 0 - 65) + p * (byteAt s 1 - 65) + q * (byteAt s 2 - 65)) % 256) := rfl
  generalize hsS s p q = R at *
  generalize byteAt s 0 - 65 = x at *
  generalize byteAt s 1 - 65 = y at *
  generalize byteAt s 2 - 65 = z at *
  generalize byteAt s 0 = n0 at *
  generalize byteAt s 1 = n1 at *
  generalize byteAt s 2 = n2 at *
  have l1 : p * y ≤ 255 * 25 := Nat.mul_le_mul (by omega) (by omega)
  have l2 : q * z ≤ 255 * 25 := Nat.mul_le_mul (by omega) (by omega)
  obtain ⟨M1, hM1⟩ : ∃ M1 : Nat, M1 = p * y := ⟨_, rfl⟩
  obtain ⟨M2, hM2⟩ : ∃ M2 : Nat, M2 = q * z := ⟨_, rfl⟩
  obtain ⟨S1, hS1⟩ : ∃ S1 : Nat, S1 = x + M1 := ⟨_, rfl⟩
  obtain ⟨S2, hS2⟩ : ∃ S2 : Nat, S2 = S1 + M2 := ⟨_, rfl⟩
  have k1 : IntKind.i64.wrap ((p : Int) * (y : Int)) = (M1 : Int) := by rw [show (p : Int) * (y : Int) = (M1 : Int) by rw [hM1]; simp]; exact wrap_nat M1 (by omega)
  have k2 : IntKind.i64.wrap ((q : Int) * (z : Int)) = (M2 : Int) := by rw [show (q : Int) * (z : Int) = (M2 : Int) by rw [hM2]; simp]; exact wrap_nat M2 (by omega)
  have k3 : IntKind.i64.wrap ((x : Int) + (M1 : Int)) = (S1 : Int) := by rw [show (x : Int) + (M1 : Int) = (S1 : Int) by omega]; exact wrap_nat S1 (by omega)
  have k4 : IntKind.i64.wrap ((S1 : Int) + (M2 : Int)) = (S2 : Int) := by rw [show (S1 : Int) + (M2 : Int) = (S2 : Int) by omega]; exact wrap_nat S2 (by omega)
  have HF : Hid ((S2 : Int) % 256 = (R : Int)) := by
    show _ = _
    rw [HR.out, ← hM1, ← hM2]
    omega
  have hS : S2 < 20000 := by omega
  clear hM1 hM2 hS1 hS2 l1 l2 hp hq a1 a2 b1 b2 c1 c2 hx hy hzz
  go_enter Try.func54, Try.ntmps54
  go_wp2_with fail
  refine wp_region_below (by kernel_rfl) (by kernel_rfl) ?_
  repeat (go_big_quiet_step (first | (go_at_call 64; exact Calls.below_of (HX.out _)) | (go_at_call 64; exact Calls.below_of (HY.out _)) | (go_at_call 64; exact Calls.below_of (HZ.out _))))
  refine wpQuiet_nil ?_
  intro i
  go_wp2_with fail
  go_ret
  exact ⟨by first | rfl | (rw [← HF.out]; rfl), i.below⟩
end Go.Proofs.Ytfecadongbmfhaa
