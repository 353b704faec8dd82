/- What the document's Hash answers; OpcodeHashes: the law's walk. -/
import Derived.Test.YtfecadongbmfhaaOpD
namespace Go.Proofs.Ytfecadongbmfhaa
open Go.RowKit
set_option linter.unusedVariables false

theorem wrapU8_nat (n : Nat) (h : n < 256) : IntKind.u8.wrap (n : Int) = (n : Int) := by
  have : ∀ n < 256, IntKind.u8.wrap ((n : Nat) : Int) = (n : Int) := by decide +kernel
  exact this n h

set_option maxRecDepth 100000 in
set_option maxHeartbeats 3200000 in
theorem refHash_any (s : List UInt8) (hs : s.length ≤ 140737488355328) (p q : Int) (w : World) : Calls Try.prog 32 #[.string ⟨s.toArray⟩, .int .i64 p, .int .i64 q] w fun e w' => e = .returned (.tuple #[.int .i64 ((haS s p q).1 : Int), .int .i64 ((haS s p q).2 : Int)]) ∧ Below w.heap.size w w' := by
  have HN : Hid (¬ (Cap s ∧ facB p = true ∧ facB q = true) → haS s p q = (0, 1)) := fun h => if_neg h
  have HY : Hid (Cap s → facB p = true → facB q = true → haS s p q = (hsS s p.toNat q.toNat, 0)) := fun h1 h2 h3 => if_pos ⟨h1, h2, h3⟩
  have hfac : ∀ x : Int, facB x = true → 0 ≤ x ∧ x < 256 := fun x h => of_decide_eq_true h
  by_cases hl : s.length = 3
  rotate_left
  · have hz : ¬ (({ data := s.toArray } : ByteArray).size : Int) = 3 := by rw [ba_size]; omega
    have hzb : ((({ data := s.toArray } : ByteArray).size : Int) == 3) = false := beq_eq_false_iff_ne.2 hz
    have hR : haS s p q = (0, 1) := HN.out (fun h => hl h.1.1)
    rw [hR]
    clear hR HN HY hfac
    go_enter Try.func32, Try.ntmps32
    go_wp2_with fail
    go_ret2
    exact ⟨rfl, Below.refl _ _⟩
  have hz : ({ data := s.toArray } : ByteArray).size = 3 := by rw [ba_size]; exact hl
  by_cases h1 : p < 0
  · skip
    have hR : haS s p q = (0, 1) := HN.out (fun h => by have := hfac p h.2.1; omega)
    rw [hR]
    have d1 : decide (p < 0) = true := decide_eq_true (by omega)
    clear hR HN HY hfac
    go_enter Try.func32, Try.ntmps32
    go_wp2_with fail
    go_ret2
    exact ⟨rfl, Below.refl _ _⟩
  by_cases h2 : 255 < p
  · skip
    have hR : haS s p q = (0, 1) := HN.out (fun h => by have := hfac p h.2.1; omega)
    rw [hR]
    have d1 : decide (p < 0) = false := decide_eq_false (by omega)
    have d2 : decide (255 < p) = true := decide_eq_true (by omega)
    clear hR HN HY hfac
    go_enter Try.func32, Try.ntmps32
    go_wp2_with fail
    go_ret2
    exact ⟨rfl, Below.refl _ _⟩
  by_cases h3 : q < 0
  · skip
    have hR : haS s p q = (0, 1) := HN.out (fun h => by have := hfac q h.2.2; omega)
    rw [hR]
    have d1 : decide (p < 0) = false := decide_eq_false (by omega)
    have d2 : decide (255 < p) = false := decide_eq_false (by omega)
    have d3 : decide (q < 0) = true := decide_eq_true (by omega)
    clear hR HN HY hfac
    go_enter Try.func32, Try.ntmps32
    go_wp2_with fail
    go_ret2
    exact ⟨rfl, Below.refl _ _⟩
  by_cases h4 : 255 < q
  · skip
    have hR : haS s p q = (0, 1) := HN.out (fun h => by have := hfac q h.2.2; omega)
    rw [hR]
    have d1 : decide (p < 0) = false := decide_eq_false (by omega)
    have d2 : decide (255 < p) = false := decide_eq_false (by omega)
    have d3 : decide (q < 0) = false := decide_eq_false (by omega)
    have d4 : decide (255 < q) = true := decide_eq_true (by omega)
    clear hR HN HY hfac
    go_enter Try.func32, Try.ntmps32
    go_wp2_with fail
    go_ret2
    exact ⟨rfl, Below.refl _ _⟩
  have d1 : decide (p < 0) = false := decide_eq_false (by omega)
  have d2 : decide (255 < p) = false := decide_eq_false (by omega)
  have d3 : decide (q < 0) = false := decide_eq_false (by omega)
  have d4 : decide (255 < q) = false := decide_eq_false (by omega)
  have hfp : facB p = true := decide_eq_true ⟨by omega, by omega⟩
  have hfq : facB q = true := decide_eq_true ⟨by omega, by omega⟩
  obtain ⟨p', rfl⟩ : ∃ n : Nat, p = n := ⟨p.toNat, by omega⟩
  obtain ⟨q', rfl⟩ : ∃ n : Nat, q = n := ⟨q.toNat, by omega⟩
  have hp' : p' < 256 := by omega
  have hq' : q' < 256 := by omega
  obtain ⟨A, hA, hb, hc⟩ := first_bad s 3
  have HG := hidD hb
  have HA := hidD hc
  have HB : Hid (A < 3 → haS s p' q' = (0, 1)) := fun h => HN.out (fun hh => hc h (hh.1.2 A h))
  have HE : Hid (A = 3 → haS s p' q' = (hsS s p' q', 0)) := fun h => HY.out ⟨hl, fun i hi => hb i (by omega)⟩ hfp hfq
  clear hb hc HN HY hfac hfp hfq h1 h2 h3 h4
  generalize haS s p' q' = R at *
  go_enter Try.func32, Try.ntmps32
  go_wp2_with fail
  clear d1 d2 d3 d4
  go_loopw [8] (fun i wr => ∃ k : Nat, k ≤ A ∧ i = .int .i64 k ∧ wr = w) (fun i _ => 3 - (intOf i).toNat)
  case atStart => exact ⟨0, Nat.zero_le _, rfl, rfl⟩
  case round =>
    obtain ⟨k, hk, rfl, rfl⟩ := hrel
    by_cases hlt : k < 3
    · have hlt' : k < ({ data := s.toArray } : ByteArray).size := by rw [hz]; exact hlt
      have ek := ba_nat s k hlt'
      have hki : (k : Int) < 3 := by omega
      have hcl := byteAt_le s k
      by_cases hkA : k < A
      · obtain ⟨g1, g2⟩ := HG.out k hkA
        generalize byteAt s k = c at *
        have g3 : ¬ (c : Int) < 65 := by omega
        have g4 : ¬ (90 : Int) < c := by omega
        go_wp2_with fail
        go_roundw
        case rel => exact ⟨k + 1, by omega, by go_num, trivial⟩
        case measure => simp [intOf]; omega
      · obtain rfl : k = A := by omega
        have hg := HA.out hlt
        unfold Ca at hg
        have hR := HB.out hlt
        subst hR
        generalize byteAt s k = c at *
        by_cases g3 : (c : Int) < 65
        · go_wp2_with fail
          go_ret2
          exact ⟨rfl, Below.refl _ _⟩
        · have g4 : (90 : Int) < c := by omega
          go_wp2_with fail
          go_ret2
          exact ⟨rfl, Below.refl _ _⟩
    · have hA3 : A = 3 := by omega
      have hR := HE.out hA3
      subst hR
      have hk3 : ¬ (k : Int) < 3 := by omega
      subst hA3
      have e0 := ba_nat s 0 (by omega)
      have e1 := ba_nat s 1 (by omega)
      have e2 := ba_nat s 2 (by omega)
      obtain ⟨a1, a2⟩ := HG.out 0 (by decide)
      obtain ⟨b1, b2⟩ := HG.out 1 (by decide)
      obtain ⟨c1, c2⟩ := HG.out 2 (by decide)
      have HR : Hid (hsS s p' q' = ((byteAt s 0 - 65) + p' * (byteAt s 1 - 65) + q' * (byteAt s 2 - 65)) % 256) := rfl
      have u0 : IntKind.u8.wrap ((byteAt s 0 : Int) - 65) = ((byteAt s 0 - 65 : Nat) : Int) := by rw [show (byteAt s 0 : Int) - 65 = ((byteAt s 0 - 65 : Nat) : Int) by omega]; exact wrapU8_nat _ (by omega)
      have u1 : IntKind.u8.wrap ((byteAt s 1 : Int) - 65) = ((byteAt s 1 - 65 : Nat) : Int) := by rw [show (byteAt s 1 : Int) - 65 = ((byteAt s 1 - 65 : Nat) : Int) by omega]; exact wrapU8_nat _ (by omega)
      have u2 : IntKind.u8.wrap ((byteAt s 2 : Int) - 65) = ((byteAt s 2 - 65 : Nat) : Int) := by rw [show (byteAt s 2 : Int) - 65 = ((byteAt s 2 - 65 : Nat) : Int) by omega]; exact wrapU8_nat _ (by omega)
      have hx : byteAt s 0 - 65 < 26 := by omega
      have hy : byteAt s 1 - 65 < 26 := by omega
      have hzz : byteAt s 2 - 65 < 26 := by omega
      clear HG HA HB HE a1 a2 b1 b2 c1 c2
      generalize byteAt s 0 - 65 = x at *
      generalize byteAt s 1 - 65 = y at *
      generalize byteAt s 2 - 65 = z at *
      generalize byteAt s 0 = n0 at *
      generalize byteAt s 1 = n1 at *
      generalize byteAt s 2 = n2 at *
      have l1 : p' * y ≤ 255 * 25 := Nat.mul_le_mul (by omega) (by omega)
      have l2 : q' * z ≤ 255 * 25 := Nat.mul_le_mul (by omega) (by omega)
      obtain ⟨M1, hM1⟩ : ∃ M1 : Nat, M1 = p' * y := ⟨_, rfl⟩
      obtain ⟨M2, hM2⟩ : ∃ M2 : Nat, M2 = q' * z := ⟨_, rfl⟩
      obtain ⟨S1, hS1⟩ : ∃ S1 : Nat, S1 = x + M1 := ⟨_, rfl⟩
      obtain ⟨S2, hS2⟩ : ∃ S2 : Nat, S2 = S1 + M2 := ⟨_, rfl⟩
      have k1 : IntKind.i64.wrap ((p' : Int) * (y : Int)) = (M1 : Int) := by rw [show (p' : Int) * (y : Int) = (M1 : Int) by rw [hM1]; simp]; exact wrap_nat M1 (by omega)
      have k2 : IntKind.i64.wrap ((q' : Int) * (z : Int)) = (M2 : Int) := by rw [show (q' : Int) * (z : Int) = (M2 : Int) by rw [hM2]; simp]; exact wrap_nat M2 (by omega)
      have k3 : IntKind.i64.wrap ((x : Int) + (M1 : Int)) = (S1 : Int) := by rw [show (x : Int) + (M1 : Int) = (S1 : Int) by omega]; exact wrap_nat S1 (by omega)
      have k4 : IntKind.i64.wrap ((S1 : Int) + (M2 : Int)) = (S2 : Int) := by rw [show (S1 : Int) + (M2 : Int) = (S2 : Int) by omega]; exact wrap_nat S2 (by omega)
      have HF : Hid ((S2 : Int) % 256 = (hsS s p' q' : Int)) := by
        show _ = _
        rw [HR.out, ← hM1, ← hM2]
        omega
      have hS : S2 < 20000 := by omega
      have hxs : x < 26 := hx
      clear hM1 hM2 hS1 hS2 l1 l2
      go_wp2_with fail
      refine wp_region_below (by kernel_rfl) (by kernel_rfl) ?_
      repeat (go_big_quiet_step (fail))
      refine wpQuiet_nil ?_
      intro i
      go_wp2_with fail
      go_ret2
      exact ⟨by show _ = Ending.returned (.tuple #[.int .i64 (hsS s p' q' : Int), .int .i64 0]); rw [← HF.out]; rfl, i.below⟩
set_option maxRecDepth 100000 in
set_option maxHeartbeats 800000 in
theorem hashes_any (s : List UInt8) (hs : s.length ≤ 140737488355328) (p q : Int) (w : World) : Calls Try.prog 6 #[.string (bA s), .int .i64 p, .int .i64 q] w fun e w' => e = .returned (.bool true) ∧ Below w.heap.size w w' := by
  have HH : Hid (∀ w, Calls Try.prog 31 #[.string (bA s), .int .i64 p, .int .i64 q] w fun e w' => e = .returned (.tuple #[.int .i64 ((haS s p q).1 : Int), .int .i64 ((haS s p q).2 : Int)]) ∧ Below w.heap.size w w') := fun w => hash_any s hs p q w
  have HR : Hid (∀ w, Calls Try.prog 32 #[.string (bA s), .int .i64 p, .int .i64 q] w fun e w' => e = .returned (.tuple #[.int .i64 ((haS s p q).1 : Int), .int .i64 ((haS s p q).2 : Int)]) ∧ Below w.heap.size w w') := fun w => refHash_any s hs p q w
  have HP : Hid (∀ w, Calls Try.prog 33 #[] w fun e w' => e = .returned (.tuple #[.int .i64 7, .int .i64 79]) ∧ w' = w) := fun w => pair_any w
  have HN : Hid (∀ w, Calls Try.prog 34 #[.int .i64 ((haS s p q).2 : Int)] w fun e w' => e = .returned (.int .i64 ((haS s p q).2 : Int)) ∧ w' = w) := fun w => no_any _ w
  have HL : Hid (∀ w, Calls Try.prog 13 #[] w fun e w' => e = .returned (.bool true) ∧ Below w.heap.size w w') := fun w => live_any w
  generalize (haS s p q).1 = a at *
  generalize (haS s p q).2 = b at *
  generalize bA s = S at *
  go_enter Try.func6, Try.ntmps6
  go_wp2_with (first | (go_at_call 13; refine (HL.out _).mono ?_; rintro e w5 ⟨rfl, b5⟩) | (go_at_call 34; refine (HN.out _).mono ?_; rintro e w4 ⟨rfl, rfl⟩) | (go_at_call 33; refine (HP.out _).mono ?_; rintro e w3 ⟨rfl, rfl⟩) | (go_at_call 32; refine (HR.out _).mono ?_; rintro e w2 ⟨rfl, b2⟩) | (go_at_call 31; refine (HH.out _).mono ?_; rintro e w1 ⟨rfl, b1⟩))
  go_ret
  exact ⟨rfl, Below.next (Below.next b1 b2) b5⟩
end Go.Proofs.Ytfecadongbmfhaa
