/- What Mask, Turned, Step, Register, Told, Valid and Sum of the document answer. -/
import Derived.Test.YtjhaaphgaplhlaaRow
namespace Go.Proofs.Ytjhaaphgaplhlaa
open Go.RowKit
set_option linter.unusedVariables false

theorem and1_u64 {v : Nat} (hv : v < 18446744073709551616) : bits .and .u64 (v : Int) 1 = ((v.testBit 0).toNat : Int) := by
  rw [show (1 : Int) = ((1 : Nat) : Int) from rfl, u64_and_nat _ _ hv (by omega), nat_mask1]
  have := bit_nat v 0
  rw [Nat.pow_zero, Nat.div_one] at this
  rw [this]
theorem bit_u64 {v : Nat} (k : Nat) (hv : v < 18446744073709551616) : bits .and .u64 ((v : Int) / 2 ^ k) 1 = ((v.testBit k).toNat : Int) := by
  have h1 : (v : Int) / 2 ^ k = ((v / 2 ^ k : Nat) : Int) := by simp
  have h2 : v / 2 ^ k ≤ v := Nat.div_le_self _ _
  rw [h1, show (1 : Int) = ((1 : Nat) : Int) from rfl, u64_and_nat _ _ (by omega) (by omega), nat_mask1, bit_nat]
theorem and_mask {t n : Nat} (ht : t < 18446744073709551616) (hn : n ≤ 64) : bits .and .u64 (t : Int) ((2 ^ n - 1 : Nat) : Int) = ((t % 2 ^ n : Nat) : Int) := by
  have := pow64 hn
  rw [u64_and_nat _ _ ht (by have := Nat.two_pow_pos n; omega), Nat.and_two_pow_sub_one_eq_mod]
theorem rev_next64 {v k : Nat} (hk : k < 64) : bits .or .u64 (IntKind.u64.wrap ((rev v k : Nat) * 2 : Int)) ((v.testBit k).toNat : Int) = ((rev v (k + 1) : Nat) : Int) := by
  have h1 := rev_lt v k
  have h2 : (2 : Nat) ^ k ≤ 2 ^ 63 := Nat.pow_le_pow_right (by omega) (by omega)
  have hb : (v.testBit k).toNat ≤ 1 := by cases v.testBit k <;> simp
  have e : IntKind.u64.wrap ((rev v k : Nat) * 2 : Int) = ((rev v k * 2 : Nat) : Int) := by rw [IntKind.wrap_u64]; omega
  rw [e, u64_or_nat _ _ (by omega) (by omega), nat_join 1 _ _ (by omega) (by omega), rev, Nat.mul_comm]
theorem mask_next {k : Nat} (hk : k < 64) : bits .or .u64 (IntKind.u64.wrap (((2 ^ k - 1 : Nat) : Int) * 2)) 1 = ((2 ^ (k + 1) - 1 : Nat) : Int) := by
  have h1 : ∀ k : Fin 64, bits .or .u64 (IntKind.u64.wrap (((2 ^ k.val - 1 : Nat) : Int) * 2)) 1 = ((2 ^ (k.val + 1) - 1 : Nat) : Int) := by decide +kernel
  exact h1 ⟨k, hk⟩

set_option maxRecDepth 100000 in
set_option maxHeartbeats 400000 in
theorem mask_any (n : Nat) (hn : n ≤ 64) (w : World) : Calls Try.prog 52 #[.int .i64 n] w fun e w' => e = .returned (.int .u64 ((2 ^ n - 1 : Nat) : Int)) ∧ Below w.heap.size w w' := by
  go_enter Try.func52, Try.ntmps52
  go_wp2_with fail
  go_loopw [3, 4] (fun v i wr => ∃ k : Nat, k ≤ n ∧ i = .int .i64 k ∧ v = .int .u64 ((2 ^ k - 1 : Nat) : Int) ∧ wr = w) (fun _ i _ => n - (intOf i).toNat)
  case atStart => exact ⟨0, Nat.zero_le _, rfl, rfl, rfl⟩
  case round =>
    obtain ⟨k, hk, rfl, rfl, rfl⟩ := hrel
    by_cases hlt : k < n
    · have hlti : (k : Int) < n := by omega
      have h2 := mask_next (k := k) (by omega)
      generalize hR2 : 2 ^ (k + 1) - 1 = R2 at *
      have HR2 := hidD hR2
      clear hR2
      generalize 2 ^ k - 1 = R at *
      go_wp2_with fail
      go_roundw
      case rel => exact ⟨k + 1, by omega, by go_num, by rw [HR2.out], trivial⟩
      case measure => simp [intOf]; omega
    · obtain rfl : k = n := by omega
      generalize hR : 2 ^ k - 1 = R at *
      have HR2 := hidD hR
      clear hR
      go_wp2_with fail
      go_ret
      exact ⟨by show Ending.returned (Value.int .u64 (R : Int)) = _; rw [HR2.out], Below.refl _ _⟩

set_option maxRecDepth 100000 in
set_option maxHeartbeats 400000 in
theorem refTurned_any (v n : Nat) (hv : v < 18446744073709551616) (hn : n ≤ 64) (w : World) : Calls Try.prog 43 #[.int .u64 v, .int .i64 n] w fun e w' => e = .returned (.int .u64 (rev v n : Nat)) ∧ Below w.heap.size w w' := by
  go_enter Try.func43, Try.ntmps43
  go_wp2_with fail
  go_loopw [5, 6] (fun r i wr => ∃ k : Nat, k ≤ n ∧ i = .int .i64 k ∧ r = .int .u64 ((rev v k : Nat) : Int) ∧ wr = w) (fun _ i _ => n - (intOf i).toNat)
  case atStart => exact ⟨0, Nat.zero_le _, rfl, rfl, rfl⟩
  case round =>
    obtain ⟨k, hk, rfl, rfl, rfl⟩ := hrel
    by_cases hlt : k < n
    · have hlti : (k : Int) < n := by omega
      have h1 := bit_u64 k hv
      have h2 := rev_next64 (v := v) (k := k) (by omega)
      have hk64 : k ≤ 64 := by omega
      generalize ((v.testBit k).toNat : Int) = z at *
      generalize hR2 : rev v (k + 1) = R2 at *
      have HR2 := hidD hR2
      clear hR2
      generalize rev v k = R at *
      go_wp2_with fail
      go_roundw
      case rel => exact ⟨k + 1, by omega, by go_num, by rw [HR2.out], trivial⟩
      case measure => simp [intOf]; omega
    · obtain rfl : k = n := by omega
      go_wp2_with fail
      go_ret
      exact ⟨rfl, Below.refl _ _⟩

theorem top1_u64 {r v : Nat} (hr : r < 2 ^ (v + 1)) : bits .and .u64 (((r.testBit v).toNat : Nat) : Int) 1 = ((r.testBit v).toNat : Int) := by
  cases r.testBit v <;> decide
theorem bits_takeI (inn : Bool) (B k : Nat) (h : k < 8) : (bitsOf inn B).take (k + 1) = (bitsOf inn B).take k ++ [B.testBit (if inn then k else 7 - k)] := by
  rw [List.take_add_one, bitsOf_get inn B k h]; rfl
theorem run_takeI (w P r B k : Nat) (inn : Bool) (h : k < 8) : runB w P r ((bitsOf inn B).take (k + 1)) = stepB w P (runB w P r ((bitsOf inn B).take k)) (B.testBit (if inn then k else 7 - k)) := by
  rw [bits_takeI inn B k h, run_append]; rfl

set_option maxRecDepth 100000 in
set_option maxHeartbeats 1000000 in
theorem step_any (m : Md) (hm : MdOk m) (r : Nat) (hr : r < 2 ^ m.w) (b : Nat) (hb : b < 256) (w : World) : Calls Try.prog 53 #[m.v, .int .u64 r, .int .u8 b] w fun e w' => e = .returned (.int .u64 (runB m.w m.P r (bitsOf m.inn b) : Nat)) ∧ Below w.heap.size w w' := by
  have HMK := hidD (fun w => mask_any m.w hm.hi w)
  have HRL := hidD (fun l => run_lt hm.P l r hr)
  have HA := hidD (MdAt.new m w 36)
  have HB0 : Hid (Below w.heap.size w (w.alloc (.cells m.cells 36))) := (Below.refl w.heap.size w).alloc (Nat.le_refl _) _
  have HSZ : Hid (w.heap.size < (w.alloc (.cells m.cells 36)).heap.size) := by show _ < _; simp
  have hlo := hm.lo
  have hhi := hm.hi
  have hP := hm.P
  have hp64 := pow64 hm.hi
  generalize hRR : runB m.w m.P r (bitsOf m.inn b) = RR
  have HRR := hidD hRR
  clear hm hRR
  obtain ⟨nm, ww, P, I, inn, out, X⟩ := m
  simp only [Md.v, Md.cells] at *
  obtain ⟨v, hv⟩ : ∃ v, ww = v + 1 := ⟨ww - 1, by omega⟩
  have hwv : (ww : Int) - 1 = (v : Int) := by omega
  have hv64 : v ≤ 64 := by omega
  have HV := hidD hv
  clear hv
  go_enter Try.func53, Try.ntmps53
  go_wp2_with fail
  generalize w.alloc _ = w1 at *
  go_loopw [1, 7] (fun rr i wr => ∃ k : Nat, k ≤ 8 ∧ i = .int .i64 k ∧ rr = .int .u64 ((runB ww P r ((bitsOf inn b).take k) : Nat) : Int) ∧ Below w1.heap.size w1 wr) (fun _ i _ => 8 - (intOf i).toNat)
  case atStart => exact ⟨0, Nat.zero_le _, rfl, rfl, Below.refl _ _⟩
  case round =>
    obtain ⟨k, hk, rfl, rfl, hbel⟩ := hrel
    have HBL := hidD hbel
    have HC : Hid (∀ w', Below wr.heap.size wr w' → MdAt w' w.heap.size ⟨nm, ww, P, I, inn, out, X⟩) := fun w' h => (HA.out.below hbel HSZ.out).below h (Nat.lt_of_lt_of_le HSZ.out hbel.size)
    obtain ⟨k0, k1, k2, k3, k4, k5, k6⟩ := HC.out wr (Below.refl _ _)
    simp only at k0 k1 k2 k3 k4 k5 k6
    by_cases hlt : k < 8
    · have hlti : (k : Int) < 8 := by omega
      have hk7 : (7 : Int) - k = ((7 - k : Nat) : Int) := by omega
      have hA := HRL.out ((bitsOf inn b).take k)
      have HN := hidD (run_takeI ww P r b k inn hlt)
      generalize hRT : runB ww P r ((bitsOf inn b).take k) = A at *
      have hA64 : A < 18446744073709551616 := by omega
      have hq : (A : Int) / 2 ^ v = ((A.testBit v).toNat : Int) := top_val (by rw [← HV.out]; exact hA)
      have hq1 := top1_u64 (r := A) (v := v) (by rw [← HV.out]; exact hA)
      have hd := dbl_and hhi hA
      have hx : bits .xor .u64 (((2 * A) % 2 ^ ww : Nat) : Int) (P : Int) = (((2 * A) % 2 ^ ww ^^^ P : Nat) : Int) := u64_xor_nat _ _ (Nat.lt_of_lt_of_le (Nat.mod_lt _ (Nat.two_pow_pos _)) hp64) (by omega)
      have HS : Hid (∀ c : Bool, stepB ww P A c = if A.testBit v = c then (2 * A) % 2 ^ ww else (2 * A) % 2 ^ ww ^^^ P) := fun c => by
        unfold stepB sel
        rw [show ww - 1 = v by have := HV.out; omega]
        cases A.testBit v <;> cases c <;> simp
      have b0 : bits .and .u64 ((b : Int) / 2 ^ k) 1 = ((b.testBit k).toNat : Int) := bit_u64 k (by omega)
      have b7 : bits .and .u64 ((b : Int) / 2 ^ (7 - k)) 1 = ((b.testBit (7 - k)).toNat : Int) := bit_u64 (7 - k) (by omega)
      have hb0 : (b : Int) / 2 ^ k ≤ 255 := by
        have h1 : (b : Int) / 2 ^ k = ((b / 2 ^ k : Nat) : Int) := by simp
        have h2 : b / 2 ^ k ≤ b := Nat.div_le_self _ _
        rw [h1]; omega
      have hb1 : 0 ≤ (b : Int) / 2 ^ k := by
        have h1 : (b : Int) / 2 ^ k = ((b / 2 ^ k : Nat) : Int) := by simp
        rw [h1]; exact Int.natCast_nonneg _
      have hb2 : (b : Int) / 2 ^ (7 - k) ≤ 255 := by
        have h1 : (b : Int) / 2 ^ (7 - k) = ((b / 2 ^ (7 - k) : Nat) : Int) := by simp
        have h2 : b / 2 ^ (7 - k) ≤ b := Nat.div_le_self _ _
        rw [h1]; omega
      have hb3 : 0 ≤ (b : Int) / 2 ^ (7 - k) := by
        have h1 : (b : Int) / 2 ^ (7 - k) = ((b / 2 ^ (7 - k) : Nat) : Int) := by simp
        rw [h1]; exact Int.natCast_nonneg _
      have hk8 : k ≤ 64 := by omega
      have hk9 : 7 - k ≤ 64 := by omega
      clear hbel hRT hA hA64 hP hp64
      generalize hdd : 7 - k = d7 at *
      have HDD := hidD hdd
      clear hdd
      generalize hq11 : (b : Int) / 2 ^ k = q1 at *
      generalize hq77 : (b : Int) / 2 ^ d7 = q7 at *
      cases inn
      · simp only [Bool.false_eq_true, if_false] at HN
        have HSC := hidD (HS.out (b.testBit d7))
        by_cases htc : A.testBit v = b.testBit d7
        · rw [if_pos htc] at HSC
          rw [htc] at hq hq1
          clear htc HS
          generalize ((b.testBit d7).toNat : Int) = z at *
          generalize hNN : runB ww P r ((bitsOf false b).take (k + 1)) = NN at *
          have HNN := hidD hNN
          clear hNN
          generalize 2 * A % 2 ^ ww ^^^ P = DX at *
          generalize 2 * A % 2 ^ ww = D at *
          generalize 2 ^ ww - 1 = G at *
          go_wp2_with (go_at_call 52; refine (HMK.out _).mono ?_; rintro e w2 ⟨rfl, hb2⟩; obtain ⟨p0, p1, p2, p3, p4, p5, p6⟩ := HC.out w2 hb2; simp only at p0 p1 p2 p3 p4 p5 p6)
          go_roundw
          case rel => exact ⟨k + 1, by omega, by go_num, by rw [HNN.out, HN.out, HSC.out], Below.next HBL.out hb2⟩
          case measure => simp [intOf]; omega
        · rw [if_neg htc] at HSC
          have hne : ¬ ((A.testBit v).toNat : Int) = ((b.testBit d7).toNat : Int) := by revert htc; cases A.testBit v <;> cases b.testBit d7 <;> simp
          clear htc HS
          generalize ((A.testBit v).toNat : Int) = z at *
          generalize ((b.testBit d7).toNat : Int) = z' at *
          generalize hNN : runB ww P r ((bitsOf false b).take (k + 1)) = NN at *
          have HNN := hidD hNN
          clear hNN
          generalize 2 * A % 2 ^ ww ^^^ P = DX at *
          generalize 2 * A % 2 ^ ww = D at *
          generalize 2 ^ ww - 1 = G at *
          go_wp2_with (go_at_call 52; refine (HMK.out _).mono ?_; rintro e w2 ⟨rfl, hb2⟩; obtain ⟨p0, p1, p2, p3, p4, p5, p6⟩ := HC.out w2 hb2; simp only at p0 p1 p2 p3 p4 p5 p6)
          go_roundw
          case rel => exact ⟨k + 1, by omega, by go_num, by rw [HNN.out, HN.out, HSC.out], Below.next HBL.out hb2⟩
          case measure => simp [intOf]; omega
      · simp only [if_true] at HN
        have HSC := hidD (HS.out (b.testBit k))
        by_cases htc : A.testBit v = b.testBit k
        · rw [if_pos htc] at HSC
          rw [htc] at hq hq1
          clear htc HS
          generalize ((b.testBit k).toNat : Int) = z at *
          generalize hNN : runB ww P r ((bitsOf true b).take (k + 1)) = NN at *
          have HNN := hidD hNN
          clear hNN
          generalize 2 * A % 2 ^ ww ^^^ P = DX at *
          generalize 2 * A % 2 ^ ww = D at *
          generalize 2 ^ ww - 1 = G at *
          go_wp2_with (go_at_call 52; refine (HMK.out _).mono ?_; rintro e w2 ⟨rfl, hb2⟩; obtain ⟨p0, p1, p2, p3, p4, p5, p6⟩ := HC.out w2 hb2; simp only at p0 p1 p2 p3 p4 p5 p6)
          go_roundw
          case rel => exact ⟨k + 1, by omega, by go_num, by rw [HNN.out, HN.out, HSC.out], Below.next HBL.out hb2⟩
          case measure => simp [intOf]; omega
        · rw [if_neg htc] at HSC
          have hne : ¬ ((A.testBit v).toNat : Int) = ((b.testBit k).toNat : Int) := by revert htc; cases A.testBit v <;> cases b.testBit k <;> simp
          clear htc HS
          generalize ((A.testBit v).toNat : Int) = z at *
          generalize ((b.testBit k).toNat : Int) = z' at *
          generalize hNN : runB ww P r ((bitsOf true b).take (k + 1)) = NN at *
          have HNN := hidD hNN
          clear hNN
          generalize 2 * A % 2 ^ ww ^^^ P = DX at *
          generalize 2 * A % 2 ^ ww = D at *
          generalize 2 ^ ww - 1 = G at *
          go_wp2_with (go_at_call 52; refine (HMK.out _).mono ?_; rintro e w2 ⟨rfl, hb2⟩; obtain ⟨p0, p1, p2, p3, p4, p5, p6⟩ := HC.out w2 hb2; simp only at p0 p1 p2 p3 p4 p5 p6)
          go_roundw
          case rel => exact ⟨k + 1, by omega, by go_num, by rw [HNN.out, HN.out, HSC.out], Below.next HBL.out hb2⟩
          case measure => simp [intOf]; omega
    · obtain rfl : k = 8 := by omega
      have HF : Hid (runB ww P r ((bitsOf inn b).take 8) = RR) := by rw [← HRR.out, List.take_of_length_le (by rw [bitsOf_length]; exact Nat.le_refl _)]; exact rfl
      generalize runB ww P r ((bitsOf inn b).take 8) = A at *
      go_wp2_with fail
      go_ret
      exact ⟨by show Ending.returned (Value.int .u64 (A : Int)) = _; rw [HF.out], Below.next HB0.out HBL.out⟩
end Go.Proofs.Ytjhaaphgaplhlaa
