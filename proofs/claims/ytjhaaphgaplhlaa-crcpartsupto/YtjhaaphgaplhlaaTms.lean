/- What times and noughtsIn of the program, and times and noughts of the document, answer. -/
import Derived.Test.YtjhaaphgaplhlaaRfs
namespace Go.Proofs.Ytjhaaphgaplhlaa
open Go.RowKit
set_option linter.unusedVariables false

theorem times_lt' {w P a b k : Nat} (hP : P < 2 ^ w) (ha : a < 2 ^ w) : timesTo w P a b k < 2 ^ w := times_lt hP ha k

set_option maxRecDepth 100000 in
set_option maxHeartbeats 400000 in
theorem times_any (m : Md) (hm : MdOk m) (a b : Nat) (ha : a < 2 ^ m.w) (hb : b < 2 ^ m.w) (w : World) : Calls Try.prog 61 #[m.v, .int .u64 a, .int .u64 b] w fun e w' => e = .returned (.int .u64 (timesB m.w m.P a b : Nat)) ∧ Below w.heap.size w w' := by
  have HBI : Hid (∀ (r : Nat) (hr : r < 2 ^ m.w) (w : World), Calls Try.prog 65 #[m.v, .int .u64 r, .int .u64 0] w fun e w' => e = .returned (.int .u64 (stepB m.w m.P r false : Nat)) ∧ Below w.heap.size w w') := fun r hr w => bitIn_any m hm r hr false w
  have HTL := hidD (fun k => times_lt (b := b) hm.P ha k)
  have HSL := hidD (fun r => step_lt (r := r) (c := false) hm.P)
  have hp := pow64 hm.hi
  have HA := hidD (MdAt.new m w 35)
  have HB0 : Hid (Below w.heap.size w (w.alloc (.cells m.cells 35))) := (Below.refl w.heap.size w).alloc (Nat.le_refl _) _
  have HSZ : Hid (w.heap.size < (w.alloc (.cells m.cells 35)).heap.size) := by show _ < _; simp
  have hlo := hm.lo
  have hhi := hm.hi
  have HTT : Hid (timesTo m.w m.P a b m.w = timesB m.w m.P a b) := rfl
  have HTN : Hid (∀ k, timesTo m.w m.P a b (k + 1) = stepB m.w m.P (timesTo m.w m.P a b k) false ^^^ sel (b.testBit (m.w - 1 - k)) a) := fun k => rfl
  clear hm
  obtain ⟨nm, ww, P, I, inn, out, X⟩ := m
  simp only [Md.v, Md.cells] at *
  generalize timesB ww P a b = TB at *
  go_enter Try.func61, Try.ntmps61
  go_wp2_with fail
  generalize w.alloc _ = w1 at *
  go_loopw [7, 11] (fun p i wr => ∃ k : Nat, k ≤ ww ∧ i = .int .i64 k ∧ p = .int .u64 ((timesTo ww P a b k : Nat) : Int) ∧ Below w1.heap.size w1 wr) (fun _ i _ => ww - (intOf i).toNat)
  case atStart => exact ⟨0, Nat.zero_le _, rfl, rfl, Below.refl _ _⟩
  case round =>
    obtain ⟨k, hk, rfl, rfl, hbel⟩ := hrel
    have HBL := hidD hbel
    have HC : Hid (∀ w', Below wr.heap.size wr w' → MdAt w' w.heap.size ⟨nm, ww, P, I, inn, out, X⟩) := fun w' h => (HA.out.below hbel HSZ.out).below h (Nat.lt_of_lt_of_le HSZ.out hbel.size)
    obtain ⟨k0, k1, k2, k3, k4, k5, k6⟩ := HC.out wr (Below.refl _ _)
    simp only at k0 k1 k2 k3 k4 k5 k6
    by_cases hlt : k < ww
    · have hlti : (k : Int) < ww := by omega
      obtain ⟨d, hd⟩ : ∃ d, ww - 1 - k = d := ⟨_, rfl⟩
      have hdi : (ww : Int) - 1 - k = (d : Int) := by omega
      have hd64 : d ≤ 64 := by omega
      have hbt := bit_u64 (v := b) d (by omega)
      have HN0 : Hid (b.testBit d = false → timesTo ww P a b (k + 1) = stepB ww P (timesTo ww P a b k) false) := fun h => by rw [HTN.out k, hd, h]; simp [sel]
      have HN1 : Hid (b.testBit d = true → timesTo ww P a b (k + 1) = stepB ww P (timesTo ww P a b k) false ^^^ a) := fun h => by rw [HTN.out k, hd, h]; simp [sel]
      have HCB := hidD (fun w => HBI.out _ (HTL.out k) w)
      have hsl := HSL.out (timesTo ww P a b k)
      have hx : bits .xor .u64 ((stepB ww P (timesTo ww P a b k) false : Nat) : Int) (a : Int) = ((stepB ww P (timesTo ww P a b k) false ^^^ a : Nat) : Int) := u64_xor_nat _ _ (by omega) (by omega)
      clear hd hbel hsl
      generalize hNN : timesTo ww P a b (k + 1) = NN at *
      have HNN := hidD hNN
      clear hNN
      generalize stepB ww P (timesTo ww P a b k) false ^^^ a = SX at *
      generalize hST : stepB ww P (timesTo ww P a b k) false = ST at *
      clear hST
      generalize timesTo ww P a b k = TK at *
      cases hbd : b.testBit d
      · rw [hbd] at hbt
        simp only [Bool.toNat_false] at hbt
        have HNE := hidD (HN0.out hbd)
        clear hbd hx
        go_wp2_with (go_at_call 65; refine (HCB.out _).mono ?_; rintro e w2 ⟨rfl, hb2⟩; obtain ⟨p0, p1, p2, p3, p4, p5, p6⟩ := HC.out w2 hb2; simp only at p0 p1 p2 p3 p4 p5 p6)
        go_roundw
        case rel => exact ⟨k + 1, by omega, by go_num, by rw [HNN.out, HNE.out], Below.next HBL.out hb2⟩
        case measure => simp [intOf]; omega
      · rw [hbd] at hbt
        simp only [Bool.toNat_true] at hbt
        have HNE := hidD (HN1.out hbd)
        clear hbd
        go_wp2_with (go_at_call 65; refine (HCB.out _).mono ?_; rintro e w2 ⟨rfl, hb2⟩; obtain ⟨p0, p1, p2, p3, p4, p5, p6⟩ := HC.out w2 hb2; simp only at p0 p1 p2 p3 p4 p5 p6)
        go_roundw
        case rel => exact ⟨k + 1, by omega, by go_num, by rw [HNN.out, HNE.out], Below.next HBL.out hb2⟩
        case measure => simp [intOf]; omega
    · obtain rfl : k = ww := by omega
      have HTT2 := hidD HTT.out
      generalize timesTo k P a b k = T at *
      go_wp2_with fail
      go_ret
      exact ⟨by show Ending.returned (Value.int .u64 (T : Int)) = _; rw [HTT2.out], Below.next HB0.out hbel⟩

set_option maxRecDepth 100000 in
set_option maxHeartbeats 1000000 in
theorem refTimes_any (m : Md) (hm : MdOk m) (a b : Nat) (ha : a < 2 ^ m.w) (hb : b < 2 ^ m.w) (w : World) : Calls Try.prog 62 #[m.v, .int .u64 a, .int .u64 b] w fun e w' => e = .returned (.int .u64 (timesB m.w m.P a b : Nat)) ∧ Below w.heap.size w w' := by
  have HMK := hidD (fun w => mask_any m.w hm.hi w)
  have HTL := hidD (fun k => times_lt (b := b) hm.P ha k)
  have hp := pow64 hm.hi
  have HA := hidD (MdAt.new m w 36)
  have HB0 : Hid (Below w.heap.size w (w.alloc (.cells m.cells 36))) := (Below.refl w.heap.size w).alloc (Nat.le_refl _) _
  have HSZ : Hid (w.heap.size < (w.alloc (.cells m.cells 36)).heap.size) := by show _ < _; simp
  have hlo := hm.lo
  have hhi := hm.hi
  have hP := hm.P
  have HTT : Hid (timesTo m.w m.P a b m.w = timesB m.w m.P a b) := rfl
  have HTN : Hid (∀ k, timesTo m.w m.P a b (k + 1) = stepB m.w m.P (timesTo m.w m.P a b k) false ^^^ sel (b.testBit (m.w - 1 - k)) a) := fun k => rfl
  clear hm
  obtain ⟨nm, ww, P, I, inn, out, X⟩ := m
  simp only [Md.v, Md.cells] at *
  generalize timesB ww P a b = TB at *
  obtain ⟨v, hv⟩ : ∃ v, ww = v + 1 := ⟨ww - 1, by omega⟩
  have hwv : (ww : Int) - 1 = (v : Int) := by omega
  have hv64 : v ≤ 64 := by omega
  have HV := hidD hv
  clear hv
  go_enter Try.func62, Try.ntmps62
  go_wp2_with fail
  generalize w.alloc _ = w1 at *
  go_loopw [7, 8] (fun p i wr => ∃ k : Nat, k ≤ ww ∧ i = .int .i64 ((ww : Int) - 1 - k) ∧ p = .int .u64 ((timesTo ww P a b k : Nat) : Int) ∧ Below w1.heap.size w1 wr) (fun _ i _ => (intOf i + 1).toNat)
  case atStart => exact ⟨0, Nat.zero_le _, by simp [hwv], rfl, Below.refl _ _⟩
  case round =>
    obtain ⟨k, hk, rfl, rfl, hbel⟩ := hrel
    have HBL := hidD hbel
    have HC : Hid (∀ w', Below wr.heap.size wr w' → MdAt w' w.heap.size ⟨nm, ww, P, I, inn, out, X⟩) := fun w' h => (HA.out.below hbel HSZ.out).below h (Nat.lt_of_lt_of_le HSZ.out hbel.size)
    obtain ⟨k0, k1, k2, k3, k4, k5, k6⟩ := HC.out wr (Below.refl _ _)
    simp only at k0 k1 k2 k3 k4 k5 k6
    by_cases hlt : k < ww
    · obtain ⟨d, hd⟩ : ∃ d, ww - 1 - k = d := ⟨_, rfl⟩
      have hdi : (ww : Int) - 1 - k = (d : Int) := by omega
      have HDI : Hid ((d : Int) - 1 = (ww : Int) - 1 - ((k + 1 : Nat) : Int)) := by show _ = _; omega
      have HDM : Hid (d + 1 = ww - k) := by show _ = _; omega
      rw [hdi]
      have hd64 : d ≤ 64 := by omega
      have hbt := bit_u64 (v := b) d (by omega)
      have HN : Hid (timesTo ww P a b (k + 1) = stepB ww P (timesTo ww P a b k) false ^^^ sel (b.testBit d) a) := by show _ = _; rw [HTN.out k, hd]
      have hA := HTL.out k
      generalize hNN : timesTo ww P a b (k + 1) = NN at *
      have HNN := hidD hNN
      generalize hTK : timesTo ww P a b k = A at *
      clear hNN hTK hd hdi hbel hwv
      have hwv : (ww : Int) - 1 = (v : Int) := by have := HV.out; omega
      have hq : (A : Int) / 2 ^ v = ((A.testBit v).toNat : Int) := top_val (by rw [← HV.out]; exact hA)
      have hq1 := top1_u64 (r := A) (v := v) (by rw [← HV.out]; exact hA)
      have hdm := dbl_and hhi hA
      have hDl : 2 * A % 2 ^ ww < 18446744073709551616 := Nat.lt_of_lt_of_le (Nat.mod_lt _ (Nat.two_pow_pos _)) hp
      have hSl : stepB ww P A false < 18446744073709551616 := Nat.lt_of_lt_of_le (step_lt hP) hp
      have HS : Hid (stepB ww P A false = if A.testBit v then (2 * A) % 2 ^ ww ^^^ P else (2 * A) % 2 ^ ww) := by
        show _ = _
        unfold stepB sel
        rw [show ww - 1 = v by have := HV.out; omega]
        cases A.testBit v <;> simp
      have hx1 : bits .xor .u64 (((2 * A) % 2 ^ ww : Nat) : Int) (P : Int) = (((2 * A) % 2 ^ ww ^^^ P : Nat) : Int) := u64_xor_nat _ _ hDl (by omega)
      have hx2 : bits .xor .u64 ((stepB ww P A false : Nat) : Int) (a : Int) = ((stepB ww P A false ^^^ a : Nat) : Int) := u64_xor_nat _ _ hSl (by omega)
      clear hA hp hDl hSl hP
      generalize hSX : stepB ww P A false ^^^ a = SX at *
      have HSX := hidD hSX
      clear hSX
      generalize hSS : stepB ww P A false = SS at *
      clear hSS
      cases htb : A.testBit v
      · rw [htb] at hq hq1 HS
        simp only [Bool.toNat_false, Bool.false_eq_true, if_false] at hq hq1 HS
        have hSe := HS.out
        rw [← hSe] at hdm
        clear hSe HS htb hx1
        cases hbd : b.testBit d
        · rw [hbd] at hbt HN
          simp only [Bool.toNat_false] at hbt
          have HNE : Hid (NN = SS) := by show _ = _; rw [HN.out]; simp [sel]
          clear HN hbd
          generalize 2 ^ ww - 1 = G at *
          go_wp2_with (go_at_call 52; refine (HMK.out _).mono ?_; rintro e w2 ⟨rfl, hb2⟩; obtain ⟨p0, p1, p2, p3, p4, p5, p6⟩ := HC.out w2 hb2; simp only at p0 p1 p2 p3 p4 p5 p6)
          go_roundw
          case rel => exact ⟨k + 1, by omega, by rw [← HDI.out], by rw [HNN.out, HNE.out], Below.next HBL.out hb2⟩
          case measure => have := HDM.out; simp [intOf]
        · rw [hbd] at hbt HN
          simp only [Bool.toNat_true] at hbt
          have HNE : Hid (NN = SX) := by show _ = _; rw [HN.out, ← HSX.out]; simp [sel]
          clear HN hbd
          generalize 2 ^ ww - 1 = G at *
          go_wp2_with (go_at_call 52; refine (HMK.out _).mono ?_; rintro e w2 ⟨rfl, hb2⟩; obtain ⟨p0, p1, p2, p3, p4, p5, p6⟩ := HC.out w2 hb2; simp only at p0 p1 p2 p3 p4 p5 p6)
          go_roundw
          case rel => exact ⟨k + 1, by omega, by rw [← HDI.out], by rw [HNN.out, HNE.out], Below.next HBL.out hb2⟩
          case measure => have := HDM.out; simp [intOf]
      · rw [htb] at hq hq1 HS
        simp only [Bool.toNat_true, if_true] at hq hq1 HS
        have hSe := HS.out
        rw [← hSe] at hx1
        clear hSe HS htb
        generalize 2 * A % 2 ^ ww = D at *
        cases hbd : b.testBit d
        · rw [hbd] at hbt HN
          simp only [Bool.toNat_false] at hbt
          have HNE : Hid (NN = SS) := by show _ = _; rw [HN.out]; simp [sel]
          clear HN hbd
          generalize 2 ^ ww - 1 = G at *
          go_wp2_with (go_at_call 52; refine (HMK.out _).mono ?_; rintro e w2 ⟨rfl, hb2⟩; obtain ⟨p0, p1, p2, p3, p4, p5, p6⟩ := HC.out w2 hb2; simp only at p0 p1 p2 p3 p4 p5 p6)
          go_roundw
          case rel => exact ⟨k + 1, by omega, by rw [← HDI.out], by rw [HNN.out, HNE.out], Below.next HBL.out hb2⟩
          case measure => have := HDM.out; simp [intOf]
        · rw [hbd] at hbt HN
          simp only [Bool.toNat_true] at hbt
          have HNE : Hid (NN = SX) := by show _ = _; rw [HN.out, ← HSX.out]; simp [sel]
          clear HN hbd
          generalize 2 ^ ww - 1 = G at *
          go_wp2_with (go_at_call 52; refine (HMK.out _).mono ?_; rintro e w2 ⟨rfl, hb2⟩; obtain ⟨p0, p1, p2, p3, p4, p5, p6⟩ := HC.out w2 hb2; simp only at p0 p1 p2 p3 p4 p5 p6)
          go_roundw
          case rel => exact ⟨k + 1, by omega, by rw [← HDI.out], by rw [HNN.out, HNE.out], Below.next HBL.out hb2⟩
          case measure => have := HDM.out; simp [intOf]
    · obtain rfl : k = ww := by omega
      have HTT2 := hidD HTT.out
      generalize timesTo k P a b k = T at *
      have hk1 : (k : Int) - 1 - k = -1 := by omega
      go_wp2_with fail
      go_ret
      exact ⟨by show Ending.returned (Value.int .u64 (T : Int)) = _; rw [HTT2.out], Below.next HB0.out hbel⟩
end Go.Proofs.Ytjhaaphgaplhlaa
