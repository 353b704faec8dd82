/- What noughtsIn and Combine of the program, and noughts and Combine of the document, answer. -/
import Derived.Test.YtjhaaphgaplhlaaTms
namespace Go.Proofs.Ytjhaaphgaplhlaa
open Go.RowKit
set_option linter.unusedVariables false

theorem nought_bits (inn : Bool) : ∀ c ∈ bitsOf inn 0, c = false := by
  intro c hc
  unfold bitsOf at hc
  obtain ⟨i, _, rfl⟩ := List.mem_map.1 hc
  exact Nat.zero_testBit _
theorem run_nought (w P r : Nat) (inn : Bool) : runB w P r (bitsOf inn 0) = noB w P 8 r := by rw [run_falses r (nought_bits inn), bitsOf_length]
theorem nght_next {w P e N R : Nat} : noB w P ((e + e) * (N / 2)) (if N.testBit 0 then noB w P e R else R) = noB w P (e * N) R := by
  have h2 : N.testBit 0 = decide (N % 2 = 1) := Nat.testBit_zero N
  rcases Nat.mod_two_eq_zero_or_one N with h | h
  · rw [h2, decide_eq_false (by omega), if_neg (by simp)]
    obtain ⟨q, rfl⟩ : ∃ q, N = 2 * q := ⟨N / 2, by omega⟩
    rw [Nat.mul_div_cancel_left _ (by omega), ← Nat.two_mul, Nat.mul_comm 2 e, Nat.mul_assoc]
  · rw [h2, decide_eq_true h, if_pos rfl, ← no_add]
    obtain ⟨q, rfl⟩ : ∃ q, N = 2 * q + 1 := ⟨N / 2, by omega⟩
    rw [show (2 * q + 1) / 2 = q by omega, ← Nat.two_mul, Nat.mul_comm 2 e, Nat.mul_assoc, Nat.mul_add, Nat.mul_one, Nat.add_comm]
def turnS (m : Md) (r : Nat) : Nat := if m.out then rev r m.w else r
def combS (m : Md) (a b n : Nat) : Nat := turnS m (noB m.w m.P (8 * n) (turnS m (a ^^^ m.X) ^^^ m.I)) ^^^ b

set_option maxRecDepth 100000 in
set_option maxHeartbeats 400000 in
theorem noughtsIn_any (m : Md) (hm : MdOk m) (r : Nat) (hr : r < 2 ^ m.w) (n : Nat) (hn : n < 18446744073709551616) (w : World) : Calls Try.prog 55 #[m.v, .int .u64 r, .int .u64 n] w fun e w' => e = .returned (.int .u64 (noB m.w m.P (8 * n) r : Nat)) ∧ Below w.heap.size w w' := by
  have h1 : 1 < 2 ^ m.w := Nat.one_lt_two_pow (by have := hm.lo; omega)
  have HF1 : Hid (∀ w, Calls Try.prog 59 #[m.v, .int .u64 1, .int .u8 0] w fun e w' => e = .returned (.int .u64 (noB m.w m.P 8 1 : Nat)) ∧ Below w.heap.size w w') := fun w => by
    have := byteIn_any m hm 1 h1 0 (by omega) w
    rwa [run_nought] at this
  have HT : Hid (∀ (e R : Nat) (hR : R < 2 ^ m.w) (w : World), Calls Try.prog 61 #[m.v, .int .u64 R, .int .u64 (noB m.w m.P e 1 : Nat)] w fun e' w' => e' = .returned (.int .u64 (noB m.w m.P e R : Nat)) ∧ Below w.heap.size w w') := fun e R hR w => by
    have := times_any m hm R (noB m.w m.P e 1) hR (no_lt hm.P e 1 h1) w
    rwa [times_pow (by have := hm.lo; omega) hm.P hR] at this
  have HNL := hidD (fun e R (hR : R < 2 ^ m.w) => no_lt hm.P e R hR)
  have HNN : Hid (∀ e N R, noB m.w m.P ((e + e) * (N / 2)) (if N.testBit 0 then noB m.w m.P e R else R) = noB m.w m.P (e * N) R) := fun e N R => nght_next
  have HN2 : Hid (∀ e, noB m.w m.P e (noB m.w m.P e 1) = noB m.w m.P (e + e) 1) := fun e => (no_add _ _ _ _ _).symm
  have H1 := hidD h1
  have HN0 : Hid (∀ R, noB m.w m.P 0 R = R) := fun R => rfl
  have HA := hidD (MdAt.new m w 35)
  have HB0 : Hid (Below w.heap.size w (w.alloc (.cells m.cells 35))) := (Below.refl w.heap.size w).alloc (Nat.le_refl _) _
  have HSZ : Hid (w.heap.size < (w.alloc (.cells m.cells 35)).heap.size) := by show _ < _; simp
  have HR := hidD hr
  generalize hF : noB m.w m.P = F at *
  clear hm hF h1 hr
  obtain ⟨nm, ww, P, I, inn, out, X⟩ := m
  simp only [Md.v, Md.cells] at *
  go_enter Try.func55, Try.ntmps55
  go_wp2_with (go_at_call 59; refine (HF1.out _).mono ?_; rintro e w2 ⟨rfl, hb2⟩; have HXB := hidD (HA.out.below hb2 HSZ.out); have HGB := hidD (Nat.lt_of_lt_of_le HSZ.out hb2.size); have HBB := hidD (Below.next HB0.out hb2); clear hb2)
  go_loopw [1, 2, 7] (fun rr nn pp wr => ∃ (N e R : Nat), N < 18446744073709551616 ∧ nn = .int .u64 N ∧ pp = .int .u64 (F e 1 : Nat) ∧ rr = .int .u64 R ∧ R < 2 ^ ww ∧ F (e * N) R = F (8 * n) r ∧ Below w2.heap.size w2 wr) (fun _ nn _ _ => (intOf nn).toNat)
  case atStart => exact ⟨n, 8, r, hn, rfl, rfl, rfl, HR.out, rfl, Below.refl _ _⟩
  case round =>
    obtain ⟨N, e, R, hN, rfl, rfl, rfl, hR, hinv, hbel⟩ := hrel
    have HBL := hidD hbel
    have HI := hidD hinv
    have HRR := hidD hR
    have HC : Hid (∀ w', Below wr.heap.size wr w' → MdAt w' w.heap.size ⟨nm, ww, P, I, inn, out, X⟩) := fun w' h => (HXB.out.below hbel HGB.out).below h (Nat.lt_of_lt_of_le HGB.out hbel.size)
    obtain ⟨k0, k1, k2, k3, k4, k5, k6⟩ := HC.out wr (Below.refl _ _)
    simp only at k0 k1 k2 k3 k4 k5 k6
    by_cases h0 : 0 < N
    · have h0i : (0 : Int) < N := by omega
      have hand := and1_u64 hN
      have HX := hidD (HNN.out e N R)
      have HT1 := hidD (fun w => HT.out e R hR w)
      have HT2 := hidD (fun w => HT.out e (F e 1) (HNL.out e 1 H1.out) w)
      rw [HN2.out] at HT2
      have HFL := hidD (HNL.out e R hR)
      clear hinv hbel hR
      generalize hF2 : F (e + e) 1 = E2 at *
      have HF2 := hidD hF2
      clear hF2
      generalize hF1 : F e 1 = E1 at *
      clear hF1
      cases hb : N.testBit 0
      · rw [hb] at hand HX
        simp only [Bool.toNat_false, Bool.false_eq_true, if_false] at hand HX
        clear hb HT1
        go_wp2_with (go_at_call 61; refine (HT2.out _).mono ?_; rintro e' w4 ⟨rfl, hb2⟩)
        go_roundw
        case rel => exact ⟨N / 2, e + e, R, by omega, by go_num, by rw [HF2.out], rfl, HRR.out, by rw [HX.out]; exact HI.out, Below.next HBL.out hb2⟩
        case measure => simp [intOf]; omega
      · rw [hb] at hand HX
        simp only [Bool.toNat_true, if_true] at hand HX
        clear hb
        generalize hFR : F e R = R2 at *
        have HFR := hidD hFR
        clear hFR
        go_wp2_with (first
          | (go_at_call 61; refine (HT1.out _).mono ?_; rintro e' w4 ⟨rfl, hb2⟩; obtain ⟨p0, p1, p2, p3, p4, p5, p6⟩ := HC.out w4 hb2; simp only at p0 p1 p2 p3 p4 p5 p6; have HB2 := hidD hb2; clear hb2 HT1)
          | (go_at_call 61; refine (HT2.out _).mono ?_; rintro e' w3 ⟨rfl, hb3⟩))
        go_roundw
        case rel => exact ⟨N / 2, e + e, R2, by omega, by go_num, by rw [HF2.out], rfl, HFL.out, by rw [HX.out]; exact HI.out, Below.next HBL.out (Below.next HB2.out hb3)⟩
        case measure => simp [intOf]; omega
    · obtain rfl : N = 0 := by omega
      rw [Nat.mul_zero, HN0.out] at HI
      clear hinv
      go_wp2_with fail
      go_ret
      exact ⟨by show Ending.returned (Value.int .u64 (R : Int)) = _; rw [HI.out], Below.next HBB.out HBL.out⟩

set_option maxRecDepth 100000 in
set_option maxHeartbeats 400000 in
theorem noughts_any (m : Md) (hm : MdOk m) (r : Nat) (hr : r < 2 ^ m.w) (n : Nat) (hn : n < 18446744073709551616) (w : World) : Calls Try.prog 56 #[m.v, .int .u64 r, .int .u64 n] w fun e w' => e = .returned (.int .u64 (noB m.w m.P (8 * n) r : Nat)) ∧ Below w.heap.size w w' := by
  have h1 : 1 < 2 ^ m.w := Nat.one_lt_two_pow (by have := hm.lo; omega)
  have HF1 : Hid (∀ w0 : World, Calls Try.prog 49 #[m.v, .int .u64 1, .slice (some ⟨w0.heap.size, 0, none⟩) 1 1] (w0.alloc (.cells #[.int .u8 0] 5)) fun e w' => e = .returned (.int .u64 (noB m.w m.P 8 1 : Nat)) ∧ Below (w0.alloc (.cells #[.int .u8 0] 5)).heap.size (w0.alloc (.cells #[.int .u8 0] 5)) w') := fun w0 => by
    have := register_any m hm 1 h1 [0] (by decide) (.slice (some ⟨w0.heap.size, 0, none⟩) 1 1) (w0.alloc (.cells #[.int .u8 0] 5)) (.inr ⟨w0.heap.size, 0, 1, rfl, by simp, fun j hj => by
      obtain rfl : j = 0 := by simpa using hj
      rw [World.cell?_alloc_new]; rfl⟩)
    rwa [show streamOf m.inn [0] = bitsOf m.inn 0 by simp [streamOf], run_nought] at this
  have HT : Hid (∀ (e R : Nat) (hR : R < 2 ^ m.w) (w : World), Calls Try.prog 62 #[m.v, .int .u64 R, .int .u64 (noB m.w m.P e 1 : Nat)] w fun e' w' => e' = .returned (.int .u64 (noB m.w m.P e R : Nat)) ∧ Below w.heap.size w w') := fun e R hR w => by
    have := refTimes_any m hm R (noB m.w m.P e 1) hR (no_lt hm.P e 1 h1) w
    rwa [times_pow (by have := hm.lo; omega) hm.P hR] at this
  have HNL := hidD (fun e R (hR : R < 2 ^ m.w) => no_lt hm.P e R hR)
  have HNN : Hid (∀ e N R, noB m.w m.P ((e + e) * (N / 2)) (if N.testBit 0 then noB m.w m.P e R else R) = noB m.w m.P (e * N) R) := fun e N R => nght_next
  have HN2 : Hid (∀ e, noB m.w m.P e (noB m.w m.P e 1) = noB m.w m.P (e + e) 1) := fun e => (no_add _ _ _ _ _).symm
  have H1 := hidD h1
  have HN0 : Hid (∀ R, noB m.w m.P 0 R = R) := fun R => rfl
  have HA := hidD (MdAt.new m w 36)
  have HB0 : Hid (Below w.heap.size w (w.alloc (.cells m.cells 36))) := (Below.refl w.heap.size w).alloc (Nat.le_refl _) _
  have HSZ : Hid (w.heap.size < (w.alloc (.cells m.cells 36)).heap.size) := by show _ < _; simp
  have HR := hidD hr
  generalize hF : noB m.w m.P = F at *
  clear hm hF h1 hr
  obtain ⟨nm, ww, P, I, inn, out, X⟩ := m
  simp only [Md.v, Md.cells] at *
  have HF1 := HF1.out (w.alloc (.cells #[.string nm, .int .i64 ww, .int .u64 P, .int .u64 I, .bool inn, .bool out, .int .u64 X] 36))
  have hws : (w.alloc (.cells #[.string nm, .int .i64 ww, .int .u64 P, .int .u64 I, .bool inn, .bool out, .int .u64 X] 36)).heap.size = w.heap.size + 1 := by simp
  rw [hws] at HF1
  clear hws
  go_enter Try.func56, Try.ntmps56
  go_wp2_with (go_at_call 49; refine HF1.mono ?_; rintro e w2 ⟨rfl, hb2⟩; have HXB := hidD ((HA.out.below ((Below.refl _ _).alloc (Nat.le_refl _) _) HSZ.out).below hb2 (Nat.lt_trans HSZ.out (by simp))); have HGB := hidD (Nat.lt_of_lt_of_le (Nat.lt_trans HSZ.out (by simp)) hb2.size); have HBB := hidD (Below.next (Below.more HB0.out _) hb2); clear hb2)
  go_loopw [1, 2, 7] (fun rr nn pp wr => ∃ (N e R : Nat), N < 18446744073709551616 ∧ nn = .int .u64 N ∧ pp = .int .u64 (F e 1 : Nat) ∧ rr = .int .u64 R ∧ R < 2 ^ ww ∧ F (e * N) R = F (8 * n) r ∧ Below w2.heap.size w2 wr) (fun _ nn _ _ => (intOf nn).toNat)
  case atStart => exact ⟨n, 8, r, hn, rfl, rfl, rfl, HR.out, rfl, Below.refl _ _⟩
  case round =>
    obtain ⟨N, e, R, hN, rfl, rfl, rfl, hR, hinv, hbel⟩ := hrel
    have HBL := hidD hbel
    have HI := hidD hinv
    have HRR := hidD hR
    have HC : Hid (∀ w', Below wr.heap.size wr w' → MdAt w' w.heap.size ⟨nm, ww, P, I, inn, out, X⟩) := fun w' h => (HXB.out.below hbel HGB.out).below h (Nat.lt_of_lt_of_le HGB.out hbel.size)
    obtain ⟨k0, k1, k2, k3, k4, k5, k6⟩ := HC.out wr (Below.refl _ _)
    simp only at k0 k1 k2 k3 k4 k5 k6
    by_cases h0 : 0 < N
    · have h0i : (0 : Int) < N := by omega
      have hand := and1_u64 hN
      have HX := hidD (HNN.out e N R)
      have HT1 := hidD (fun w => HT.out e R hR w)
      have HT2 := hidD (fun w => HT.out e (F e 1) (HNL.out e 1 H1.out) w)
      rw [HN2.out] at HT2
      have HFL := hidD (HNL.out e R hR)
      clear hinv hbel hR
      generalize hF2 : F (e + e) 1 = E2 at *
      have HF2 := hidD hF2
      clear hF2
      generalize hF1 : F e 1 = E1 at *
      clear hF1
      cases hb : N.testBit 0
      · rw [hb] at hand HX
        simp only [Bool.toNat_false, Bool.false_eq_true, if_false] at hand HX
        clear hb HT1
        go_wp2_with (go_at_call 62; refine (HT2.out _).mono ?_; rintro e' w4 ⟨rfl, hb2⟩)
        go_roundw
        case rel => exact ⟨N / 2, e + e, R, by omega, by go_num, by rw [HF2.out], rfl, HRR.out, by rw [HX.out]; exact HI.out, Below.next HBL.out hb2⟩
        case measure => simp [intOf]; omega
      · rw [hb] at hand HX
        simp only [Bool.toNat_true, if_true] at hand HX
        clear hb
        generalize hFR : F e R = R2 at *
        have HFR := hidD hFR
        clear hFR
        go_wp2_with (first
          | (go_at_call 62; refine (HT1.out _).mono ?_; rintro e' w4 ⟨rfl, hb2⟩; obtain ⟨p0, p1, p2, p3, p4, p5, p6⟩ := HC.out w4 hb2; simp only at p0 p1 p2 p3 p4 p5 p6; have HB2 := hidD hb2; clear hb2 HT1)
          | (go_at_call 62; refine (HT2.out _).mono ?_; rintro e' w3 ⟨rfl, hb3⟩))
        go_roundw
        case rel => exact ⟨N / 2, e + e, R2, by omega, by go_num, by rw [HF2.out], rfl, HFL.out, by rw [HX.out]; exact HI.out, Below.next HBL.out (Below.next HB2.out hb3)⟩
        case measure => simp [intOf]; omega
    · obtain rfl : N = 0 := by omega
      rw [Nat.mul_zero, HN0.out] at HI
      clear hinv
      go_wp2_with fail
      go_ret
      exact ⟨by show Ending.returned (Value.int .u64 (R : Int)) = _; rw [HI.out], Below.next HBB.out HBL.out⟩

set_option maxRecDepth 100000 in
set_option maxHeartbeats 400000 in
theorem combine_none (m : Mw) (hm : MwOk m) (hv : ¬ m.Valid) (a b n : Nat) (w : World) : Calls Try.prog 37 #[m.v, .int .u64 a, .int .u64 b, .int .u64 n] w fun e w' => e = .returned (.tuple #[.int .u64 0, .int .i64 40]) ∧ Below w.heap.size w w' := by
  have HV := hidD (fun w => valid_any m hm false (by simp [hv]) w)
  clear hv hm
  obtain ⟨nm, W, P, I, inn, out, X⟩ := m
  simp only [Mw.v] at *
  have HB : Hid (∀ o, Below w.heap.size w (w.alloc o)) := fun o => (Below.refl w.heap.size w).alloc (Nat.le_refl _) o
  go_enter Try.func37, Try.ntmps37
  go_wp2_with (go_at_call 25; refine (HV.out _).mono ?_; rintro e w2 ⟨rfl, hb2⟩)
  refine bodyPost_ret (v := .tuple #[.int .u64 0, .int .i64 40]) (by simp [results, Try.results37, go_sem]) rfl ⟨rfl, ?_⟩
  exact (HB.out _).trans (hb2.mono (by simp))

set_option maxRecDepth 100000 in
set_option maxHeartbeats 400000 in
theorem combine_arg (m : Md) (hm : MdOk m) (a b n : Nat) (ha : a < 18446744073709551616) (hb : b < 18446744073709551616) (ho : ¬ (a < 2 ^ m.w ∧ b < 2 ^ m.w)) (w : World) : Calls Try.prog 37 #[m.v, .int .u64 a, .int .u64 b, .int .u64 n] w fun e w' => e = .returned (.tuple #[.int .u64 0, .int .i64 1]) ∧ Below w.heap.size w w' := by
  have HV : Hid (∀ w, Calls Try.prog 25 #[m.v] w fun e w' => e = .returned (.bool true) ∧ Below w.heap.size w w') := fun w => valid_any ⟨m.name, m.w, m.P, m.I, m.inn, m.out, m.X⟩ hm.raw true (by simp [Md.valid m hm]) w
  have HG := hidD (fun w => greatest_any m.w hm.hi w)
  have hp0 := Nat.two_pow_pos m.w
  have HA := hidD (MdAt.new m w 35)
  have HB0 : Hid (Below w.heap.size w (w.alloc (.cells m.cells 35))) := (Below.refl w.heap.size w).alloc (Nat.le_refl _) _
  have HSZ : Hid (w.heap.size < (w.alloc (.cells m.cells 35)).heap.size) := by show _ < _; simp
  by_cases h1 : a < 2 ^ m.w
  · have h2 : ¬ b < 2 ^ m.w := fun h => ho ⟨h1, h⟩
    have c1 : (a : Int) ≤ ((2 ^ m.w - 1 : Nat) : Int) := by omega
    have c2 : ¬ ((b : Int) ≤ ((2 ^ m.w - 1 : Nat) : Int)) := by omega
    clear hp0 hm ho ha hb h1 h2
    obtain ⟨nm, ww, P, I, inn, out, X⟩ := m
    simp only [Md.v, Md.cells] at *
    generalize 2 ^ ww - 1 = G at *
    go_enter Try.func37, Try.ntmps37
    go_wp2_with (first
      | (go_at_call 25; refine (HV.out _).mono ?_; rintro e w2 ⟨rfl, hb2⟩; obtain ⟨k0, k1, k2, k3, k4, k5, k6⟩ := HA.out.below hb2 HSZ.out; have HB2 := hidD (Below.next HB0.out hb2); clear hb2)
      | (go_at_call 51; refine (HG.out _).mono ?_; rintro e w3 ⟨rfl, hb3⟩; have HB3 := hidD (Below.next HB2.out hb3); clear hb3))
    refine bodyPost_ret (v := .tuple #[.int .u64 0, .int .i64 1]) (by simp [results, Try.results37, go_sem]) rfl ⟨rfl, HB3.out⟩
  · have c1 : ¬ ((a : Int) ≤ ((2 ^ m.w - 1 : Nat) : Int)) := by omega
    clear hp0 hm ho ha hb h1
    obtain ⟨nm, ww, P, I, inn, out, X⟩ := m
    simp only [Md.v, Md.cells] at *
    generalize 2 ^ ww - 1 = G at *
    go_enter Try.func37, Try.ntmps37
    go_wp2_with (first
      | (go_at_call 25; refine (HV.out _).mono ?_; rintro e w2 ⟨rfl, hb2⟩; obtain ⟨k0, k1, k2, k3, k4, k5, k6⟩ := HA.out.below hb2 HSZ.out; have HB2 := hidD (Below.next HB0.out hb2); clear hb2)
      | (go_at_call 51; refine (HG.out _).mono ?_; rintro e w3 ⟨rfl, hb3⟩; have HB3 := hidD (Below.next HB2.out hb3); clear hb3))
    refine bodyPost_ret (v := .tuple #[.int .u64 0, .int .i64 1]) (by simp [results, Try.results37, go_sem]) rfl ⟨rfl, HB3.out⟩

set_option maxRecDepth 100000 in
set_option maxHeartbeats 400000 in
theorem refCombine_none (m : Mw) (hm : MwOk m) (hv : ¬ m.Valid) (a b n : Nat) (w : World) : Calls Try.prog 38 #[m.v, .int .u64 a, .int .u64 b, .int .u64 n] w fun e w' => e = .returned (.tuple #[.int .u64 0, .int .i64 40]) ∧ Below w.heap.size w w' := by
  have HV := hidD (fun w => refValid_any m hm false (by simp [hv]) w)
  clear hv hm
  obtain ⟨nm, W, P, I, inn, out, X⟩ := m
  simp only [Mw.v] at *
  have HB : Hid (∀ o, Below w.heap.size w (w.alloc o)) := fun o => (Below.refl w.heap.size w).alloc (Nat.le_refl _) o
  go_enter Try.func38, Try.ntmps38
  go_wp2_with (go_at_call 26; refine (HV.out _).mono ?_; rintro e w2 ⟨rfl, hb2⟩)
  refine bodyPost_ret (v := .tuple #[.int .u64 0, .int .i64 40]) (by simp [results, Try.results38, go_sem]) rfl ⟨rfl, ?_⟩
  exact (HB.out _).trans (hb2.mono (by simp))

set_option maxRecDepth 100000 in
set_option maxHeartbeats 400000 in
theorem refCombine_arg (m : Md) (hm : MdOk m) (a b n : Nat) (ha : a < 18446744073709551616) (hb : b < 18446744073709551616) (ho : ¬ (a < 2 ^ m.w ∧ b < 2 ^ m.w)) (w : World) : Calls Try.prog 38 #[m.v, .int .u64 a, .int .u64 b, .int .u64 n] w fun e w' => e = .returned (.tuple #[.int .u64 0, .int .i64 1]) ∧ Below w.heap.size w w' := by
  have HV : Hid (∀ w, Calls Try.prog 26 #[m.v] w fun e w' => e = .returned (.bool true) ∧ Below w.heap.size w w') := fun w => refValid_any ⟨m.name, m.w, m.P, m.I, m.inn, m.out, m.X⟩ hm.raw true (by simp [Md.valid m hm]) w
  have HG := hidD (fun w => mask_any m.w hm.hi w)
  have e1 := and_mask ha hm.hi
  have e2 := and_mask hb hm.hi
  have HA := hidD (MdAt.new m w 36)
  have HB0 : Hid (Below w.heap.size w (w.alloc (.cells m.cells 36))) := (Below.refl w.heap.size w).alloc (Nat.le_refl _) _
  have HSZ : Hid (w.heap.size < (w.alloc (.cells m.cells 36)).heap.size) := by show _ < _; simp
  by_cases h1 : a < 2 ^ m.w
  · have h2 : ¬ b < 2 ^ m.w := fun h => ho ⟨h1, h⟩
    have c1 : ¬ (((a % 2 ^ m.w : Nat) : Int) ≠ (a : Int)) := by rw [Nat.mod_eq_of_lt h1]; simp
    have c2 : ¬ ((b % 2 ^ m.w : Nat) : Int) = (b : Int) := by have := Nat.mod_lt b (Nat.two_pow_pos m.w); omega
    rw [Nat.mod_eq_of_lt h1] at e1
    clear c1
    generalize b % 2 ^ m.w = b2 at *
    clear hm ho ha hb h1 h2
    obtain ⟨nm, ww, P, I, inn, out, X⟩ := m
    simp only [Md.v, Md.cells] at *
    generalize 2 ^ ww - 1 = G at *
    go_enter Try.func38, Try.ntmps38
    go_wp2_with (first
      | (go_at_call 26; refine (HV.out _).mono ?_; rintro e w2 ⟨rfl, hb2⟩; obtain ⟨k0, k1, k2, k3, k4, k5, k6⟩ := HA.out.below hb2 HSZ.out; have HB2 := hidD (Below.next HB0.out hb2); clear hb2)
      | (go_at_call 52; refine (HG.out _).mono ?_; rintro e w3 ⟨rfl, hb3⟩; have HB3 := hidD (Below.next HB2.out hb3); clear hb3))
    refine bodyPost_ret (v := .tuple #[.int .u64 0, .int .i64 1]) (by simp [results, Try.results38, go_sem]) rfl ⟨rfl, HB3.out⟩
  · have c1 : ¬ ((a % 2 ^ m.w : Nat) : Int) = (a : Int) := by have := Nat.mod_lt a (Nat.two_pow_pos m.w); omega
    clear e2
    generalize a % 2 ^ m.w = a2 at *
    clear hm ho ha hb h1
    obtain ⟨nm, ww, P, I, inn, out, X⟩ := m
    simp only [Md.v, Md.cells] at *
    generalize 2 ^ ww - 1 = G at *
    go_enter Try.func38, Try.ntmps38
    go_wp2_with (first
      | (go_at_call 26; refine (HV.out _).mono ?_; rintro e w2 ⟨rfl, hb2⟩; obtain ⟨k0, k1, k2, k3, k4, k5, k6⟩ := HA.out.below hb2 HSZ.out; have HB2 := hidD (Below.next HB0.out hb2); clear hb2)
      | (go_at_call 52; refine (HG.out _).mono ?_; rintro e w3 ⟨rfl, hb3⟩; have HB3 := hidD (Below.next HB2.out hb3); clear hb3))
    refine bodyPost_ret (v := .tuple #[.int .u64 0, .int .i64 1]) (by simp [results, Try.results38, go_sem]) rfl ⟨rfl, HB3.out⟩
end Go.Proofs.Ytjhaaphgaplhlaa
