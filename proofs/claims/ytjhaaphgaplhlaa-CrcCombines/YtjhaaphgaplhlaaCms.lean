/- What Combine of the program and of the document answers of sums; the walk of CrcCombines. -/
import Derived.Test.YtjhaaphgaplhlaaCmb
namespace Go.Proofs.Ytjhaaphgaplhlaa
open Go.RowKit
set_option linter.unusedVariables false

theorem turnS_lt {m : Md} {r : Nat} (hr : r < 2 ^ m.w) : turnS m r < 2 ^ m.w := turn_lt hr
theorem comb_lt {m : Md} (hm : MdOk m) {a b : Nat} (ha : a < 2 ^ m.w) (hb : b < 2 ^ m.w) (n : Nat) : combS m a b n < 2 ^ m.w :=
  xor_lt (turnS_lt (no_lt hm.P _ _ (xor_lt (turnS_lt (xor_lt ha hm.X)) hm.I))) hb

set_option maxRecDepth 100000 in
set_option maxHeartbeats 1000000 in
theorem combine_some (m : Md) (hm : MdOk m) (a b n : Nat) (ha : a < 2 ^ m.w) (hb : b < 2 ^ m.w) (hn : n < 18446744073709551616) (w : World) : Calls Try.prog 37 #[m.v, .int .u64 a, .int .u64 b, .int .u64 n] w fun e w' => e = .returned (.tuple #[.int .u64 (combS m a b n : Nat), .int .i64 0]) ∧ Below w.heap.size w w' := by
  have HV : Hid (∀ w, Calls Try.prog 25 #[m.v] w fun e w' => e = .returned (.bool true) ∧ Below w.heap.size w w') := fun w => valid_any ⟨m.name, m.w, m.P, m.I, m.inn, m.out, m.X⟩ hm.raw true (by simp [Md.valid m hm]) w
  have HG := hidD (fun w => greatest_any m.w hm.hi w)
  have hp := pow64 hm.hi
  have hX := hm.X
  have hI := hm.I
  have hax : a ^^^ m.X < 2 ^ m.w := xor_lt ha hX
  have hti : turnS m (a ^^^ m.X) ^^^ m.I < 2 ^ m.w := xor_lt (turnS_lt hax) hI
  have hno := no_lt hm.P (8 * n) _ hti
  have HT1 : Hid (∀ w, Calls Try.prog 54 #[m.v, .int .u64 (a ^^^ m.X : Nat)] w fun e w' => e = .returned (.int .u64 (turnS m (a ^^^ m.X) : Nat)) ∧ Below w.heap.size w w') := fun w => turnedOut_any m hm _ hax w
  have HNO := hidD (fun w => noughtsIn_any m hm _ hti n hn w)
  have HT2 : Hid (∀ w, Calls Try.prog 54 #[m.v, .int .u64 (noB m.w m.P (8 * n) (turnS m (a ^^^ m.X) ^^^ m.I) : Nat)] w fun e w' => e = .returned (.int .u64 (turnS m (noB m.w m.P (8 * n) (turnS m (a ^^^ m.X) ^^^ m.I)) : Nat)) ∧ Below w.heap.size w w') := fun w => turnedOut_any m hm _ hno w
  have x1 : bits .xor .u64 (a : Int) (m.X : Int) = ((a ^^^ m.X : Nat) : Int) := u64_xor_nat _ _ (by omega) (by omega)
  have x2 : bits .xor .u64 (turnS m (a ^^^ m.X) : Int) (m.I : Int) = ((turnS m (a ^^^ m.X) ^^^ m.I : Nat) : Int) := u64_xor_nat _ _ (Nat.lt_of_lt_of_le (turnS_lt hax) hp) (by omega)
  have x3 : bits .xor .u64 (turnS m (noB m.w m.P (8 * n) (turnS m (a ^^^ m.X) ^^^ m.I)) : Int) (b : Int) = ((combS m a b n : Nat) : Int) := u64_xor_nat _ _ (Nat.lt_of_lt_of_le (turnS_lt hno) hp) (by omega)
  have hp0 := Nat.two_pow_pos m.w
  have c1 : (a : Int) ≤ ((2 ^ m.w - 1 : Nat) : Int) := by omega
  have c2 : (b : Int) ≤ ((2 ^ m.w - 1 : Nat) : Int) := by omega
  have HA := hidD (MdAt.new m w 35)
  have HB0 : Hid (Below w.heap.size w (w.alloc (.cells m.cells 35))) := (Below.refl w.heap.size w).alloc (Nat.le_refl _) _
  have HSZ : Hid (w.heap.size < (w.alloc (.cells m.cells 35)).heap.size) := by show _ < _; simp
  clear hm hp hX hI hax hti hno hp0 ha hb hn
  generalize combS m a b n = CS at *
  generalize turnS m (noB m.w m.P (8 * n) (turnS m (a ^^^ m.X) ^^^ m.I)) = T2 at *
  generalize noB m.w m.P (8 * n) (turnS m (a ^^^ m.X) ^^^ m.I) = NB at *
  generalize turnS m (a ^^^ m.X) ^^^ m.I = TI at *
  generalize turnS m (a ^^^ m.X) = T1 at *
  generalize a ^^^ m.X = AX at *
  generalize 2 ^ m.w - 1 = G at *
  obtain ⟨nm, ww, P, I, inn, out, X⟩ := m
  simp only [Md.v, Md.cells] at *
  go_enter Try.func37, Try.ntmps37
  go_wp2_with (first
    | (go_at_call 25; refine (HV.out _).mono ?_; rintro e w2 ⟨rfl, hb2⟩; obtain ⟨k0, k1, k2, k3, k4, k5, k6⟩ := HA.out.below hb2 HSZ.out; have HX2 := hidD (HA.out.below hb2 HSZ.out); have HG2 := hidD (Nat.lt_of_lt_of_le HSZ.out hb2.size); have HB2 := hidD (Below.next HB0.out hb2); clear hb2)
    | (go_at_call 51; refine (HG.out _).mono ?_; rintro e w3 ⟨rfl, hb3⟩; have HX3 := hidD (HX2.out.below hb3 HG2.out); have HG3 := hidD (Nat.lt_of_lt_of_le HG2.out hb3.size); have HB3 := hidD (Below.next HB2.out hb3); clear hb3 k0 k1 k2 k3 k4 k5 k6))
  have hcl : ∀ i : BW w3, MdAt i.v w.heap.size ⟨nm, ww, P, I, inn, out, X⟩ := fun i => HX3.out.below i.below HG3.out
  have k0 := fun i => (hcl i).c0
  have k1 := fun i => (hcl i).c1
  have k2 := fun i => (hcl i).c2
  have k3 := fun i => (hcl i).c3
  have k4 := fun i => (hcl i).c4
  have k5 := fun i => (hcl i).c5
  have k6 := fun i => (hcl i).c6
  simp only at k0 k1 k2 k3 k4 k5 k6
  clear hcl
  refine wp_region_below (by kernel_rfl) (by kernel_rfl) ?_
  repeat (go_big_quiet_step ((go_at_call 54; exact Calls.below_of (HT1.out _))))
  refine wpQuiet_nil ?_
  intro i
  have hcl : ∀ j : BW i.v, MdAt j.v w.heap.size ⟨nm, ww, P, I, inn, out, X⟩ := fun j => (HX3.out.below i.below HG3.out).below j.below (Nat.lt_of_lt_of_le HG3.out i.below.size)
  have HB4 := hidD (Below.next HB3.out i.below)
  clear k0 k1 k2 k3 k4 k5 k6
  have k0 := fun j => (hcl j).c0
  have k1 := fun j => (hcl j).c1
  have k2 := fun j => (hcl j).c2
  have k3 := fun j => (hcl j).c3
  have k4 := fun j => (hcl j).c4
  have k5 := fun j => (hcl j).c5
  have k6 := fun j => (hcl j).c6
  simp only at k0 k1 k2 k3 k4 k5 k6
  clear hcl
  go_wp2_with fail
  refine wp_region_below (by kernel_rfl) (by kernel_rfl) ?_
  repeat (go_big_quiet_step ((first | (go_at_call 55; exact Calls.below_of (HNO.out _)) | (go_at_call 54; exact Calls.below_of (HT2.out _)))))
  refine wpQuiet_nil ?_
  intro j
  go_wp2_with fail
  refine bodyPost_ret (v := .tuple #[.int .u64 CS, .int .i64 0]) (by simp [results, Try.results37, go_sem]) rfl ⟨rfl, Below.next HB4.out j.below⟩

set_option maxRecDepth 100000 in
set_option maxHeartbeats 1000000 in
theorem refCombine_some (m : Md) (hm : MdOk m) (a b n : Nat) (ha : a < 2 ^ m.w) (hb : b < 2 ^ m.w) (hn : n < 18446744073709551616) (w : World) : Calls Try.prog 38 #[m.v, .int .u64 a, .int .u64 b, .int .u64 n] w fun e w' => e = .returned (.tuple #[.int .u64 (combS m a b n : Nat), .int .i64 0]) ∧ Below w.heap.size w w' := by
  have HV : Hid (∀ w, Calls Try.prog 26 #[m.v] w fun e w' => e = .returned (.bool true) ∧ Below w.heap.size w w') := fun w => refValid_any ⟨m.name, m.w, m.P, m.I, m.inn, m.out, m.X⟩ hm.raw true (by simp [Md.valid m hm]) w
  have HG := hidD (fun w => mask_any m.w hm.hi w)
  have hp := pow64 hm.hi
  have hX := hm.X
  have hI := hm.I
  have hax : a ^^^ m.X < 2 ^ m.w := xor_lt ha hX
  have hti : turnS m (a ^^^ m.X) ^^^ m.I < 2 ^ m.w := xor_lt (turnS_lt hax) hI
  have hno := no_lt hm.P (8 * n) _ hti
  have HT1 := hidD (fun w => refTurned_any (a ^^^ m.X) m.w (by omega) hm.hi w)
  have HNO := hidD (fun w => noughts_any m hm _ hti n hn w)
  have HT2 := hidD (fun w => refTurned_any (noB m.w m.P (8 * n) (turnS m (a ^^^ m.X) ^^^ m.I)) m.w (by omega) hm.hi w)
  have x1 : bits .xor .u64 (a : Int) (m.X : Int) = ((a ^^^ m.X : Nat) : Int) := u64_xor_nat _ _ (by omega) (by omega)
  have x2 : bits .xor .u64 (turnS m (a ^^^ m.X) : Int) (m.I : Int) = ((turnS m (a ^^^ m.X) ^^^ m.I : Nat) : Int) := u64_xor_nat _ _ (Nat.lt_of_lt_of_le (turnS_lt hax) hp) (by omega)
  have x3 : bits .xor .u64 (turnS m (noB m.w m.P (8 * n) (turnS m (a ^^^ m.X) ^^^ m.I)) : Int) (b : Int) = ((combS m a b n : Nat) : Int) := u64_xor_nat _ _ (Nat.lt_of_lt_of_le (turnS_lt hno) hp) (by omega)
  have e1 := and_mask (t := a) (n := m.w) (by omega) hm.hi
  have e2 := and_mask (t := b) (n := m.w) (by omega) hm.hi
  rw [Nat.mod_eq_of_lt ha] at e1
  rw [Nat.mod_eq_of_lt hb] at e2
  have HA := hidD (MdAt.new m w 36)
  have HB0 : Hid (Below w.heap.size w (w.alloc (.cells m.cells 36))) := (Below.refl w.heap.size w).alloc (Nat.le_refl _) _
  have HSZ : Hid (w.heap.size < (w.alloc (.cells m.cells 36)).heap.size) := by show _ < _; simp
  have HTS : Hid (∀ r, turnS m r = if m.out then rev r m.w else r) := fun r => rfl
  clear hm hp hX hI hax hti hno ha hb hn
  generalize combS m a b n = CS at *
  obtain ⟨nm, ww, P, I, inn, out, X⟩ := m
  simp only [Md.v, Md.cells] at *
  cases out
  · have t1 := HTS.out (a ^^^ X)
    simp only [Bool.false_eq_true, if_false] at t1
    rw [t1] at x2 x3 HNO HT2
    have t2 := HTS.out (noB ww P (8 * n) (a ^^^ X ^^^ I))
    simp only [Bool.false_eq_true, if_false] at t2
    rw [t2] at x3
    clear t1 t2 HT1 HT2 HTS
    generalize noB ww P (8 * n) (a ^^^ X ^^^ I) = NB at *
    generalize a ^^^ X ^^^ I = TI at *
    generalize a ^^^ X = AX at *
    generalize 2 ^ ww - 1 = G at *
    go_enter Try.func38, Try.ntmps38
    go_wp2_with (first
      | (go_at_call 26; refine (HV.out _).mono ?_; rintro e w2 ⟨rfl, hb2⟩; obtain ⟨k0, k1, k2, k3, k4, k5, k6⟩ := HA.out.below hb2 HSZ.out; have HX2 := hidD (HA.out.below hb2 HSZ.out); have HG2 := hidD (Nat.lt_of_lt_of_le HSZ.out hb2.size); have HB2 := hidD (Below.next HB0.out hb2); clear hb2)
      | (go_at_call 52; refine (HG.out _).mono ?_; rintro e w3 ⟨rfl, hb3⟩; obtain ⟨q0, q1, q2, q3, q4, q5, q6⟩ := HX2.out.below hb3 HG2.out; have HX3 := hidD (HX2.out.below hb3 HG2.out); have HG3 := hidD (Nat.lt_of_lt_of_le HG2.out hb3.size); have HB3 := hidD (Below.next HB2.out hb3); clear hb3)
      | (go_at_call 56; refine (HNO.out _).mono ?_; rintro e w4 ⟨rfl, hb4⟩; obtain ⟨p0, p1, p2, p3, p4, p5, p6⟩ := HX3.out.below hb4 HG3.out; have HB4 := hidD (Below.next HB3.out hb4); clear hb4))
    refine bodyPost_ret (v := .tuple #[.int .u64 CS, .int .i64 0]) (by simp [results, Try.results38, go_sem]) rfl ⟨rfl, HB4.out⟩
  · have t1 := HTS.out (a ^^^ X)
    simp only [if_true] at t1
    have t2 := HTS.out (noB ww P (8 * n) (turnS ⟨nm, ww, P, I, inn, true, X⟩ (a ^^^ X) ^^^ I))
    simp only [if_true] at t2
    rw [← t1] at HT1
    rw [← t2] at HT2
    clear t1 t2 HTS
    generalize turnS ⟨nm, ww, P, I, inn, true, X⟩ (noB ww P (8 * n) (turnS ⟨nm, ww, P, I, inn, true, X⟩ (a ^^^ X) ^^^ I)) = T2 at *
    generalize noB ww P (8 * n) (turnS ⟨nm, ww, P, I, inn, true, X⟩ (a ^^^ X) ^^^ I) = NB at *
    generalize turnS ⟨nm, ww, P, I, inn, true, X⟩ (a ^^^ X) ^^^ I = TI at *
    generalize turnS ⟨nm, ww, P, I, inn, true, X⟩ (a ^^^ X) = T1 at *
    generalize a ^^^ X = AX at *
    generalize 2 ^ ww - 1 = G at *
    go_enter Try.func38, Try.ntmps38
    go_wp2_with (first
      | (go_at_call 26; refine (HV.out _).mono ?_; rintro e w2 ⟨rfl, hb2⟩; obtain ⟨k0, k1, k2, k3, k4, k5, k6⟩ := HA.out.below hb2 HSZ.out; have HX2 := hidD (HA.out.below hb2 HSZ.out); have HG2 := hidD (Nat.lt_of_lt_of_le HSZ.out hb2.size); have HB2 := hidD (Below.next HB0.out hb2); clear hb2)
      | (go_at_call 52; refine (HG.out _).mono ?_; rintro e w3 ⟨rfl, hb3⟩; obtain ⟨q0, q1, q2, q3, q4, q5, q6⟩ := HX2.out.below hb3 HG2.out; have HX3 := hidD (HX2.out.below hb3 HG2.out); have HG3 := hidD (Nat.lt_of_lt_of_le HG2.out hb3.size); have HB3 := hidD (Below.next HB2.out hb3); clear hb3)
      | (go_at_call 43; refine (HT1.out _).mono ?_; rintro e w5 ⟨rfl, hb5⟩; obtain ⟨r0, r1, r2, r3, r4, r5, r6⟩ := HX3.out.below hb5 HG3.out; have HX5 := hidD (HX3.out.below hb5 HG3.out); have HG5 := hidD (Nat.lt_of_lt_of_le HG3.out hb5.size); have HB5 := hidD (Below.next HB3.out hb5); clear hb5 HT1)
      | (go_at_call 56; refine (HNO.out _).mono ?_; rintro e w4 ⟨rfl, hb4⟩; obtain ⟨p0, p1, p2, p3, p4, p5, p6⟩ := HX5.out.below hb4 HG5.out; have HB4 := hidD (Below.next HB5.out hb4); clear hb4)
      | (go_at_call 43; refine (HT2.out _).mono ?_; rintro e w6 ⟨rfl, hb6⟩; have HB6 := hidD (Below.next HB4.out hb6); clear hb6))
    refine bodyPost_ret (v := .tuple #[.int .u64 CS, .int .i64 0]) (by simp [results, Try.results38, go_sem]) rfl ⟨rfl, HB6.out⟩

set_option maxRecDepth 100000 in
set_option maxHeartbeats 1000000 in
theorem combines_of (m : Mw) (hm : MwOk m) (a b n : Nat) (S : Nat) (z : Int)
    (h1 : ∀ w, Calls Try.prog 37 #[m.v, .int .u64 a, .int .u64 b, .int .u64 n] w fun e w' => e = .returned (.tuple #[.int .u64 S, .int .i64 z]) ∧ Below w.heap.size w w')
    (h2 : ∀ w, Calls Try.prog 38 #[m.v, .int .u64 a, .int .u64 b, .int .u64 n] w fun e w' => e = .returned (.tuple #[.int .u64 S, .int .i64 z]) ∧ Below w.heap.size w w') (w : World) :
    Calls Try.prog 5 #[m.v, .int .u64 a, .int .u64 b, .int .u64 n] w fun e w' => e = .returned (.bool true) ∧ Below w.heap.size w w' := by
  have HL := hidD live_any
  have HM := hidD (fun w => mine_any m w)
  have HT := hidD (fun w => theirs_any m w)
  have HN := hidD no_any
  have H1 := hidD h1
  have H2 := hidD h2
  have HM0 := hidD (MwAt.new m w 46)
  have HSZ : Hid (w.heap.size < (w.alloc (.cells m.cells 46)).heap.size) := by show _ < _; simp
  have HB0 : Hid (Below w.heap.size w (w.alloc (.cells m.cells 46))) := (Below.refl _ _).alloc (Nat.le_refl _) _
  clear hm h1 h2
  obtain ⟨nm, W, P, I, inn, out, X⟩ := m
  simp only [Mw.v, Mw.cells] at *
  go_enter Try.func5, Try.ntmps5
  go_wp2_with (first
    | (go_at_call 22; refine (HM.out _).mono ?_; rintro e w1 ⟨rfl, hb1⟩; have HX1 := hidD (HM0.out.below hb1 HSZ.out); have HG1 := hidD (Nat.lt_of_lt_of_le HSZ.out hb1.size); have HB1 := hidD (Below.next HB0.out hb1); clear hb1)
    | (go_at_call 37; refine (H1.out _).mono ?_; rintro e w2 ⟨rfl, hb2⟩; obtain ⟨k0, k1, k2, k3, k4, k5, k6⟩ := HX1.out.below hb2 HG1.out; have HB2 := hidD (Below.next HB1.out hb2); clear hb2)
    | (go_at_call 23; refine (HT.out _).mono ?_; rintro e w3 ⟨rfl, hb3⟩; have HB3 := hidD (Below.next HB2.out hb3); clear hb3)
    | (go_at_call 38; refine (H2.out _).mono ?_; rintro e w4 ⟨rfl, hb4⟩; have HB4 := hidD (Below.next HB3.out hb4); clear hb4)
    | (go_at_call 27; refine (HN.out _ _).mono ?_; rintro e w5 ⟨rfl, hb5⟩; have HB5 := hidD (Below.next HB4.out hb5); clear hb5)
    | (go_at_call 13; refine (HL.out _).mono ?_; rintro e w6 ⟨rfl, hb6⟩; have HB6 := hidD (Below.next HB5.out hb6); clear hb6))
  go_ret
  exact ⟨rfl, HB6.out⟩

theorem combines_any (m : Mw) (hm : MwOk m) (a b n : Nat) (ha : a < 18446744073709551616) (hb : b < 18446744073709551616) (hn : n < 18446744073709551616) (w : World) :
    Calls Try.prog 5 #[m.v, .int .u64 a, .int .u64 b, .int .u64 n] w fun e w' => e = .returned (.bool true) ∧ Below w.heap.size w w' := by
  by_cases hv : m.Valid
  · by_cases ho : a < 2 ^ m.md.w ∧ b < 2 ^ m.md.w
    · exact combines_of m hm a b n (combS m.md a b n) 0 (fun w => by rw [hv.v]; exact combine_some m.md hv.2.2 a b n ho.1 ho.2 hn w) (fun w => by rw [hv.v]; exact refCombine_some m.md hv.2.2 a b n ho.1 ho.2 hn w) w
    · exact combines_of m hm a b n 0 1 (fun w => by rw [hv.v]; exact combine_arg m.md hv.2.2 a b n ha hb ho w) (fun w => by rw [hv.v]; exact refCombine_arg m.md hv.2.2 a b n ha hb ho w) w
  · exact combines_of m hm a b n 0 40 (fun w => combine_none m hm hv a b n w) (fun w => refCombine_none m hm hv a b n w) w
end Go.Proofs.Ytjhaaphgaplhlaa
