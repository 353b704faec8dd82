/- What Register, Told, Valid and Sum of the document answer. -/
import Derived.Test.YtjhaaphgaplhlaaRef
namespace Go.Proofs.Ytjhaaphgaplhlaa
open Go.RowKit
set_option linter.unusedVariables false

set_option maxRecDepth 100000 in
set_option maxHeartbeats 400000 in
theorem register_any (m : Md) (hm : MdOk m) (r : Nat) (hr : r < 2 ^ m.w) (bs : List UInt8) (hl : bs.length ≤ 9223372036854775807) (sl : Value) (w : World) (hs : ByAt w sl bs) : Calls Try.prog 49 #[m.v, .int .u64 r, sl] w fun e w' => e = .returned (.int .u64 (runB m.w m.P r (streamOf m.inn bs) : Nat)) ∧ Below w.heap.size w w' := by
  obtain ⟨a, cap, rfl, hsh⟩ := hs.shape
  have HSH := hidD hsh
  have HST := hidD (fun (r : Nat) (hr : r < 2 ^ m.w) (b : UInt8) (w : World) => step_any m hm r hr b.toNat b.toNat_lt w)
  have HRG : Hid (runB m.w m.P r (streamOf m.inn (bs.take bs.length)) = runB m.w m.P r (streamOf m.inn bs)) := by rw [List.take_length]; exact rfl
  have HTK := hidD (fun k h => reg_take m.w m.P r m.inn bs k h)
  have HRL := hidD (fun l => run_lt hm.P l r hr)
  generalize hRR : runB m.w m.P r (streamOf m.inn bs) = RR at *
  clear hRR
  have HA := hidD (MdAt.new m w 36)
  have HB0 : Hid (Below w.heap.size w (w.alloc (.cells m.cells 36))) := (Below.refl w.heap.size w).alloc (Nat.le_refl _) _
  have HSZ : Hid (w.heap.size < (w.alloc (.cells m.cells 36)).heap.size) := by show _ < _; simp
  clear hm hs hsh hr
  obtain ⟨nm, ww, P, I, inn, out, X⟩ := m
  simp only [Md.v, Md.cells] at *
  go_enter Try.func49, Try.ntmps49
  go_wp2_with fail
  generalize w.alloc _ = w1 at *
  go_loopw [1, 7] (fun rr i wr => ∃ k : Nat, k ≤ bs.length ∧ i = .int .i64 k ∧ rr = .int .u64 ((runB ww P r (streamOf inn (bs.take k)) : Nat) : Int) ∧ Below w1.heap.size w1 wr) (fun _ i _ => bs.length - (intOf i).toNat)
  case atStart => exact ⟨0, Nat.zero_le _, rfl, rfl, Below.refl _ _⟩
  case round =>
    obtain ⟨k, hk, rfl, rfl, hbel⟩ := hrel
    have HBL := hidD hbel
    have HBW := hidD (Below.next HB0.out hbel)
    by_cases hlt : k < bs.length
    · obtain ⟨g, off, rfl, hg, hc⟩ := HSH.out k hlt
      have hcw : ∀ i : BW wr, i.v.cell? ⟨g, off + k, none⟩ = some (.int .u8 ((bs.getD k 0).toNat : Int)) := fun i => by
        rw [(Below.next HBW.out i.below).cell (p := ⟨g, off + k, none⟩) hg]; exact hc
      have hcl : ∀ i : BW wr, MdAt i.v w.heap.size ⟨nm, ww, P, I, inn, out, X⟩ := fun i => (HA.out.below hbel HSZ.out).below i.below (Nat.lt_of_lt_of_le HSZ.out hbel.size)
      have k0 := fun i => (hcl i).c0
      have k1 := fun i => (hcl i).c1
      have k2 := fun i => (hcl i).c2
      have k3 := fun i => (hcl i).c3
      have k4 := fun i => (hcl i).c4
      have k5 := fun i => (hcl i).c5
      have k6 := fun i => (hcl i).c6
      simp only at k0 k1 k2 k3 k4 k5 k6
      have hlti : (k : Int) < bs.length := by omega
      have HCB := hidD (fun w => HST.out (runB ww P r (streamOf inn (bs.take k))) (HRL.out _) (bs.getD k 0) w)
      rw [← HTK.out k hlt] at HCB
      clear hc hbel hk hcl
      generalize hA : runB ww P r (streamOf inn (bs.take k)) = A at *
      generalize hA2 : runB ww P r (streamOf inn (bs.take (k + 1))) = A2 at *
      generalize (bs.getD k 0).toNat = bk at *
      have HA2 := hidD hA2
      clear hA hA2
      generalize bs.length = n at *
      go_wp2_with fail
      refine wp_region_below (by kernel_rfl) (by kernel_rfl) ?_
      repeat (go_big_quiet_step ((go_at_call 53; exact Calls.below_of (HCB.out _))))
      refine wpQuiet_nil ?_
      intro i
      go_wp2_with fail
      go_roundw
      case rel => exact ⟨k + 1, by omega, by go_num, by rw [HA2.out], Below.next HBL.out i.below⟩
      case measure => simp [intOf]; omega
    · obtain rfl : k = bs.length := by omega
      rw [HRG.out]
      clear hbel
      generalize bs.length = n at *
      go_wp2_with fail
      go_ret
      exact ⟨rfl, HBW.out⟩

set_option maxRecDepth 100000 in
set_option maxHeartbeats 400000 in
theorem told_any (m : Md) (hm : MdOk m) (r : Nat) (hr : r < 2 ^ m.w) (w : World) : Calls Try.prog 48 #[m.v, .int .u64 r] w fun e w' => e = .returned (.int .u64 (toldS m r : Nat)) ∧ Below w.heap.size w w' := by
  have hp := pow64 hm.hi
  have HT := hidD (fun w => refTurned_any r m.w (by omega) hm.hi w)
  have hx : bits .xor .u64 (((if m.out then rev r m.w else r : Nat)) : Int) (m.X : Int) = ((toldS m r : Nat) : Int) := u64_xor_nat _ _ (Nat.lt_of_lt_of_le (turn_lt hr) (pow64 hm.hi)) (Nat.lt_of_lt_of_le hm.X (pow64 hm.hi))
  generalize toldS m r = S at *
  have HA := hidD (MdAt.new m w 36)
  have HB0 : Hid (Below w.heap.size w (w.alloc (.cells m.cells 36))) := (Below.refl w.heap.size w).alloc (Nat.le_refl _) _
  have HSZ : Hid (w.heap.size < (w.alloc (.cells m.cells 36)).heap.size) := by show _ < _; simp
  clear hm hr hp
  obtain ⟨nm, ww, P, I, inn, out, X⟩ := m
  simp only [Md.v, Md.cells] at *
  cases out
  · simp only [Bool.false_eq_true, if_false] at hx
    go_enter Try.func48, Try.ntmps48
    go_wp2_with fail
    go_ret
    exact ⟨rfl, HB0.out⟩
  · simp only [if_true] at hx
    generalize rev r ww = R at *
    go_enter Try.func48, Try.ntmps48
    go_wp2_with (go_at_call 43; refine (HT.out _).mono ?_; rintro e w2 ⟨rfl, hb2⟩; obtain ⟨k0, k1, k2, k3, k4, k5, k6⟩ := HA.out.below hb2 HSZ.out)
    go_ret
    exact ⟨rfl, Below.next HB0.out hb2⟩

theorem and_self_iff {v n : Nat} (hv : v < 18446744073709551616) (hn : n ≤ 64) : (bits .and .u64 (v : Int) ((2 ^ n - 1 : Nat) : Int) == (v : Int)) = decide (v < 2 ^ n) := by
  rw [and_mask hv hn]
  by_cases h : v < 2 ^ n
  · rw [Nat.mod_eq_of_lt h, decide_eq_true h]; simp
  · rw [decide_eq_false h, beq_eq_false_iff_ne]
    have := Nat.mod_lt v (Nat.two_pow_pos n)
    omega
set_option maxRecDepth 100000 in
set_option maxHeartbeats 400000 in
theorem refValid_any (m : Mw) (hm : MwOk m) (b : Bool) (hb : (b = true ↔ m.Valid)) (w : World) : Calls Try.prog 26 #[m.v] w fun e w' => e = .returned (.bool b) ∧ Below w.heap.size w w' := by
  obtain ⟨nm, W, P, I, inn, out, X⟩ := m
  obtain ⟨h0, h1, hP, hI, hX⟩ := hm
  simp only [Mw.v] at *
  have HB : Hid (Below w.heap.size w (w.alloc (.cells #[.string nm, .int .i64 W, .int .u64 P, .int .u64 I, .bool inn, .bool out, .int .u64 X] 36))) := (Below.refl w.heap.size w).alloc (Nat.le_refl _) _
  by_cases hlo : W < 3
  · have hbf : b = false := by
      cases b
      · rfl
      · have := hb.1 rfl; have := this.1; simp only at this; omega
    subst hbf
    clear hb
    go_enter Try.func26, Try.ntmps26
    go_wp2_with fail
    go_ret
    exact ⟨rfl, HB.out⟩
  · by_cases hhi : 64 < W
    · have hbf : b = false := by
        cases b
        · rfl
        · have := hb.1 rfl; have := this.2.1; simp only at this; omega
      subst hbf
      clear hb
      go_enter Try.func26, Try.ntmps26
      go_wp2_with fail
      go_ret
      exact ⟨rfl, HB.out⟩
    · obtain ⟨n, rfl⟩ : ∃ n : Nat, W = n := ⟨W.toNat, by omega⟩
      have hn3 : 3 ≤ n := by omega
      have hn : n ≤ 64 := by omega
      have HG := hidD (fun w => mask_any n hn w)
      have a1 := and_self_iff hP hn
      have a2 := and_self_iff hI hn
      have a3 := and_self_iff hX hn
      have HV : Hid (b = (decide (P < 2 ^ n) && (decide (I < 2 ^ n) && decide (X < 2 ^ n)))) := by
        show _ = _
        rw [Bool.eq_iff_iff, hb]
        simp only [Bool.and_eq_true, decide_eq_true_eq]
        constructor
        · rintro ⟨_, _, hq⟩
          have a1 := hq.P; have a2 := hq.I; have a3 := hq.X
          simp only [Mw.md, Int.toNat_natCast] at a1 a2 a3
          exact ⟨a1, a2, a3⟩
        · rintro ⟨a1, a2, a3⟩
          refine ⟨by show (3 : Int) ≤ n; omega, by show (n : Int) ≤ 64; omega, ?_, ?_, ?_, ?_, ?_⟩ <;> simp only [Mw.md, Int.toNat_natCast] <;> assumption
      have HM := hidD (MdAt.new ⟨nm, n, P, I, inn, out, X⟩ w 36)
      simp only [Md.cells] at HM
      have HSZ : Hid (w.heap.size < (w.alloc (.cells #[.string nm, .int .i64 (n : Int), .int .u64 P, .int .u64 I, .bool inn, .bool out, .int .u64 X] 36)).heap.size) := by show _ < _; simp
      clear hb
      generalize 2 ^ n - 1 = G at *
      by_cases hPG : P < 2 ^ n <;> by_cases hIG : I < 2 ^ n
      all_goals
        simp only [hPG, hIG, decide_true, decide_false, Bool.true_and, Bool.false_and] at HV a1 a2
        generalize hc : decide (X < 2 ^ n) = c at *
        clear hc hPG hIG
        go_enter Try.func26, Try.ntmps26
        go_wp2_with (go_at_call 52; refine (HG.out _).mono ?_; rintro e w2 ⟨rfl, hb2⟩; obtain ⟨k0, k1, k2, k3, k4, k5, k6⟩ := HM.out.below hb2 HSZ.out)
        go_ret
        rw [HV.out]
        exact ⟨by simp, HB.out.trans (hb2.mono (Nat.le_of_lt HSZ.out))⟩

set_option maxRecDepth 100000 in
set_option maxHeartbeats 400000 in
theorem refSum_none (m : Mw) (hm : MwOk m) (hv : ¬ m.Valid) (sl : Value) (w : World) : Calls Try.prog 19 #[m.v, sl] w fun e w' => e = .returned (.tuple #[.int .u64 0, .int .i64 40]) ∧ Below w.heap.size w w' := by
  have HV := hidD (fun w => refValid_any m hm false (by simp [hv]) w)
  clear hv hm
  obtain ⟨nm, W, P, I, inn, out, X⟩ := m
  simp only [Mw.v] at *
  have HB : Hid (∀ o, Below w.heap.size w (w.alloc o)) := fun o => (Below.refl w.heap.size w).alloc (Nat.le_refl _) o
  go_enter Try.func19, Try.ntmps19
  go_wp2_with (go_at_call 26; refine (HV.out _).mono ?_; rintro e w2 ⟨rfl, hb2⟩)
  refine bodyPost_ret (v := .tuple #[.int .u64 0, .int .i64 40]) (by simp [results, Try.results19, go_sem]) rfl ⟨rfl, ?_⟩
  exact (HB.out _).trans (hb2.mono (by simp))

set_option maxRecDepth 100000 in
set_option maxHeartbeats 400000 in
theorem refSum_some (m : Md) (hm : MdOk m) (bs : List UInt8) (hl : bs.length ≤ 9223372036854775807) (sl : Value) (w : World) (hs : ByAt w sl bs) : Calls Try.prog 19 #[m.v, sl] w fun e w' => e = .returned (.tuple #[.int .u64 (sumS m bs : Nat), .int .i64 0]) ∧ Below w.heap.size w w' := by
  have HV : Hid (∀ w, Calls Try.prog 26 #[m.v] w fun e w' => e = .returned (.bool true) ∧ Below w.heap.size w w') := fun w => refValid_any ⟨m.name, m.w, m.P, m.I, m.inn, m.out, m.X⟩ hm.raw true (by simp [Md.valid m hm]) w
  have HRG : Hid (∀ w', Below w.heap.size w w' → Calls Try.prog 49 #[m.v, .int .u64 m.I, sl] w' fun e w2 => e = .returned (.int .u64 (regS m bs : Nat)) ∧ Below w'.heap.size w' w2) := fun w' hb => register_any m hm m.I hm.I bs hl sl w' (hs.below hb (Nat.le_refl _))
  have HTD : Hid (∀ w', Calls Try.prog 48 #[m.v, .int .u64 (regS m bs : Nat)] w' fun e w2 => e = .returned (.int .u64 (sumS m bs : Nat)) ∧ Below w'.heap.size w' w2) := fun w' => told_any m hm _ (reg_lt hm bs) w'
  have HA := hidD (MdAt.new m w 36)
  have HB0 : Hid (Below w.heap.size w (w.alloc (.cells m.cells 36))) := (Below.refl w.heap.size w).alloc (Nat.le_refl _) _
  have HSZ : Hid (w.heap.size < (w.alloc (.cells m.cells 36)).heap.size) := by show _ < _; simp
  clear hm hs
  generalize sumS m bs = S at *
  generalize regS m bs = R at *
  obtain ⟨nm, ww, P, I, inn, out, X⟩ := m
  simp only [Md.v, Md.cells] at *
  go_enter Try.func19, Try.ntmps19
  go_wp2_with (go_at_call 26; refine (HV.out _).mono ?_; rintro e w1 ⟨rfl, hb1⟩; have HX1 := hidD (HA.out.below hb1 HSZ.out); have HG1 := hidD (Nat.lt_of_lt_of_le HSZ.out hb1.size); have HB1 := hidD (Below.next HB0.out hb1); clear hb1)
  have hcl : ∀ i : BW w1, MdAt i.v w.heap.size ⟨nm, ww, P, I, inn, out, X⟩ := fun i => HX1.out.below i.below HG1.out
  have k0 := fun i => (hcl i).c0
  have k1 := fun i => (hcl i).c1
  have k2 := fun i => (hcl i).c2
  have k3 := fun i => (hcl i).c3
  have k4 := fun i => (hcl i).c4
  have k5 := fun i => (hcl i).c5
  have k6 := fun i => (hcl i).c6
  simp only at k0 k1 k2 k3 k4 k5 k6
  clear hcl
  refine wp_region_below (by kernel_rfl) (by kernel_rfl) ?_
  repeat (go_big_quiet_step ((first | (go_at_call 49; exact Calls.below_of (HRG.out _ (Below.next HB1.out (BW.below _)))) | (go_at_call 48; exact Calls.below_of (HTD.out _)))))
  refine wpQuiet_nil ?_
  intro i
  go_wp2_with fail
  refine bodyPost_ret (v := .tuple #[.int .u64 S, .int .i64 0]) (by simp [results, Try.results19, go_sem]) rfl ⟨rfl, Below.next HB1.out i.below⟩
end Go.Proofs.Ytjhaaphgaplhlaa
