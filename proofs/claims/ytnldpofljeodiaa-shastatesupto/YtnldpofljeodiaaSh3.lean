/- What fraction, leastFactor and Is answer. -/
import Derived.Test.YtnldpofljeodiaaSh2
namespace Go.Proofs.Ytnldpofljeodiaa
open Go.RowKit
set_option linter.unusedVariables false

/- the whole part of the root, and its fraction bit by bit -/
def whGo (p k : Nat) : Nat → Nat → Nat
  | 0, x => x
  | m + 1, x => if wpS (x + 1) 0 k < p then whGo p k m (x + 1) else x
def whS (p k : Nat) : Nat := whGo p k 22 0
def ptS (p k x : Nat) : Nat → Nat
  | 0 => 0
  | i + 1 => if wpS x (ptS p k x i ||| 2 ^ (63 - i)) k < p then ptS p k x i ||| 2 ^ (63 - i) else ptS p k x i
theorem ptS_lt (p k x : Nat) : ∀ i, ptS p k x i < 18446744073709551616
  | 0 => by unfold ptS; omega
  | i + 1 => by
    unfold ptS
    split
    · exact Nat.or_lt_two_pow (n := 64) (ptS_lt p k x i) (Nat.pow_lt_pow_right (by omega) (by omega))
    · exact ptS_lt p k x i
def frS (p k width : Nat) : Nat := ptS p k (whS p k) width
theorem frS_lt (p k width : Nat) : frS p k width < 18446744073709551616 := ptS_lt _ _ _ _
theorem wp_end2 : wpS 23 0 2 = 529 := by decide +kernel
theorem wp_end3 : wpS 23 0 3 = 12167 := by decide +kernel

set_option maxRecDepth 100000 in
set_option maxHeartbeats 1600000 in
theorem fraction2_any (p width : Nat) (hp : p < 410) (hw : width ≤ 64) (w : World) : Calls Try.prog 71 #[.int .u32 (p : Int), .int .i64 2, .int .i64 (width : Int)] w fun e w' => e = .returned (.int .u64 (frS p 2 width : Int)) ∧ Below w.heap.size w w' := by
  have HP : Hid (∀ x f : Nat, x < 18446744073709551616 → f < 18446744073709551616 → ∀ w, Calls Try.prog 81 #[.int .u64 (x : Int), .int .u64 (f : Int), .int .i64 2] w fun e w' => e = .returned (.int .u64 (wpS x f 2 : Int)) ∧ Below w.heap.size w w') := fun x f hx hf w => power2_any x f hx hf w
  have HP0 : Hid (∀ x : Nat, x < 18446744073709551616 → ∀ w, Calls Try.prog 81 #[.int .u64 (x : Int), .int .u64 0, .int .i64 2] w fun e w' => e = .returned (.int .u64 (wpS x 0 2 : Int)) ∧ Below w.heap.size w w') := fun x hx w => power2_any x 0 hx (by omega) w
  have hfr : frS p 2 width = ptS p 2 (whS p 2) width := rfl
  have HFR := hidD hfr
  have hwh : whGo p 2 22 0 = whS p 2 := rfl
  generalize whS p 2 = WH at *
  have HWH := hidD hwh
  generalize frS p 2 width = FR at *
  clear hfr hwh
  go_enter Try.func71, Try.ntmps71
  go_wp2_with fail
  go_loopw [7] (fun v wr => ∃ m x : Nat, m + x = 22 ∧ v = .int .u64 (x : Int) ∧ whGo p 2 m x = WH ∧ Below w.heap.size w wr) (fun v _ => 30 - (intOf v).toNat)
  case atStart => exact ⟨22, 0, rfl, rfl, HWH.out, Below.refl _ _⟩
  case round =>
    obtain ⟨m, x, hmx, rfl, hgo, hbel⟩ := hrel
    have HBL := hidD hbel
    have HGO := hidD hgo
    clear hgo hbel
    have HMX := hidD hmx
    have hx22 : x ≤ 22 := by omega
    clear hmx
    obtain ⟨y, hy⟩ : ∃ y, x + 1 = y := ⟨_, rfl⟩
    have hx1 : (x : Int) + 1 = (y : Int) := by omega
    have hy23 : y ≤ 23 := by omega
    have HY := hidD hy
    have HX2 : Hid (y < 18446744073709551616) := by show _ < _; omega
    have HPX := hidD (HP0.out y HX2.out)
    have HSTEP : Hid (∀ m', m = m' + 1 → (wpS y 0 2 < p → whGo p 2 m' y = WH) ∧ (¬ wpS y 0 2 < p → x = WH)) := fun m' hm => by
      have h := HGO.out
      subst hm; subst hy
      unfold whGo at h
      constructor
      · intro h1; rw [if_pos h1] at h; exact h
      · intro h1; rw [if_neg h1] at h; exact h
    have HZ : Hid (m = 0 → x = WH ∧ ¬ wpS y 0 2 < p) := fun hm => by
      have h := HGO.out
      have hx := HMX.out
      subst hm
      unfold whGo at h
      refine ⟨h, ?_⟩
      rw [show y = 23 by omega, wp_end2]; omega
    clear hy
    by_cases hlt : wpS y 0 2 < p
    · have hlti : (wpS y 0 2 : Int) < (p : Int) := by omega
      have HLT := hidD hlt
      clear hlt
      generalize wpS y 0 2 = P1 at *
      go_wp2_with (go_at_call 81; refine (HPX.out _).mono ?_; rintro e w1 ⟨rfl, hb⟩; have HB1 : Hid (Below w.heap.size w w1) := Below.next HBL.out hb; clear hb)
      go_roundw
      case rel =>
        cases m with
        | zero => exact absurd HLT.out (HZ.out rfl).2
        | succ m' => exact ⟨m', y, by have := HMX.out; have := HY.out; omega, rfl, (HSTEP.out m' rfl).1 HLT.out, HB1.out⟩
      case measure => simp [intOf]; omega
    · have hlti : ¬ (wpS y 0 2 : Int) < (p : Int) := by omega
      have HXW : Hid (x = WH) := by
        cases m with
        | zero => exact (HZ.out rfl).1
        | succ m' => exact (HSTEP.out m' rfl).2 hlt
      clear hlt
      generalize wpS y 0 2 = P1 at *
      clear HZ HSTEP
      obtain ⟨wl, hwl⟩ : ∃ wl : World, wl = wr := ⟨_, rfl⟩
      subst hwl
      go_wp2_with (go_at_call 81; refine (HPX.out _).mono ?_; rintro e w1 ⟨rfl, hb⟩; have HB1 : Hid (Below w.heap.size w w1) := Below.next HBL.out hb; clear hb)
      rw [show decide (P1 < p) = false from decide_eq_false (by omega)]
      clear HPX HP0 HBL HGO
      go_loopw [8, 21] (fun pv iv wr => ∃ i : Nat, i ≤ width ∧ iv = .int .i64 (i : Int) ∧ pv = .int .u64 (ptS p 2 x i : Int) ∧ Below w.heap.size w wr) (fun _ iv _ => width - (intOf iv).toNat)
      case atStart => exact ⟨0, Nat.zero_le _, rfl, rfl, HB1.out⟩
      case round =>
        clear HB1
        obtain ⟨i, hi, rfl, rfl, hbel⟩ := hrel
        have HBL := hidD hbel
        clear hbel
        by_cases hiw : i < width
        · have hiwi : (i : Int) < (width : Int) := by omega
          have hs : (63 : Int) - (i : Int) = ((63 - i : Nat) : Int) := by omega
          have hsl : 63 - i ≤ 63 := by omega
          have hsh : IntKind.u64.wrap (2 ^ (63 - i)) = ((2 ^ (63 - i) : Nat) : Int) := by
            have : 2 ^ (63 - i) < 18446744073709551616 := Nat.pow_lt_pow_right (m := 63 - i) (n := 64) (by omega) (by omega)
            rw [show (2 : Int) ^ (63 - i) = ((2 ^ (63 - i) : Nat) : Int) by simp, IntKind.wrap_u64]
            generalize 2 ^ (63 - i) = N at this ⊢
            omega
          have hor : bits .or .u64 (ptS p 2 x i : Int) (2 ^ (63 - i)) = ((ptS p 2 x i ||| 2 ^ (63 - i) : Nat) : Int) := by
            rw [show (2 : Int) ^ (63 - i) = ((2 ^ (63 - i) : Nat) : Int) by simp]
            exact u64_or_nat _ _ (ptS_lt _ _ _ _) (Nat.pow_lt_pow_right (m := 63 - i) (n := 64) (by omega) (by omega))
          have HTL : Hid (ptS p 2 x i ||| 2 ^ (63 - i) < 18446744073709551616) := Nat.or_lt_two_pow (n := 64) (ptS_lt p 2 x i) (Nat.pow_lt_pow_right (by omega) (by omega))
          have HXL : Hid (x < 18446744073709551616) := by show _ < _; omega
          have HPT := hidD (HP.out x _ HXL.out HTL.out)
          have HNX : Hid (ptS p 2 x (i + 1) = if wpS x (ptS p 2 x i ||| 2 ^ (63 - i)) 2 < p then ptS p 2 x i ||| 2 ^ (63 - i) else ptS p 2 x i) := rfl
          generalize hT : ptS p 2 x i ||| 2 ^ (63 - i) = T at *
          clear hT
          generalize hP0 : ptS p 2 x i = P0 at *
          clear hP0
          generalize 63 - i = n63 at *
          by_cases hw2 : wpS x T 2 < p
          · have hw2i : (wpS x T 2 : Int) < (p : Int) := by omega
            have HN2 : Hid (ptS p 2 x (i + 1) = T) := by show _ = _; rw [HNX.out, if_pos hw2]
            clear hw2
            generalize wpS x T 2 = P2 at *
            go_wp2_with (go_at_call 81; refine (HPT.out _).mono ?_; rintro e w2 ⟨rfl, hb⟩; have HB2 : Hid (Below w.heap.size w w2) := Below.next HBL.out hb; clear hb)
            go_roundw
            case rel =>
              first
              | exact ⟨i + 1, by omega, by go_num, by rw [HN2.out], HB2.out⟩
              | ((repeat apply Exists.intro); refine And.intro ?_ rfl; exact ⟨i + 1, by omega, by go_num, by rw [HN2.out], HB2.out⟩)
            case measure => simp [intOf]; omega
          · have hw2i : ¬ (wpS x T 2 : Int) < (p : Int) := by omega
            have HN2 : Hid (ptS p 2 x (i + 1) = P0) := by show _ = _; rw [HNX.out, if_neg hw2]
            clear hw2
            generalize wpS x T 2 = P2 at *
            go_wp2_with (go_at_call 81; refine (HPT.out _).mono ?_; rintro e w2 ⟨rfl, hb⟩; have HB2 : Hid (Below w.heap.size w w2) := Below.next HBL.out hb; clear hb)
            go_roundw
            case rel =>
              first
              | exact ⟨i + 1, by omega, by go_num, by rw [HN2.out], HB2.out⟩
              | ((repeat apply Exists.intro); refine And.intro ?_ rfl; exact ⟨i + 1, by omega, by go_num, by rw [HN2.out], HB2.out⟩)
            case measure => simp [intOf]; omega
        · obtain rfl : i = width := by omega
          have hiwi : ¬ (i : Int) < (i : Int) := by omega
          have HRES : Hid (ptS p 2 x i = FR) := by show _ = _; rw [HFR.out, HXW.out]
          generalize ptS p 2 x i = P0 at *
          go_wp2_with fail
          go_ret
          exact ⟨by rw [← HRES.out]; rfl, HBL.out⟩

set_option maxRecDepth 100000 in
set_option maxHeartbeats 1600000 in
theorem fraction3_any (p width : Nat) (hp : p < 410) (hw : width ≤ 64) (w : World) : Calls Try.prog 71 #[.int .u32 (p : Int), .int .i64 3, .int .i64 (width : Int)] w fun e w' => e = .returned (.int .u64 (frS p 3 width : Int)) ∧ Below w.heap.size w w' := by
  have HP : Hid (∀ x f : Nat, x < 18446744073709551616 → f < 18446744073709551616 → ∀ w, Calls Try.prog 81 #[.int .u64 (x : Int), .int .u64 (f : Int), .int .i64 3] w fun e w' => e = .returned (.int .u64 (wpS x f 3 : Int)) ∧ Below w.heap.size w w') := fun x f hx hf w => power3_any x f hx hf w
  have HP0 : Hid (∀ x : Nat, x < 18446744073709551616 → ∀ w, Calls Try.prog 81 #[.int .u64 (x : Int), .int .u64 0, .int .i64 3] w fun e w' => e = .returned (.int .u64 (wpS x 0 3 : Int)) ∧ Below w.heap.size w w') := fun x hx w => power3_any x 0 hx (by omega) w
  have hfr : frS p 3 width = ptS p 3 (whS p 3) width := rfl
  have HFR := hidD hfr
  have hwh : whGo p 3 22 0 = whS p 3 := rfl
  generalize whS p 3 = WH at *
  have HWH := hidD hwh
  generalize frS p 3 width = FR at *
  clear hfr hwh
  go_enter Try.func71, Try.ntmps71
  go_wp2_with fail
  go_loopw [7] (fun v wr => ∃ m x : Nat, m + x = 22 ∧ v = .int .u64 (x : Int) ∧ whGo p 3 m x = WH ∧ Below w.heap.size w wr) (fun v _ => 30 - (intOf v).toNat)
  case atStart => exact ⟨22, 0, rfl, rfl, HWH.out, Below.refl _ _⟩
  case round =>
    obtain ⟨m, x, hmx, rfl, hgo, hbel⟩ := hrel
    have HBL := hidD hbel
    have HGO := hidD hgo
    clear hgo hbel
    have HMX := hidD hmx
    have hx22 : x ≤ 22 := by omega
    clear hmx
    obtain ⟨y, hy⟩ : ∃ y, x + 1 = y := ⟨_, rfl⟩
    have hx1 : (x : Int) + 1 = (y : Int) := by omega
    have hy23 : y ≤ 23 := by omega
    have HY := hidD hy
    have HX2 : Hid (y < 18446744073709551616) := by show _ < _; omega
    have HPX := hidD (HP0.out y HX2.out)
    have HSTEP : Hid (∀ m', m = m' + 1 → (wpS y 0 3 < p → whGo p 3 m' y = WH) ∧ (¬ wpS y 0 3 < p → x = WH)) := fun m' hm => by
      have h := HGO.out
      subst hm; subst hy
      unfold whGo at h
      constructor
      · intro h1; rw [if_pos h1] at h; exact h
      · intro h1; rw [if_neg h1] at h; exact h
    have HZ : Hid (m = 0 → x = WH ∧ ¬ wpS y 0 3 < p) := fun hm => by
      have h := HGO.out
      have hx := HMX.out
      subst hm
      unfold whGo at h
      refine ⟨h, ?_⟩
      rw [show y = 23 by omega, wp_end3]; omega
    clear hy
    by_cases hlt : wpS y 0 3 < p
    · have hlti : (wpS y 0 3 : Int) < (p : Int) := by omega
      have HLT := hidD hlt
      clear hlt
      generalize wpS y 0 3 = P1 at *
      go_wp2_with (go_at_call 81; refine (HPX.out _).mono ?_; rintro e w1 ⟨rfl, hb⟩; have HB1 : Hid (Below w.heap.size w w1) := Below.next HBL.out hb; clear hb)
      go_roundw
      case rel =>
        cases m with
        | zero => exact absurd HLT.out (HZ.out rfl).2
        | succ m' => exact ⟨m', y, by have := HMX.out; have := HY.out; omega, rfl, (HSTEP.out m' rfl).1 HLT.out, HB1.out⟩
      case measure => simp [intOf]; omega
    · have hlti : ¬ (wpS y 0 3 : Int) < (p : Int) := by omega
      have HXW : Hid (x = WH) := by
        cases m with
        | zero => exact (HZ.out rfl).1
        | succ m' => exact (HSTEP.out m' rfl).2 hlt
      clear hlt
      generalize wpS y 0 3 = P1 at *
      clear HZ HSTEP
      obtain ⟨wl, hwl⟩ : ∃ wl : World, wl = wr := ⟨_, rfl⟩
      subst hwl
      go_wp2_with (go_at_call 81; refine (HPX.out _).mono ?_; rintro e w1 ⟨rfl, hb⟩; have HB1 : Hid (Below w.heap.size w w1) := Below.next HBL.out hb; clear hb)
      rw [show decide (P1 < p) = false from decide_eq_false (by omega)]
      clear HPX HP0 HBL HGO
      go_loopw [8, 21] (fun pv iv wr => ∃ i : Nat, i ≤ width ∧ iv = .int .i64 (i : Int) ∧ pv = .int .u64 (ptS p 3 x i : Int) ∧ Below w.heap.size w wr) (fun _ iv _ => width - (intOf iv).toNat)
      case atStart => exact ⟨0, Nat.zero_le _, rfl, rfl, HB1.out⟩
      case round =>
        clear HB1
        obtain ⟨i, hi, rfl, rfl, hbel⟩ := hrel
        have HBL := hidD hbel
        clear hbel
        by_cases hiw : i < width
        · have hiwi : (i : Int) < (width : Int) := by omega
          have hs : (63 : Int) - (i : Int) = ((63 - i : Nat) : Int) := by omega
          have hsl : 63 - i ≤ 63 := by omega
          have hsh : IntKind.u64.wrap (2 ^ (63 - i)) = ((2 ^ (63 - i) : Nat) : Int) := by
            have : 2 ^ (63 - i) < 18446744073709551616 := Nat.pow_lt_pow_right (m := 63 - i) (n := 64) (by omega) (by omega)
            rw [show (2 : Int) ^ (63 - i) = ((2 ^ (63 - i) : Nat) : Int) by simp, IntKind.wrap_u64]
            generalize 2 ^ (63 - i) = N at this ⊢
            omega
          have hor : bits .or .u64 (ptS p 3 x i : Int) (2 ^ (63 - i)) = ((ptS p 3 x i ||| 2 ^ (63 - i) : Nat) : Int) := by
            rw [show (2 : Int) ^ (63 - i) = ((2 ^ (63 - i) : Nat) : Int) by simp]
            exact u64_or_nat _ _ (ptS_lt _ _ _ _) (Nat.pow_lt_pow_right (m := 63 - i) (n := 64) (by omega) (by omega))
          have HTL : Hid (ptS p 3 x i ||| 2 ^ (63 - i) < 18446744073709551616) := Nat.or_lt_two_pow (n := 64) (ptS_lt p 3 x i) (Nat.pow_lt_pow_right (by omega) (by omega))
          have HXL : Hid (x < 18446744073709551616) := by show _ < _; omega
          have HPT := hidD (HP.out x _ HXL.out HTL.out)
          have HNX : Hid (ptS p 3 x (i + 1) = if wpS x (ptS p 3 x i ||| 2 ^ (63 - i)) 3 < p then ptS p 3 x i ||| 2 ^ (63 - i) else ptS p 3 x i) := rfl
          generalize hT : ptS p 3 x i ||| 2 ^ (63 - i) = T at *
          clear hT
          generalize hP0 : ptS p 3 x i = P0 at *
          clear hP0
          generalize 63 - i = n63 at *
          by_cases hw2 : wpS x T 3 < p
          · have hw2i : (wpS x T 3 : Int) < (p : Int) := by omega
            have HN2 : Hid (ptS p 3 x (i + 1) = T) := by show _ = _; rw [HNX.out, if_pos hw2]
            clear hw2
            generalize wpS x T 3 = P2 at *
            go_wp2_with (go_at_call 81; refine (HPT.out _).mono ?_; rintro e w2 ⟨rfl, hb⟩; have HB2 : Hid (Below w.heap.size w w2) := Below.next HBL.out hb; clear hb)
            go_roundw
            case rel =>
              first
              | exact ⟨i + 1, by omega, by go_num, by rw [HN2.out], HB2.out⟩
              | ((repeat apply Exists.intro); refine And.intro ?_ rfl; exact ⟨i + 1, by omega, by go_num, by rw [HN2.out], HB2.out⟩)
            case measure => simp [intOf]; omega
          · have hw2i : ¬ (wpS x T 3 : Int) < (p : Int) := by omega
            have HN2 : Hid (ptS p 3 x (i + 1) = P0) := by show _ = _; rw [HNX.out, if_neg hw2]
            clear hw2
            generalize wpS x T 3 = P2 at *
            go_wp2_with (go_at_call 81; refine (HPT.out _).mono ?_; rintro e w2 ⟨rfl, hb⟩; have HB2 : Hid (Below w.heap.size w w2) := Below.next HBL.out hb; clear hb)
            go_roundw
            case rel =>
              first
              | exact ⟨i + 1, by omega, by go_num, by rw [HN2.out], HB2.out⟩
              | ((repeat apply Exists.intro); refine And.intro ?_ rfl; exact ⟨i + 1, by omega, by go_num, by rw [HN2.out], HB2.out⟩)
            case measure => simp [intOf]; omega
        · obtain rfl : i = width := by omega
          have hiwi : ¬ (i : Int) < (i : Int) := by omega
          have HRES : Hid (ptS p 3 x i = FR) := by show _ = _; rw [HFR.out, HXW.out]
          generalize ptS p 3 x i = P0 at *
          go_wp2_with fail
          go_ret
          exact ⟨by rw [← HRES.out]; rfl, HBL.out⟩

/- the least divisor, as the program seeks it -/
def lfGo (n : Nat) : Nat → Nat → Nat
  | 0, d => n
  | m + 1, d => if d ≤ n / d then (if n % d = 0 then d else lfGo n m (d + 1)) else n
def lfS (n : Nat) : Nat := lfGo n 64 2
def isS (n : Nat) : Bool := decide (1 < n) && decide (lfS n = n)
set_option maxRecDepth 100000 in
set_option maxHeartbeats 1600000 in
theorem least_any (n : Nat) (hn : n < 4096) (w : World) : Calls Try.prog 80 #[.int .u32 (n : Int)] w fun e w' => e = .returned (.int .u32 (lfS n : Int)) ∧ w' = w := by
  have HLF : Hid (lfGo n 64 2 = lfS n) := rfl
  generalize lfS n = L at *
  go_enter Try.func80, Try.ntmps80
  go_wp2_with fail
  go_loopw [3] (fun v wr => ∃ m d : Nat, m + d = 66 ∧ 2 ≤ d ∧ v = .int .u32 (d : Int) ∧ lfGo n m d = L ∧ wr = w) (fun v _ => 70 - (intOf v).toNat)
  case atStart => exact ⟨64, 2, rfl, by omega, rfl, HLF.out, rfl⟩
  case round =>
    obtain ⟨m, d, hmd, hd2, rfl, hgo, hwr⟩ := hrel
    subst hwr
    have HGO := hidD hgo
    have HMD := hidD hmd
    have hd66 : d ≤ 66 := by omega
    clear hgo hmd
    have hdz : (d : Int) ≠ 0 := by omega
    have hnd : n / d < 4096 := Nat.lt_of_le_of_lt (Nat.div_le_self _ _) hn
    have hnr : n % d < 4096 := Nat.lt_of_le_of_lt (Nat.mod_le _ _) hn
    have hndm : ((n / d : Nat) : Int) % 4294967296 = ((n / d : Nat) : Int) := by
      generalize n / d = q at hnd
      omega
    have hq : (n : Int) / (d : Int) = ((n / d : Nat) : Int) := by simp
    have hr : (n : Int) % (d : Int) = ((n % d : Nat) : Int) := by simp
    have HQ4 : Hid (m = 0 → ¬ d ≤ n / d) := fun hm => by
      have := HMD.out
      rw [show d = 66 by omega]; omega
    by_cases hle : d ≤ n / d
    · have hlei : (d : Int) ≤ ((n / d : Nat) : Int) := by omega
      have HLE := hidD hle
      clear hle
      obtain ⟨m', hm'⟩ : ∃ m', m = m' + 1 := by
        cases m with
        | zero => exact absurd HLE.out (HQ4.out rfl)
        | succ m' => exact ⟨m', rfl⟩
      have HG2 : Hid ((if n % d = 0 then d else lfGo n m' (d + 1)) = L) := by
        have h := HGO.out
        subst hm'
        unfold lfGo at h
        rw [if_pos HLE.out] at h
        exact h
      by_cases hz : n % d = 0
      · have hzi : (((n % d : Nat) : Int) == 0) = true := by simp; omega
        have HR : Hid (d = L) := by have h := HG2.out; rw [if_pos hz] at h; exact h
        clear hz
        generalize n / d = ND at *
        generalize n % d = NR at *
        go_wp2_with fail
        go_ret
        exact ⟨by rw [← HR.out]; rfl, rfl⟩
      · have hzi : (((n % d : Nat) : Int) == 0) = false := by simp; omega
        have HR : Hid (lfGo n m' (d + 1) = L) := by have h := HG2.out; rw [if_neg hz] at h; exact h
        clear hz HG2
        generalize n / d = ND at *
        generalize n % d = NR at *
        go_wp2_with fail
        go_roundw
        case rel =>
          first
          | exact ⟨m', d + 1, by have := HMD.out; omega, by omega, by go_num, HR.out, by first | rfl | trivial⟩
          | ((repeat apply Exists.intro); refine And.intro ?_ rfl; exact ⟨m', d + 1, by have := HMD.out; omega, by omega, by go_num, HR.out, by first | rfl | trivial⟩)
        case measure => simp [intOf]; omega
    · have hlei : ¬ (d : Int) ≤ ((n / d : Nat) : Int) := by omega
      have HR : Hid (n = L) := by
        have h := HGO.out
        cases m with
        | zero => exact h
        | succ m' => unfold lfGo at h; rw [if_neg hle] at h; exact h
      clear hle
      generalize n / d = ND at *
      go_wp2_with fail
      go_ret
      exact ⟨by rw [← HR.out]; rfl, rfl⟩
set_option maxRecDepth 100000 in
theorem is_any (n : Nat) (hn : n < 4096) (w : World) : Calls Try.prog 70 #[.int .u32 (n : Int)] w fun e w' => e = .returned (.bool (isS n)) ∧ w' = w := by
  have HL := hidD (fun w => least_any n hn w)
  by_cases h1 : 1 < n
  · have h1i : (1 : Int) < (n : Int) := by omega
    have hres : isS n = decide (lfS n = n) := by unfold isS; rw [decide_eq_true h1, Bool.true_and]
    have heq : ((lfS n : Int) == (n : Int)) = isS n := by
      rw [hres]
      by_cases h : lfS n = n
      · rw [h]; simp
      · rw [decide_eq_false h]; simp; omega
    clear hres
    generalize isS n = B at *
    generalize lfS n = L at *
    go_enter Try.func70, Try.ntmps70
    go_wp2_with (go_at_call 80; refine (HL.out _).mono ?_; rintro e wz ⟨rfl, hwz⟩; subst wz)
    go_ret
    exact ⟨rfl, rfl⟩
  · have h1i : ¬ (1 : Int) < (n : Int) := by omega
    have hres : isS n = false := by unfold isS; rw [decide_eq_false h1, Bool.false_and]
    rw [hres]
    go_enter Try.func70, Try.ntmps70
    go_wp2_with fail
    go_ret
    exact ⟨rfl, rfl⟩
end Go.Proofs.Ytnldpofljeodiaa
