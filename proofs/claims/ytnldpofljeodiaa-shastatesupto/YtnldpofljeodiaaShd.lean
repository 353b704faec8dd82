/- What padding answers. -/
import Derived.Test.YtnldpofljeodiaaShc
namespace Go.Proofs.Ytnldpofljeodiaa
open Go.RowKit
set_option linter.unusedVariables false

/- how many bytes are put behind n, and which -/
def rmS (bk n : Nat) : Nat := if bk - n % bk < 1 + bk / 8 then bk - n % bk + bk else bk - n % bk
def pdS (bk n j : Nat) : UInt8 := if j = 0 then 128 else if rmS bk n - bk / 8 ≤ j then UInt8.ofNat (8 * n / 256 ^ (rmS bk n - 1 - j) % 256) else 0
/- the same, when i bytes of the length are laid -/
def pdT (R V i j : Nat) : UInt8 := if j = 0 then 128 else if R - i ≤ j then UInt8.ofNat (V / 256 ^ (R - 1 - j) % 256) else 0
theorem pd_shift (A : Nat) : (A % 18446744073709551616) / 256 ||| (A / 18446744073709551616 * 72057594037927936 % 18446744073709551616) = A / 256 % 18446744073709551616 := by
  have h1 : A / 18446744073709551616 * 72057594037927936 % 18446744073709551616 = 2 ^ 56 * (A / 18446744073709551616 % 256) := by omega
  have h2 : (A % 18446744073709551616) / 256 < 2 ^ 56 := by omega
  rw [h1, Nat.or_comm, ← Nat.two_pow_add_eq_or_of_lt h2]
  omega
theorem pd_next (R V i j : Nat) (hi : i < R - 1) (hj : j < R) : pdT R V (i + 1) j = if j = R - 1 - i then UInt8.ofNat (V / 256 ^ i % 256) else pdT R V i j := by
  unfold pdT
  by_cases h : j = R - 1 - i
  · rw [if_pos h, if_neg (by omega), if_pos (by omega), show R - 1 - j = i by omega]
  · rw [if_neg h]
    by_cases h0 : j = 0
    · rw [if_pos h0, if_pos h0]
    · rw [if_neg h0, if_neg h0]
      by_cases h2 : R - i ≤ j
      · rw [if_pos h2, if_pos (by omega)]
      · rw [if_neg h2, if_neg (by omega)]

set_option maxRecDepth 100000 in
set_option maxHeartbeats 1600000 in
theorem padding64lo_any (n : Nat) (hn : n < 18446744073709551616) (hcond : 64 - n % 64 < 9) (w : World) : Calls Try.prog 43 #[.int .i64 64, .int .u64 (n : Int)] w fun e w' => ∃ g, e = .returned (.slice (some ⟨g, 0, none⟩) (64 - n % 64 + 64) (64 - n % 64 + 64)) ∧ w.heap.size ≤ g ∧ RowZ w' g .u8 (64 - n % 64 + 64) 5 (fun j => ((pdT (64 - n % 64 + 64) (8 * n) 8 j).toNat : Int)) ∧ Below w.heap.size w w' := by
  have HM : Hid (∀ w, Calls Try.prog 42 #[.int .u64 (n : Int), .int .u64 8] w fun e w' => e = .returned (.tuple #[.int .u64 ((n * 8 / 18446744073709551616 : Nat) : Int), .int .u64 ((n * 8 % 18446744073709551616 : Nat) : Int)]) ∧ w' = w) := fun w => Try.bits_Mul64 n 8 hn (by omega) w
  have hr : (n : Int) % 64 = ((n % 64 : Nat) : Int) := by omega
  have hs : (64 : Int) - ((n % 64 : Nat) : Int) = ((64 - n % 64 : Nat) : Int) := by omega
  have hml : n % 64 < 64 := Nat.mod_lt _ (by omega)
  have hci : ((64 - n % 64 : Nat) : Int) < 9 := by omega
  have ha : ((64 - n % 64 : Nat) : Int) + 64 = ((64 - n % 64 + 64 : Nat) : Int) := by omega
  have hRl : 9 ≤ 64 - n % 64 + 64 := by omega
  have hRm : 64 - n % 64 + 64 ≤ 128 := by omega
  have HV : Hid (8 * n = n * 8) := Nat.mul_comm _ _
  rw [HV.out]
  clear hcond
  generalize hR : 64 - n % 64 + 64 = R at *
  clear hR
  generalize hR0 : 64 - n % 64 = R0 at *
  clear hR0
  generalize n % 64 = nm at *
  generalize n * 8 = V at *
  go_enter Try.func43, Try.ntmps43
  go_wp2_with (first
    | (at_make; refine wpList_makeB _ rfl _ _ rfl .i64 .i64 (R : Int) (R : Int) R rfl rfl rfl rfl (by omega) ?_; intro w1 hr1 hb1; have X7 := hidD hr1.out; have X4 := hidD hb1; have ct := hr1.out.cell (k := 0) (by omega); have cf := hr1.out.frozen 0; clear hr1 hb1)
    | (go_at_call 42; refine (HM.out _).mono ?_; rintro e wz ⟨rfl, hwz⟩; subst wz; clear ct cf))
  have Y7 : Hid (RowZ (w1.setCell ⟨w.heap.size, 0, none⟩ (.int .u8 128)) w.heap.size .u8 R 5 (fun j => ((pdT R V 0 j).toNat : Int))) := (X7.out.set (k := 0) (by omega) _).congr fun j hj => by
    unfold pdT
    by_cases h : j = 0
    · rw [if_pos h, if_pos h]; rfl
    · rw [if_neg h, if_neg h, if_neg (by omega)]; rfl
  have Y4 : Hid (Below w.heap.size w (w1.setCell ⟨w.heap.size, 0, none⟩ (.int .u8 128))) := below_setCell X4.out (Nat.le_refl _) _ _
  clear X7 X4
  generalize w1.setCell ⟨w.heap.size, 0, none⟩ (.int .u8 128) = w2 at *
  generalize hgs : w.heap.size = gs at *
  have HGS := hidD hgs
  clear hgs
  go_loopw [8, 9, 37] (fun hv lv iv wr => ∃ i A : Nat, i ≤ 8 ∧ A = V / 256 ^ i ∧ iv = .int .i64 (i : Int) ∧ hv = .int .u64 ((A / 18446744073709551616 : Nat) : Int) ∧ lv = .int .u64 ((A % 18446744073709551616 : Nat) : Int) ∧ RowZ wr gs .u8 R 5 (fun j => ((pdT R V i j).toNat : Int)) ∧ Below gs w wr) (fun _ _ iv _ => 8 - (intOf iv).toNat)
  case atStart => exact ⟨0, V, by omega, by simp, rfl, rfl, rfl, Y7.out, Y4.out⟩
  case round =>
    clear Y7 Y4
    obtain ⟨i, A, hi, hA, rfl, rfl, rfl, hrow, hbel⟩ := hrel
    by_cases hlt : i < 8
    · have hlti : (i : Int) < 8 := by omega
      have h1 : (R : Int) - 1 = ((R - 1 : Nat) : Int) := by omega
      have h2 : ((R - 1 : Nat) : Int) - (i : Int) = ((R - 1 - i : Nat) : Int) := by omega
      have hil : R - 1 - i < R := by omega
      have ct := hrow.cell (k := R - 1 - i) hil
      have cf := hrow.frozen (R - 1 - i)
      have hlo : A % 18446744073709551616 < 18446744073709551616 := Nat.mod_lt _ (by omega)
      have hby : ((A % 18446744073709551616 : Nat) : Int) % 256 = ((UInt8.ofNat (V / 256 ^ i % 256)).toNat : Int) := by
        rw [UInt8.toNat_ofNat', ← hA]; omega
      have hor : bits .or .u64 (((A % 18446744073709551616 : Nat) : Int) / 256) (IntKind.u64.wrap (((A / 18446744073709551616 : Nat) : Int) * 72057594037927936)) = ((A / 256 % 18446744073709551616 : Nat) : Int) := by
        rw [IntKind.wrap_u64, show ((A % 18446744073709551616 : Nat) : Int) / 256 = ((A % 18446744073709551616 / 256 : Nat) : Int) by omega, show ((A / 18446744073709551616 : Nat) : Int) * 72057594037927936 % 18446744073709551616 = ((A / 18446744073709551616 * 72057594037927936 % 18446744073709551616 : Nat) : Int) by omega, u64_or_nat _ _ (by omega) (Nat.mod_lt _ (by omega)), pd_shift]
      have hhi : ((A / 18446744073709551616 : Nat) : Int) / 256 = ((A / 256 / 18446744073709551616 : Nat) : Int) := by omega
      have HAN : Hid (A / 256 = V / 256 ^ (i + 1)) := by show _ = _; rw [hA, Nat.div_div_eq_div_mul, Nat.pow_succ]
      have HST : Hid (RowZ (wr.setCell ⟨gs, R - 1 - i, none⟩ (.int .u8 ((UInt8.ofNat (V / 256 ^ i % 256)).toNat : Int))) gs .u8 R 5 (fun j => ((pdT R V (i + 1) j).toNat : Int))) := (hrow.set hil _).congr fun j hj => by
        rw [pd_next R V i j (by omega) hj]; split <;> rfl
      have HSB : Hid (Below gs w (wr.setCell ⟨gs, R - 1 - i, none⟩ (.int .u8 ((UInt8.ofNat (V / 256 ^ i % 256)).toNat : Int)))) := below_setCell hbel (Nat.le_refl _) _ _
      clear hrow hbel hA
      generalize ((UInt8.ofNat (V / 256 ^ i % 256)).toNat : Int) = Z at *
      generalize ((pdT R V i (R - 1 - i)).toNat : Int) = Z0 at *
      generalize R - 1 - i = ri at *
      generalize R - 1 = r1 at *
      generalize hA2 : A / 256 % 18446744073709551616 = L2 at *
      generalize hA3 : A / 256 / 18446744073709551616 = H2 at *
      have HL2 := hidD hA2
      have HH2 := hidD hA3
      clear hA2 hA3
      generalize A % 18446744073709551616 = L1 at *
      generalize A / 18446744073709551616 = H1 at *
      go_wp2_with fail
      go_roundw
      case rel =>
        first
        | exact ⟨i + 1, A / 256, by omega, HAN.out, by go_num, by rw [HH2.out], by rw [HL2.out], HST.out, HSB.out⟩
        | ((repeat apply Exists.intro); refine And.intro ?_ rfl; exact ⟨i + 1, A / 256, by omega, HAN.out, by go_num, by rw [HH2.out], by rw [HL2.out], HST.out, HSB.out⟩)
      case measure => simp [intOf]; omega
    · obtain rfl : i = 8 := by omega
      have HF := hidD hrow
      have HBF := hidD hbel
      clear hrow hbel hA
      generalize ((A / 18446744073709551616 : Nat) : Int) = H1 at *
      generalize ((A % 18446744073709551616 : Nat) : Int) = L1 at *
      go_wp2_with fail
      go_ret
      refine ⟨gs, rfl, by rw [HGS.out]; exact Nat.le_refl _, HF.out, ?_⟩
      rw [HGS.out]; exact HBF.out

set_option maxRecDepth 100000 in
set_option maxHeartbeats 1600000 in
theorem padding64hi_any (n : Nat) (hn : n < 18446744073709551616) (hcond : ¬ 64 - n % 64 < 9) (w : World) : Calls Try.prog 43 #[.int .i64 64, .int .u64 (n : Int)] w fun e w' => ∃ g, e = .returned (.slice (some ⟨g, 0, none⟩) (64 - n % 64) (64 - n % 64)) ∧ w.heap.size ≤ g ∧ RowZ w' g .u8 (64 - n % 64) 5 (fun j => ((pdT (64 - n % 64) (8 * n) 8 j).toNat : Int)) ∧ Below w.heap.size w w' := by
  have HM : Hid (∀ w, Calls Try.prog 42 #[.int .u64 (n : Int), .int .u64 8] w fun e w' => e = .returned (.tuple #[.int .u64 ((n * 8 / 18446744073709551616 : Nat) : Int), .int .u64 ((n * 8 % 18446744073709551616 : Nat) : Int)]) ∧ w' = w) := fun w => Try.bits_Mul64 n 8 hn (by omega) w
  have hr : (n : Int) % 64 = ((n % 64 : Nat) : Int) := by omega
  have hs : (64 : Int) - ((n % 64 : Nat) : Int) = ((64 - n % 64 : Nat) : Int) := by omega
  have hml : n % 64 < 64 := Nat.mod_lt _ (by omega)
  have hci : ¬ ((64 - n % 64 : Nat) : Int) < 9 := by omega
  skip
  have hRl : 9 ≤ 64 - n % 64 := by omega
  have hRm : 64 - n % 64 ≤ 128 := by omega
  have HV : Hid (8 * n = n * 8) := Nat.mul_comm _ _
  rw [HV.out]
  clear hcond
  skip
  skip
  generalize hR0 : 64 - n % 64 = R at *
  clear hR0
  generalize n % 64 = nm at *
  generalize n * 8 = V at *
  go_enter Try.func43, Try.ntmps43
  go_wp2_with (first
    | (at_make; refine wpList_makeB _ rfl _ _ rfl .i64 .i64 (R : Int) (R : Int) R rfl rfl rfl rfl (by omega) ?_; intro w1 hr1 hb1; have X7 := hidD hr1.out; have X4 := hidD hb1; have ct := hr1.out.cell (k := 0) (by omega); have cf := hr1.out.frozen 0; clear hr1 hb1)
    | (go_at_call 42; refine (HM.out _).mono ?_; rintro e wz ⟨rfl, hwz⟩; subst wz; clear ct cf))
  have Y7 : Hid (RowZ (w1.setCell ⟨w.heap.size, 0, none⟩ (.int .u8 128)) w.heap.size .u8 R 5 (fun j => ((pdT R V 0 j).toNat : Int))) := (X7.out.set (k := 0) (by omega) _).congr fun j hj => by
    unfold pdT
    by_cases h : j = 0
    · rw [if_pos h, if_pos h]; rfl
    · rw [if_neg h, if_neg h, if_neg (by omega)]; rfl
  have Y4 : Hid (Below w.heap.size w (w1.setCell ⟨w.heap.size, 0, none⟩ (.int .u8 128))) := below_setCell X4.out (Nat.le_refl _) _ _
  clear X7 X4
  generalize w1.setCell ⟨w.heap.size, 0, none⟩ (.int .u8 128) = w2 at *
  generalize hgs : w.heap.size = gs at *
  have HGS := hidD hgs
  clear hgs
  go_loopw [8, 9, 37] (fun hv lv iv wr => ∃ i A : Nat, i ≤ 8 ∧ A = V / 256 ^ i ∧ iv = .int .i64 (i : Int) ∧ hv = .int .u64 ((A / 18446744073709551616 : Nat) : Int) ∧ lv = .int .u64 ((A % 18446744073709551616 : Nat) : Int) ∧ RowZ wr gs .u8 R 5 (fun j => ((pdT R V i j).toNat : Int)) ∧ Below gs w wr) (fun _ _ iv _ => 8 - (intOf iv).toNat)
  case atStart => exact ⟨0, V, by omega, by simp, rfl, rfl, rfl, Y7.out, Y4.out⟩
  case round =>
    clear Y7 Y4
    obtain ⟨i, A, hi, hA, rfl, rfl, rfl, hrow, hbel⟩ := hrel
    by_cases hlt : i < 8
    · have hlti : (i : Int) < 8 := by omega
      have h1 : (R : Int) - 1 = ((R - 1 : Nat) : Int) := by omega
      have h2 : ((R - 1 : Nat) : Int) - (i : Int) = ((R - 1 - i : Nat) : Int) := by omega
      have hil : R - 1 - i < R := by omega
      have ct := hrow.cell (k := R - 1 - i) hil
      have cf := hrow.frozen (R - 1 - i)
      have hlo : A % 18446744073709551616 < 18446744073709551616 := Nat.mod_lt _ (by omega)
      have hby : ((A % 18446744073709551616 : Nat) : Int) % 256 = ((UInt8.ofNat (V / 256 ^ i % 256)).toNat : Int) := by
        rw [UInt8.toNat_ofNat', ← hA]; omega
      have hor : bits .or .u64 (((A % 18446744073709551616 : Nat) : Int) / 256) (IntKind.u64.wrap (((A / 18446744073709551616 : Nat) : Int) * 72057594037927936)) = ((A / 256 % 18446744073709551616 : Nat) : Int) := by
        rw [IntKind.wrap_u64, show ((A % 18446744073709551616 : Nat) : Int) / 256 = ((A % 18446744073709551616 / 256 : Nat) : Int) by omega, show ((A / 18446744073709551616 : Nat) : Int) * 72057594037927936 % 18446744073709551616 = ((A / 18446744073709551616 * 72057594037927936 % 18446744073709551616 : Nat) : Int) by omega, u64_or_nat _ _ (by omega) (Nat.mod_lt _ (by omega)), pd_shift]
      have hhi : ((A / 18446744073709551616 : Nat) : Int) / 256 = ((A / 256 / 18446744073709551616 : Nat) : Int) := by omega
      have HAN : Hid (A / 256 = V / 256 ^ (i + 1)) := by show _ = _; rw [hA, Nat.div_div_eq_div_mul, Nat.pow_succ]
      have HST : Hid (RowZ (wr.setCell ⟨gs, R - 1 - i, none⟩ (.int .u8 ((UInt8.ofNat (V / 256 ^ i % 256)).toNat : Int))) gs .u8 R 5 (fun j => ((pdT R V (i + 1) j).toNat : Int))) := (hrow.set hil _).congr fun j hj => by
        rw [pd_next R V i j (by omega) hj]; split <;> rfl
      have HSB : Hid (Below gs w (wr.setCell ⟨gs, R - 1 - i, none⟩ (.int .u8 ((UInt8.ofNat (V / 256 ^ i % 256)).toNat : Int)))) := below_setCell hbel (Nat.le_refl _) _ _
      clear hrow hbel hA
      generalize ((UInt8.ofNat (V / 256 ^ i % 256)).toNat : Int) = Z at *
      generalize ((pdT R V i (R - 1 - i)).toNat : Int) = Z0 at *
      generalize R - 1 - i = ri at *
      generalize R - 1 = r1 at *
      generalize hA2 : A / 256 % 18446744073709551616 = L2 at *
      generalize hA3 : A / 256 / 18446744073709551616 = H2 at *
      have HL2 := hidD hA2
      have HH2 := hidD hA3
      clear hA2 hA3
      generalize A % 18446744073709551616 = L1 at *
      generalize A / 18446744073709551616 = H1 at *
      go_wp2_with fail
      go_roundw
      case rel =>
        first
        | exact ⟨i + 1, A / 256, by omega, HAN.out, by go_num, by rw [HH2.out], by rw [HL2.out], HST.out, HSB.out⟩
        | ((repeat apply Exists.intro); refine And.intro ?_ rfl; exact ⟨i + 1, A / 256, by omega, HAN.out, by go_num, by rw [HH2.out], by rw [HL2.out], HST.out, HSB.out⟩)
      case measure => simp [intOf]; omega
    · obtain rfl : i = 8 := by omega
      have HF := hidD hrow
      have HBF := hidD hbel
      clear hrow hbel hA
      generalize ((A / 18446744073709551616 : Nat) : Int) = H1 at *
      generalize ((A % 18446744073709551616 : Nat) : Int) = L1 at *
      go_wp2_with fail
      go_ret
      refine ⟨gs, rfl, by rw [HGS.out]; exact Nat.le_refl _, HF.out, ?_⟩
      rw [HGS.out]; exact HBF.out

set_option maxRecDepth 100000 in
set_option maxHeartbeats 1600000 in
theorem padding128lo_any (n : Nat) (hn : n < 18446744073709551616) (hcond : 128 - n % 128 < 17) (w : World) : Calls Try.prog 43 #[.int .i64 128, .int .u64 (n : Int)] w fun e w' => ∃ g, e = .returned (.slice (some ⟨g, 0, none⟩) (128 - n % 128 + 128) (128 - n % 128 + 128)) ∧ w.heap.size ≤ g ∧ RowZ w' g .u8 (128 - n % 128 + 128) 5 (fun j => ((pdT (128 - n % 128 + 128) (8 * n) 16 j).toNat : Int)) ∧ Below w.heap.size w w' := by
  have HM : Hid (∀ w, Calls Try.prog 42 #[.int .u64 (n : Int), .int .u64 8] w fun e w' => e = .returned (.tuple #[.int .u64 ((n * 8 / 18446744073709551616 : Nat) : Int), .int .u64 ((n * 8 % 18446744073709551616 : Nat) : Int)]) ∧ w' = w) := fun w => Try.bits_Mul64 n 8 hn (by omega) w
  have hr : (n : Int) % 128 = ((n % 128 : Nat) : Int) := by omega
  have hs : (128 : Int) - ((n % 128 : Nat) : Int) = ((128 - n % 128 : Nat) : Int) := by omega
  have hml : n % 128 < 128 := Nat.mod_lt _ (by omega)
  have hci : ((128 - n % 128 : Nat) : Int) < 17 := by omega
  have ha : ((128 - n % 128 : Nat) : Int) + 128 = ((128 - n % 128 + 128 : Nat) : Int) := by omega
  have hRl : 17 ≤ 128 - n % 128 + 128 := by omega
  have hRm : 128 - n % 128 + 128 ≤ 256 := by omega
  have HV : Hid (8 * n = n * 8) := Nat.mul_comm _ _
  rw [HV.out]
  clear hcond
  generalize hR : 128 - n % 128 + 128 = R at *
  clear hR
  generalize hR0 : 128 - n % 128 = R0 at *
  clear hR0
  generalize n % 128 = nm at *
  generalize n * 8 = V at *
  go_enter Try.func43, Try.ntmps43
  go_wp2_with (first
    | (at_make; refine wpList_makeB _ rfl _ _ rfl .i64 .i64 (R : Int) (R : Int) R rfl rfl rfl rfl (by omega) ?_; intro w1 hr1 hb1; have X7 := hidD hr1.out; have X4 := hidD hb1; have ct := hr1.out.cell (k := 0) (by omega); have cf := hr1.out.frozen 0; clear hr1 hb1)
    | (go_at_call 42; refine (HM.out _).mono ?_; rintro e wz ⟨rfl, hwz⟩; subst wz; clear ct cf))
  have Y7 : Hid (RowZ (w1.setCell ⟨w.heap.size, 0, none⟩ (.int .u8 128)) w.heap.size .u8 R 5 (fun j => ((pdT R V 0 j).toNat : Int))) := (X7.out.set (k := 0) (by omega) _).congr fun j hj => by
    unfold pdT
    by_cases h : j = 0
    · rw [if_pos h, if_pos h]; rfl
    · rw [if_neg h, if_neg h, if_neg (by omega)]; rfl
  have Y4 : Hid (Below w.heap.size w (w1.setCell ⟨w.heap.size, 0, none⟩ (.int .u8 128))) := below_setCell X4.out (Nat.le_refl _) _ _
  clear X7 X4
  generalize w1.setCell ⟨w.heap.size, 0, none⟩ (.int .u8 128) = w2 at *
  generalize hgs : w.heap.size = gs at *
  have HGS := hidD hgs
  clear hgs
  go_loopw [8, 9, 37] (fun hv lv iv wr => ∃ i A : Nat, i ≤ 16 ∧ A = V / 256 ^ i ∧ iv = .int .i64 (i : Int) ∧ hv = .int .u64 ((A / 18446744073709551616 : Nat) : Int) ∧ lv = .int .u64 ((A % 18446744073709551616 : Nat) : Int) ∧ RowZ wr gs .u8 R 5 (fun j => ((pdT R V i j).toNat : Int)) ∧ Below gs w wr) (fun _ _ iv _ => 16 - (intOf iv).toNat)
  case atStart => exact ⟨0, V, by omega, by simp, rfl, rfl, rfl, Y7.out, Y4.out⟩
  case round =>
    clear Y7 Y4
    obtain ⟨i, A, hi, hA, rfl, rfl, rfl, hrow, hbel⟩ := hrel
    by_cases hlt : i < 16
    · have hlti : (i : Int) < 16 := by omega
      have h1 : (R : Int) - 1 = ((R - 1 : Nat) : Int) := by omega
      have h2 : ((R - 1 : Nat) : Int) - (i : Int) = ((R - 1 - i : Nat) : Int) := by omega
      have hil : R - 1 - i < R := by omega
      have ct := hrow.cell (k := R - 1 - i) hil
      have cf := hrow.frozen (R - 1 - i)
      have hlo : A % 18446744073709551616 < 18446744073709551616 := Nat.mod_lt _ (by omega)
      have hby : ((A % 18446744073709551616 : Nat) : Int) % 256 = ((UInt8.ofNat (V / 256 ^ i % 256)).toNat : Int) := by
        rw [UInt8.toNat_ofNat', ← hA]; omega
      have hor : bits .or .u64 (((A % 18446744073709551616 : Nat) : Int) / 256) (IntKind.u64.wrap (((A / 18446744073709551616 : Nat) : Int) * 72057594037927936)) = ((A / 256 % 18446744073709551616 : Nat) : Int) := by
        rw [IntKind.wrap_u64, show ((A % 18446744073709551616 : Nat) : Int) / 256 = ((A % 18446744073709551616 / 256 : Nat) : Int) by omega, show ((A / 18446744073709551616 : Nat) : Int) * 72057594037927936 % 18446744073709551616 = ((A / 18446744073709551616 * 72057594037927936 % 18446744073709551616 : Nat) : Int) by omega, u64_or_nat _ _ (by omega) (Nat.mod_lt _ (by omega)), pd_shift]
      have hhi : ((A / 18446744073709551616 : Nat) : Int) / 256 = ((A / 256 / 18446744073709551616 : Nat) : Int) := by omega
      have HAN : Hid (A / 256 = V / 256 ^ (i + 1)) := by show _ = _; rw [hA, Nat.div_div_eq_div_mul, Nat.pow_succ]
      have HST : Hid (RowZ (wr.setCell ⟨gs, R - 1 - i, none⟩ (.int .u8 ((UInt8.ofNat (V / 256 ^ i % 256)).toNat : Int))) gs .u8 R 5 (fun j => ((pdT R V (i + 1) j).toNat : Int))) := (hrow.set hil _).congr fun j hj => by
        rw [pd_next R V i j (by omega) hj]; split <;> rfl
      have HSB : Hid (Below gs w (wr.setCell ⟨gs, R - 1 - i, none⟩ (.int .u8 ((UInt8.ofNat (V / 256 ^ i % 256)).toNat : Int)))) := below_setCell hbel (Nat.le_refl _) _ _
      clear hrow hbel hA
      generalize ((UInt8.ofNat (V / 256 ^ i % 256)).toNat : Int) = Z at *
      generalize ((pdT R V i (R - 1 - i)).toNat : Int) = Z0 at *
      generalize R - 1 - i = ri at *
      generalize R - 1 = r1 at *
      generalize hA2 : A / 256 % 18446744073709551616 = L2 at *
      generalize hA3 : A / 256 / 18446744073709551616 = H2 at *
      have HL2 := hidD hA2
      have HH2 := hidD hA3
      clear hA2 hA3
      generalize A % 18446744073709551616 = L1 at *
      generalize A / 18446744073709551616 = H1 at *
      go_wp2_with fail
      go_roundw
      case rel =>
        first
        | exact ⟨i + 1, A / 256, by omega, HAN.out, by go_num, by rw [HH2.out], by rw [HL2.out], HST.out, HSB.out⟩
        | ((repeat apply Exists.intro); refine And.intro ?_ rfl; exact ⟨i + 1, A / 256, by omega, HAN.out, by go_num, by rw [HH2.out], by rw [HL2.out], HST.out, HSB.out⟩)
      case measure => simp [intOf]; omega
    · obtain rfl : i = 16 := by omega
      have HF := hidD hrow
      have HBF := hidD hbel
      clear hrow hbel hA
      generalize ((A / 18446744073709551616 : Nat) : Int) = H1 at *
      generalize ((A % 18446744073709551616 : Nat) : Int) = L1 at *
      go_wp2_with fail
      go_ret
      refine ⟨gs, rfl, by rw [HGS.out]; exact Nat.le_refl _, HF.out, ?_⟩
      rw [HGS.out]; exact HBF.out

set_option maxRecDepth 100000 in
set_option maxHeartbeats 1600000 in
theorem padding128hi_any (n : Nat) (hn : n < 18446744073709551616) (hcond : ¬ 128 - n % 128 < 17) (w : World) : Calls Try.prog 43 #[.int .i64 128, .int .u64 (n : Int)] w fun e w' => ∃ g, e = .returned (.slice (some ⟨g, 0, none⟩) (128 - n % 128) (128 - n % 128)) ∧ w.heap.size ≤ g ∧ RowZ w' g .u8 (128 - n % 128) 5 (fun j => ((pdT (128 - n % 128) (8 * n) 16 j).toNat : Int)) ∧ Below w.heap.size w w' := by
  have HM : Hid (∀ w, Calls Try.prog 42 #[.int .u64 (n : Int), .int .u64 8] w fun e w' => e = .returned (.tuple #[.int .u64 ((n * 8 / 18446744073709551616 : Nat) : Int), .int .u64 ((n * 8 % 18446744073709551616 : Nat) : Int)]) ∧ w' = w) := fun w => Try.bits_Mul64 n 8 hn (by omega) w
  have hr : (n : Int) % 128 = ((n % 128 : Nat) : Int) := by omega
  have hs : (128 : Int) - ((n % 128 : Nat) : Int) = ((128 - n % 128 : Nat) : Int) := by omega
  have hml : n % 128 < 128 := Nat.mod_lt _ (by omega)
  have hci : ¬ ((128 - n % 128 : Nat) : Int) < 17 := by omega
  skip
  have hRl : 17 ≤ 128 - n % 128 := by omega
  have hRm : 128 - n % 128 ≤ 256 := by omega
  have HV : Hid (8 * n = n * 8) := Nat.mul_comm _ _
  rw [HV.out]
  clear hcond
  skip
  skip
  generalize hR0 : 128 - n % 128 = R at *
  clear hR0
  generalize n % 128 = nm at *
  generalize n * 8 = V at *
  go_enter Try.func43, Try.ntmps43
  go_wp2_with (first
    | (at_make; refine wpList_makeB _ rfl _ _ rfl .i64 .i64 (R : Int) (R : Int) R rfl rfl rfl rfl (by omega) ?_; intro w1 hr1 hb1; have X7 := hidD hr1.out; have X4 := hidD hb1; have ct := hr1.out.cell (k := 0) (by omega); have cf := hr1.out.frozen 0; clear hr1 hb1)
    | (go_at_call 42; refine (HM.out _).mono ?_; rintro e wz ⟨rfl, hwz⟩; subst wz; clear ct cf))
  have Y7 : Hid (RowZ (w1.setCell ⟨w.heap.size, 0, none⟩ (.int .u8 128)) w.heap.size .u8 R 5 (fun j => ((pdT R V 0 j).toNat : Int))) := (X7.out.set (k := 0) (by omega) _).congr fun j hj => by
    unfold pdT
    by_cases h : j = 0
    · rw [if_pos h, if_pos h]; rfl
    · rw [if_neg h, if_neg h, if_neg (by omega)]; rfl
  have Y4 : Hid (Below w.heap.size w (w1.setCell ⟨w.heap.size, 0, none⟩ (.int .u8 128))) := below_setCell X4.out (Nat.le_refl _) _ _
  clear X7 X4
  generalize w1.setCell ⟨w.heap.size, 0, none⟩ (.int .u8 128) = w2 at *
  generalize hgs : w.heap.size = gs at *
  have HGS := hidD hgs
  clear hgs
  go_loopw [8, 9, 37] (fun hv lv iv wr => ∃ i A : Nat, i ≤ 16 ∧ A = V / 256 ^ i ∧ iv = .int .i64 (i : Int) ∧ hv = .int .u64 ((A / 18446744073709551616 : Nat) : Int) ∧ lv = .int .u64 ((A % 18446744073709551616 : Nat) : Int) ∧ RowZ wr gs .u8 R 5 (fun j => ((pdT R V i j).toNat : Int)) ∧ Below gs w wr) (fun _ _ iv _ => 16 - (intOf iv).toNat)
  case atStart => exact ⟨0, V, by omega, by simp, rfl, rfl, rfl, Y7.out, Y4.out⟩
  case round =>
    clear Y7 Y4
    obtain ⟨i, A, hi, hA, rfl, rfl, rfl, hrow, hbel⟩ := hrel
    by_cases hlt : i < 16
    · have hlti : (i : Int) < 16 := by omega
      have h1 : (R : Int) - 1 = ((R - 1 : Nat) : Int) := by omega
      have h2 : ((R - 1 : Nat) : Int) - (i : Int) = ((R - 1 - i : Nat) : Int) := by omega
      have hil : R - 1 - i < R := by omega
      have ct := hrow.cell (k := R - 1 - i) hil
      have cf := hrow.frozen (R - 1 - i)
      have hlo : A % 18446744073709551616 < 18446744073709551616 := Nat.mod_lt _ (by omega)
      have hby : ((A % 18446744073709551616 : Nat) : Int) % 256 = ((UInt8.ofNat (V / 256 ^ i % 256)).toNat : Int) := by
        rw [UInt8.toNat_ofNat', ← hA]; omega
      have hor : bits .or .u64 (((A % 18446744073709551616 : Nat) : Int) / 256) (IntKind.u64.wrap (((A / 18446744073709551616 : Nat) : Int) * 72057594037927936)) = ((A / 256 % 18446744073709551616 : Nat) : Int) := by
        rw [IntKind.wrap_u64, show ((A % 18446744073709551616 : Nat) : Int) / 256 = ((A % 18446744073709551616 / 256 : Nat) : Int) by omega, show ((A / 18446744073709551616 : Nat) : Int) * 72057594037927936 % 18446744073709551616 = ((A / 18446744073709551616 * 72057594037927936 % 18446744073709551616 : Nat) : Int) by omega, u64_or_nat _ _ (by omega) (Nat.mod_lt _ (by omega)), pd_shift]
      have hhi : ((A / 18446744073709551616 : Nat) : Int) / 256 = ((A / 256 / 18446744073709551616 : Nat) : Int) := by omega
      have HAN : Hid (A / 256 = V / 256 ^ (i + 1)) := by show _ = _; rw [hA, Nat.div_div_eq_div_mul, Nat.pow_succ]
      have HST : Hid (RowZ (wr.setCell ⟨gs, R - 1 - i, none⟩ (.int .u8 ((UInt8.ofNat (V / 256 ^ i % 256)).toNat : Int))) gs .u8 R 5 (fun j => ((pdT R V (i + 1) j).toNat : Int))) := (hrow.set hil _).congr fun j hj => by
        rw [pd_next R V i j (by omega) hj]; split <;> rfl
      have HSB : Hid (Below gs w (wr.setCell ⟨gs, R - 1 - i, none⟩ (.int .u8 ((UInt8.ofNat (V / 256 ^ i % 256)).toNat : Int)))) := below_setCell hbel (Nat.le_refl _) _ _
      clear hrow hbel hA
      generalize ((UInt8.ofNat (V / 256 ^ i % 256)).toNat : Int) = Z at *
      generalize ((pdT R V i (R - 1 - i)).toNat : Int) = Z0 at *
      generalize R - 1 - i = ri at *
      generalize R - 1 = r1 at *
      generalize hA2 : A / 256 % 18446744073709551616 = L2 at *
      generalize hA3 : A / 256 / 18446744073709551616 = H2 at *
      have HL2 := hidD hA2
      have HH2 := hidD hA3
      clear hA2 hA3
      generalize A % 18446744073709551616 = L1 at *
      generalize A / 18446744073709551616 = H1 at *
      go_wp2_with fail
      go_roundw
      case rel =>
        first
        | exact ⟨i + 1, A / 256, by omega, HAN.out, by go_num, by rw [HH2.out], by rw [HL2.out], HST.out, HSB.out⟩
        | ((repeat apply Exists.intro); refine And.intro ?_ rfl; exact ⟨i + 1, A / 256, by omega, HAN.out, by go_num, by rw [HH2.out], by rw [HL2.out], HST.out, HSB.out⟩)
      case measure => simp [intOf]; omega
    · obtain rfl : i = 16 := by omega
      have HF := hidD hrow
      have HBF := hidD hbel
      clear hrow hbel hA
      generalize ((A / 18446744073709551616 : Nat) : Int) = H1 at *
      generalize ((A % 18446744073709551616 : Nat) : Int) = L1 at *
      go_wp2_with fail
      go_ret
      refine ⟨gs, rfl, by rw [HGS.out]; exact Nat.le_refl _, HF.out, ?_⟩
      rw [HGS.out]; exact HBF.out
end Go.Proofs.Ytnldpofljeodiaa
