/- The walk of DigitsOrder. -/
import Derived.Test.YtmmlmpcalhfigaaLive
namespace Go.Proofs.Ytmmlmpcalhfigaa
open Go.RowKit
set_option linter.unusedVariables false
set_option maxRecDepth 100000 in
set_option maxHeartbeats 400000 in
theorem order_out1 (a b : Nat) (width : Int) (hw : width < 1 ∨ 16 < width) (w : World) : Calls Try.prog 5 #[.int .u64 a, .int .u64 b, .int .i64 width] w fun e w' => e = .returned (.bool true) ∧ Below w.heap.size w w' := by
  have HLV := hidD (fun (w : World) => live_any w)
  by_cases h1 : width < 1
  · go_enter Try.func5, Try.ntmps5
    go_wp2_with (go_at_call 9; refine (HLV.out _).mono ?_; rintro e w1 ⟨rfl, hb1⟩)
    go_ret
    exact ⟨rfl, hb1⟩
  · have h2 : 16 < width := by omega
    go_enter Try.func5, Try.ntmps5
    go_wp2_with (go_at_call 9; refine (HLV.out _).mono ?_; rintro e w1 ⟨rfl, hb1⟩)
    go_ret
    exact ⟨rfl, hb1⟩
set_option maxRecDepth 100000 in
set_option maxHeartbeats 400000 in
theorem order_out2 (a b W : Nat) (hW1 : 1 ≤ W) (hW : W ≤ 15) (hx : ¬ ((a : Int) / 2 ^ (4 * W) = 0)) (w : World) : Calls Try.prog 5 #[.int .u64 a, .int .u64 b, .int .i64 W] w fun e w' => e = .returned (.bool true) ∧ Below w.heap.size w w' := by
  have HLV := hidD (fun (w : World) => live_any w)
  have hxb : ((a : Int) / 2 ^ (4 * W) != 0) = true := by simpa using hx
  go_enter Try.func5, Try.ntmps5
  go_wp2_with (go_at_call 9; refine (HLV.out _).mono ?_; rintro e w1 ⟨rfl, hb1⟩)
  go_ret
  exact ⟨rfl, hb1⟩
set_option maxRecDepth 100000 in
set_option maxHeartbeats 400000 in
theorem order_out3 (a b W : Nat) (hW1 : 1 ≤ W) (hW : W ≤ 15) (hx : (a : Int) / 2 ^ (4 * W) = 0) (hy : ¬ ((b : Int) / 2 ^ (4 * W) = 0)) (w : World) : Calls Try.prog 5 #[.int .u64 a, .int .u64 b, .int .i64 W] w fun e w' => e = .returned (.bool true) ∧ Below w.heap.size w w' := by
  have HLV := hidD (fun (w : World) => live_any w)
  have hyb : ((b : Int) / 2 ^ (4 * W) != 0) = true := by simpa using hy
  go_enter Try.func5, Try.ntmps5
  go_wp2_with (go_at_call 9; refine (HLV.out _).mono ?_; rintro e w1 ⟨rfl, hb1⟩)
  go_ret
  exact ⟨rfl, hb1⟩
/-- What the two texts are to each other. -/
theorem order_plain {a b W : Nat} (hW1 : 1 ≤ W) (hW : W ≤ 16) (ha : a < 16 ^ W) (hb : b < 16 ^ W) (ha' : a ≤ 18446744073709551615) (hb' : b ≤ 18446744073709551615) :
    ∃ X Y : List UInt8, showS a 16 W = (X, 0) ∧ showS b 16 W = (Y, 0) ∧ X.length = W + 1 ∧ Y.length = W + 1 ∧ Op.bytesLess X Y = decide (a < b) ∧ ((X == Y) = decide (a = b)) := by
  obtain ⟨a1, a2, _⟩ := pad_digits (K := 16) (W := W) (by decide) (by decide) ha'
  obtain ⟨b1, b2, _⟩ := pad_digits (K := 16) (W := W) (by decide) (by decide) hb'
  have la := pad_len (K := 16) (by decide) hW1 ha
  have lb := pad_len (K := 16) (by decide) hW1 hb
  have hl := less_val (K := 16) (by decide) (by decide) _ _ (la.trans lb.symm) a1 b1
  have hnw : ¬ ((W : Int) < 0 ∨ 64 < (W : Int)) := by omega
  refine ⟨36 :: padS W (digS 16 65 a []), 36 :: padS W (digS 16 65 b []), showP_eq (m := [36]) rfl hnw, showP_eq (m := [36]) rfl hnw, by simp [la], by simp [lb], ?_, ?_⟩
  · rw [a2, b2] at hl
    have h1 : Op.bytesLess (36 :: padS W (digS 16 65 a [])) (36 :: padS W (digS 16 65 b [])) = Op.bytesLess (padS W (digS 16 65 a [])) (padS W (digS 16 65 b [])) := by
      rw [Op.bytesLess]
      simp
    rw [h1]
    cases h : Op.bytesLess (padS W (digS 16 65 a [])) (padS W (digS 16 65 b [])) with
    | true => exact (decide_eq_true (hl.1 h)).symm
    | false =>
      symm
      apply decide_eq_false
      intro h2
      rw [hl.2 h2] at h
      cases h
  · by_cases hab : a = b
    · subst hab
      simp
    · have hne : ¬ (36 :: padS W (digS 16 65 a []) = 36 :: padS W (digS 16 65 b [])) := fun h => by
        have h1 := List.tail_eq_of_cons_eq h
        rw [h1] at a2
        exact hab (a2.symm.trans b2)
      rw [decide_eq_false hab]
      simpa using hne
set_option maxRecDepth 100000 in
set_option maxHeartbeats 400000 in
theorem order_go (a b W : Nat) (ha' : a ≤ 18446744073709551615) (hb' : b ≤ 18446744073709551615) (hW1 : 1 ≤ W) (hW : W ≤ 15) (hx : (a : Int) / 2 ^ (4 * W) = 0) (hy : (b : Int) / 2 ^ (4 * W) = 0) (ha : a < 16 ^ W) (hb : b < 16 ^ W) (w : World) : Calls Try.prog 5 #[.int .u64 a, .int .u64 b, .int .i64 W] w fun e w' => e = .returned (.bool true) ∧ Below w.heap.size w w' := by
  obtain ⟨X, Y, hX, hY, lX, lY, hl, he⟩ := order_plain hW1 (by omega) ha hb ha' hb'
  have HLV := hidD (fun (w : World) => live_any w)
  have HA := hidD (fun (w : World) => show_any a 16 W ha' w)
  have HB := hidD (fun (w : World) => show_any b 16 W hb' w)
  rw [hX] at HA
  rw [hY] at HB
  clear hX hY ha hb
  go_enter Try.func5, Try.ntmps5
  go_wp2_with (go_at_call 9; refine (HLV.out _).mono ?_; rintro e w1 ⟨rfl, hb1⟩)
  go_at_call 23
  refine (HA.out _).mono ?_
  rintro e w2 ⟨rfl, hb2⟩
  go_wp2_with fail
  go_at_call 23
  refine (HB.out _).mono ?_
  rintro e w3 ⟨rfl, hb3⟩
  go_wp2_with (go_at_call 8; refine (no_any _ _).mono ?_; rintro e w' ⟨rfl, hw⟩; rw [hw]; clear hw w')
  go_ret
  refine ⟨ret_bool ?_, hb1.trans ((hb2.mono hb1.size).trans (hb3.mono (Nat.le_trans hb1.size hb2.size)))⟩
  by_cases hab : a = b
  · subst hab; simp
  · have : ¬ ((a : Int) = (b : Int)) := by omega
    simp [hab, this]
set_option maxRecDepth 100000 in
set_option maxHeartbeats 400000 in
theorem order_16 (a b : Nat) (ha' : a ≤ 18446744073709551615) (hb' : b ≤ 18446744073709551615) (w : World) : Calls Try.prog 5 #[.int .u64 a, .int .u64 b, .int .i64 16] w fun e w' => e = .returned (.bool true) ∧ Below w.heap.size w w' := by
  have h16 : (16 : Nat) ^ 16 = 18446744073709551616 := by decide
  obtain ⟨X, Y, hX, hY, lX, lY, hl, he⟩ := order_plain (a := a) (b := b) (W := 16) (by decide) (by decide) (by omega) (by omega) ha' hb'
  have HLV := hidD (fun (w : World) => live_any w)
  have HA := hidD (fun (w : World) => show_any a 16 16 ha' w)
  have HB := hidD (fun (w : World) => show_any b 16 16 hb' w)
  rw [show showS a 16 16 = (X, 0) from hX] at HA
  rw [show showS b 16 16 = (Y, 0) from hY] at HB
  clear hX hY h16
  go_enter Try.func5, Try.ntmps5
  go_wp2_with (go_at_call 9; refine (HLV.out _).mono ?_; rintro e w1 ⟨rfl, hb1⟩)
  go_at_call 23
  refine (HA.out _).mono ?_
  rintro e w2 ⟨rfl, hb2⟩
  go_wp2_with fail
  go_at_call 23
  refine (HB.out _).mono ?_
  rintro e w3 ⟨rfl, hb3⟩
  go_wp2_with (go_at_call 8; refine (no_any _ _).mono ?_; rintro e w' ⟨rfl, hw⟩; rw [hw]; clear hw w')
  go_ret
  refine ⟨ret_bool ?_, hb1.trans ((hb2.mono hb1.size).trans (hb3.mono (Nat.le_trans hb1.size hb2.size)))⟩
  by_cases hab : a = b
  · subst hab; simp
  · have : ¬ ((a : Int) = (b : Int)) := by omega
    simp [hab, this]

theorem shr_zero {a W : Nat} (h : (a : Int) / 2 ^ (4 * W) = 0) : a < 16 ^ W := by
  have h1 : ((a / 2 ^ (4 * W) : Nat) : Int) = 0 := by
    rw [Int.natCast_ediv]
    simpa using h
  have h2 : a / 2 ^ (4 * W) = 0 := by omega
  have h3 := (Nat.div_eq_zero_iff.1 h2).resolve_left (Nat.pos_iff_ne_zero.1 (Nat.pow_pos (by decide)))
  rw [Nat.pow_mul] at h3
  exact h3
theorem order_any (a b : Nat) (width : Int) (ha : a ≤ 18446744073709551615) (hb : b ≤ 18446744073709551615) (w : World) : Calls Try.prog 5 #[.int .u64 a, .int .u64 b, .int .i64 width] w fun e w' => e = .returned (.bool true) ∧ Below w.heap.size w w' := by
  by_cases hw : width < 1 ∨ 16 < width
  · exact order_out1 a b width hw w
  · obtain ⟨W, rfl⟩ : ∃ W : Nat, width = W := ⟨width.toNat, by omega⟩
    by_cases h16 : W = 16
    · subst h16
      exact order_16 a b ha hb w
    · by_cases hx : (a : Int) / 2 ^ (4 * W) = 0
      · by_cases hy : (b : Int) / 2 ^ (4 * W) = 0
        · exact order_go a b W ha hb (by omega) (by omega) hx hy (shr_zero hx) (shr_zero hy) w
        · exact order_out3 a b W (by omega) (by omega) hx hy w
      · exact order_out2 a b W (by omega) (by omega) hx w
end Go.Proofs.Ytmmlmpcalhfigaa
