/- What luhnSum, verhoeffProduct, Luhn, LuhnRight, Verhoeff and VerhoeffRight of ecc answer. -/
import Derived.Test.YtjmaejdkdpiigaaD2
namespace Go.Proofs.Ytjmaejdkdpiigaa
open Go.RowKit
set_option linter.unusedVariables false

theorem lu_odd (k : Nat) (d : Nat) (h : k % 2 = 1) : luS k d = d * 2 / 10 + d * 2 % 10 := by unfold luS; rw [if_pos h]
theorem lu_even (k : Nat) (d : Nat) (h : ¬ k % 2 = 1) : luS k d = d := by unfold luS; rw [if_neg h]
set_option maxRecDepth 100000 in
set_option maxHeartbeats 800000 in
theorem luhnSum_any (s : List UInt8) (hs : s.length ≤ 140737488355328) (hd : AllD s) (b : Nat) (hb : b ≤ 1) (w : World) : Calls Try.prog 44 #[.string ⟨s.toArray⟩, .int .i64 (b : Int)] w fun e w' => e = .returned (.int .i64 (suTo (dgS s) b s.length : Int)) ∧ w' = w := by
  have HF := hidD (fromRight_any s hs hd)
  have hg := dg_dgs hd
  have hz := ba_size s
  have hs2 : ((({ data := s.toArray } : ByteArray).size : Nat) : Int) ≤ 140737488355328 := by rw [hz]; omega
  clear hd
  go_enter Try.func44, Try.ntmps44
  go_wp2_with fail
  go_loopw [5, 10] (fun t i wr => ∃ k : Nat, k ≤ s.length ∧ i = .int .i64 k ∧ t = .int .i64 (suTo (dgS s) b k : Int) ∧ wr = w) (fun _ i _ => s.length - (intOf i).toNat)
  case atStart => exact ⟨0, Nat.zero_le _, rfl, rfl, rfl⟩
  case round =>
    obtain ⟨k, hk, rfl, rfl, rfl⟩ := hrel
    have hsu := su_lt (dgS s) b k
    by_cases hlt : k < s.length
    · have hki : (k : Int) < s.length := by omega
      have HFk := hidD (HF.out k hlt)
      have hdk := hg k
      have HS : Hid (suTo (dgS s) b (k + 1) = (suTo (dgS s) b k + luS (k + b) (dgS s k)) % 10) := (rfl : _ = _)
      have hkb : ((k : Int) + (b : Int)).tmod 2 = (((k + b) % 2 : Nat) : Int) := by rw [← Int.natCast_add]; rfl
      have hodd := lu_odd (k + b) (dgS s k)
      have hev := lu_even (k + b) (dgS s k)
      generalize dgS s k = d at *
      generalize suTo (dgS s) b k = T at *
      have hm2 : (k + b) % 2 < 2 := Nat.mod_lt _ (by decide)
      clear hz hg
      by_cases hp : (k + b) % 2 = 1
      · rw [hp] at hkb
        have ho := hodd hp
        have HL := hidD ho
        have q1 : ((d : Int) * 2).tdiv 10 = ((d * 2 / 10 : Nat) : Int) := by rw [show (d : Int) * 2 = ((d * 2 : Nat) : Int) by omega]; rfl
        have q2 : ((d : Int) * 2).tmod 10 = ((d * 2 % 10 : Nat) : Int) := by rw [show (d : Int) * 2 = ((d * 2 : Nat) : Int) by omega]; rfl
        have q3 : d * 2 / 10 < 2 := by omega
        have q4 : d * 2 % 10 < 10 := Nat.mod_lt _ (by decide)
        clear hodd hev ho hp
        generalize d * 2 / 10 = U at *
        generalize d * 2 % 10 = V at *
        have q5 : ((T : Int) + ((U : Int) + (V : Int))).tmod 10 = (((T + (U + V)) % 10 : Nat) : Int) := by rw [← Int.natCast_add, ← Int.natCast_add]; rfl
        have q6 : (T + (U + V)) % 10 < 10 := Nat.mod_lt _ (by decide)
        go_wp2_with (go_at_call 55; refine (HFk.out _).mono ?_; rintro e w2 ⟨rfl, hb2⟩)
        go_roundw
        case rel => exact ⟨k + 1, by omega, by go_num, by rw [HS.out, HL.out]; simp, trivial⟩
        case measure => simp [intOf]; omega
      · have hp0 : (k + b) % 2 = 0 := by omega
        rw [hp0] at hkb
        have HL := hidD (hev hp)
        clear hodd hev hp hp0
        have q5 : ((T : Int) + (d : Int)).tmod 10 = (((T + d) % 10 : Nat) : Int) := by rw [← Int.natCast_add]; rfl
        have q6 : (T + d) % 10 < 10 := Nat.mod_lt _ (by decide)
        go_wp2_with (go_at_call 55; refine (HFk.out _).mono ?_; rintro e w2 ⟨rfl, hb2⟩)
        go_roundw
        case rel => exact ⟨k + 1, by omega, by go_num, by rw [HS.out, HL.out]; simp, trivial⟩
        case measure => simp [intOf]; omega
    · have HE : Hid (s.length = k) := (show s.length = k by omega)
      have hki : ¬ (k : Int) < s.length := by omega
      clear hk hlt hz hs2
      go_wp2_with fail
      go_ret
      exact ⟨by rw [HE.out]; rfl, rfl⟩

set_option maxRecDepth 100000 in
set_option maxHeartbeats 800000 in
theorem verhoeffProduct_any (s : List UInt8) (hs : s.length ≤ 140737488355328) (hd : AllD s) (b : Nat) (hb : b ≤ 1) (w : World) : Calls Try.prog 46 #[.string ⟨s.toArray⟩, .int .i64 (b : Int)] w fun e w' => e = .returned (.int .i64 (veTo (dgS s) b s.length : Int)) ∧ w' = w := by
  have HF := hidD (fromRight_any s hs hd)
  have hg := dg_dgs hd
  have hz := ba_size s
  have hs2 : ((({ data := s.toArray } : ByteArray).size : Nat) : Int) ≤ 140737488355328 := by rw [hz]; omega
  clear hd
  go_enter Try.func46, Try.ntmps46
  go_wp2_with fail
  go_loopw [5, 9] (fun t i wr => ∃ k : Nat, k ≤ s.length ∧ i = .int .i64 k ∧ t = .int .i64 (veTo (dgS s) b k : Int) ∧ wr = w) (fun _ i _ => s.length - (intOf i).toNat)
  case atStart => exact ⟨0, Nat.zero_le _, rfl, rfl, rfl⟩
  case round =>
    obtain ⟨k, hk, rfl, rfl, rfl⟩ := hrel
    have hve := ve_lt hg b k
    by_cases hlt : k < s.length
    · have hki : (k : Int) < s.length := by omega
      have HFk := hidD (HF.out k hlt)
      have hdk := hg k
      have HS : Hid (veTo (dgS s) b (k + 1) = prS (veTo (dgS s) b k) (peS ((k + b) % 8) (dgS s k))) := (rfl : _ = _)
      have hpe := pe_lt ((k + b) % 8) _ hdk
      have HPm : Hid (∀ w, Calls Try.prog 56 #[.int .i64 ((k : Int) + (b : Int)), .int .i64 (dgS s k : Int)] w fun e w' => e = .returned (.int .i64 (peS ((k + b) % 8) (dgS s k) : Int)) ∧ w' = w) := fun w => by
        have := permuted_any ((k : Int) + (b : Int)) (dgS s k : Int) w
        rw [md_nat _ 10 hdk, show mdS ((k : Int) + (b : Int)) 8 = (k + b) % 8 by unfold mdS; omega] at this
        exact this
      have HPr : Hid (∀ w, Calls Try.prog 33 #[.int .i64 (veTo (dgS s) b k : Int), .int .i64 (peS ((k + b) % 8) (dgS s k) : Int)] w fun e w' => e = .returned (.int .i64 (prS (veTo (dgS s) b k) (peS ((k + b) % 8) (dgS s k)) : Int)) ∧ w' = w) := fun w => by
        have := product_any (veTo (dgS s) b k : Int) (peS ((k + b) % 8) (dgS s k) : Int) w
        rw [md_nat _ 10 hve, md_nat _ 10 hpe] at this
        exact this
      clear hz hg
      generalize prS (veTo (dgS s) b k) (peS ((k + b) % 8) (dgS s k)) = R at *
      generalize peS ((k + b) % 8) (dgS s k) = Q at *
      generalize veTo (dgS s) b k = T at *
      generalize dgS s k = d at *
      go_wp2_with (first | (go_at_call 55; refine (HFk.out _).mono ?_; rintro e w2 ⟨rfl, hb2⟩) | (go_at_call 56; refine (HPm.out _).mono ?_; rintro e w2 ⟨rfl, hb2⟩) | (go_at_call 33; refine (HPr.out _).mono ?_; rintro e w2 ⟨rfl, hb2⟩))
      go_roundw
      case rel => exact ⟨k + 1, by omega, by go_num, by rw [HS.out], trivial⟩
      case measure => simp [intOf]; omega
    · have HE : Hid (s.length = k) := (show s.length = k by omega)
      have hki : ¬ (k : Int) < s.length := by omega
      clear hk hlt hz hs2
      go_wp2_with fail
      go_ret
      exact ⟨by rw [HE.out]; rfl, rfl⟩

set_option maxRecDepth 100000 in
theorem luhn_ok (s : List UInt8) (hs : s.length ≤ 140737488355328) (hd : AllD s) (w : World) : Calls Try.prog 24 #[.string ⟨s.toArray⟩] w fun e w' => e = .returned (.tuple #[.int .u8 ((48 + ckS (suTo (dgS s) 1 s.length) : Nat) : Int), .int .i64 0]) ∧ w' = w := by
  have HA : Hid (∀ w, Calls Try.prog 43 #[.string ⟨s.toArray⟩] w fun e w' => e = .returned (.bool true) ∧ w' = w) := fun w => by have := areDigits_any s hs w; rw [decide_eq_true hd] at this; exact this
  have HL : Hid (∀ w, Calls Try.prog 44 #[.string ⟨s.toArray⟩, .int .i64 1] w fun e w' => e = .returned (.int .i64 (suTo (dgS s) 1 s.length : Int)) ∧ w' = w) := fun w => luhnSum_any s hs hd 1 (Nat.le_refl _) w
  have h := su_lt (dgS s) 1 s.length
  generalize suTo (dgS s) 1 s.length = T at *
  have ht : ((10 : Int) - (T : Int)).tmod 10 = (ckS T : Int) := by
    have : ∀ T < 10, ((10 : Int) - ((T : Nat) : Int)).tmod 10 = (ckS T : Int) := by decide +kernel
    exact this T h
  have hc : ckS T < 10 := Nat.mod_lt _ (by decide)
  generalize ckS T = C at *
  clear hd
  go_enter Try.func24, Try.ntmps24
  go_wp2_with (first | (go_at_call 43; refine (HA.out _).mono ?_; rintro e w2 ⟨rfl, hb2⟩) | (go_at_call 44; refine (HL.out _).mono ?_; rintro e w2 ⟨rfl, hb2⟩))
  go_ret2
  exact ⟨by first | rfl | (simp; done), rfl⟩
theorem luhn_no (s : List UInt8) (hs : s.length ≤ 140737488355328) (hd : ¬ AllD s) (w : World) : Calls Try.prog 24 #[.string ⟨s.toArray⟩] w fun e w' => e = .returned (.tuple #[.int .u8 0, .int .i64 20]) ∧ w' = w := by
  have HA : Hid (∀ w, Calls Try.prog 43 #[.string ⟨s.toArray⟩] w fun e w' => e = .returned (.bool false) ∧ w' = w) := fun w => by have := areDigits_any s hs w; rw [decide_eq_false hd] at this; exact this
  clear hd
  go_enter Try.func24, Try.ntmps24
  go_wp2_with (go_at_call 43; refine (HA.out _).mono ?_; rintro e w2 ⟨rfl, hb2⟩)
  go_ret2
  exact ⟨rfl, rfl⟩
set_option maxRecDepth 100000 in
theorem verhoeff_ok (s : List UInt8) (hs : s.length ≤ 140737488355328) (hd : AllD s) (w : World) : Calls Try.prog 26 #[.string ⟨s.toArray⟩] w fun e w' => e = .returned (.tuple #[.int .u8 ((48 + ivS (veTo (dgS s) 1 s.length) : Nat) : Int), .int .i64 0]) ∧ w' = w := by
  have HA : Hid (∀ w, Calls Try.prog 43 #[.string ⟨s.toArray⟩] w fun e w' => e = .returned (.bool true) ∧ w' = w) := fun w => by have := areDigits_any s hs w; rw [decide_eq_true hd] at this; exact this
  have HL : Hid (∀ w, Calls Try.prog 46 #[.string ⟨s.toArray⟩, .int .i64 1] w fun e w' => e = .returned (.int .i64 (veTo (dgS s) 1 s.length : Int)) ∧ w' = w) := fun w => verhoeffProduct_any s hs hd 1 (Nat.le_refl _) w
  have h := ve_lt (dg_dgs hd) 1 s.length
  have HI : Hid (∀ w, Calls Try.prog 34 #[.int .i64 (veTo (dgS s) 1 s.length : Int)] w fun e w' => e = .returned (.int .i64 (ivS (veTo (dgS s) 1 s.length) : Int)) ∧ w' = w) := fun w => by have := inverse_any (veTo (dgS s) 1 s.length : Int) w; rw [md_nat _ 10 h] at this; exact this
  generalize veTo (dgS s) 1 s.length = T at *
  have hc := (iv_ok T h).1
  generalize ivS T = C at *
  clear hd
  go_enter Try.func26, Try.ntmps26
  go_wp2_with (first | (go_at_call 43; refine (HA.out _).mono ?_; rintro e w2 ⟨rfl, hb2⟩) | (go_at_call 46; refine (HL.out _).mono ?_; rintro e w2 ⟨rfl, hb2⟩) | (go_at_call 34; refine (HI.out _).mono ?_; rintro e w2 ⟨rfl, hb2⟩))
  go_ret2
  exact ⟨by first | rfl | (simp; done), rfl⟩
theorem verhoeff_no (s : List UInt8) (hs : s.length ≤ 140737488355328) (hd : ¬ AllD s) (w : World) : Calls Try.prog 26 #[.string ⟨s.toArray⟩] w fun e w' => e = .returned (.tuple #[.int .u8 0, .int .i64 20]) ∧ w' = w := by
  have HA : Hid (∀ w, Calls Try.prog 43 #[.string ⟨s.toArray⟩] w fun e w' => e = .returned (.bool false) ∧ w' = w) := fun w => by have := areDigits_any s hs w; rw [decide_eq_false hd] at this; exact this
  clear hd
  go_enter Try.func26, Try.ntmps26
  go_wp2_with (go_at_call 43; refine (HA.out _).mono ?_; rintro e w2 ⟨rfl, hb2⟩)
  go_ret2
  exact ⟨rfl, rfl⟩
end Go.Proofs.Ytjmaejdkdpiigaa
