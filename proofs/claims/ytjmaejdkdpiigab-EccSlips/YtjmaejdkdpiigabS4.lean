/- EccSlips of any text, place and digit. -/
import Derived.Test.YtjmaejdkdpiigabS3
namespace Go.Proofs.Ytjmaejdkdpiigab
open Go.RowKit
set_option linter.unusedVariables false

set_option maxRecDepth 100000 in
set_option maxHeartbeats 6400000 in
theorem slipsLaw_ok (s : List UInt8) (hs : s.length ≤ 140737488351232) (hd : AllD s) (at1 : Int) (ha1 : -9223372036854775808 ≤ at1) (ha2 : at1 < 9223372036854775808) (dg : Nat) (hdg : dg ≤ 255) (w : World) : Calls Try.prog 3 #[.string ⟨s.toArray⟩, .int .i64 at1, .int .u8 (dg : Int)] w fun e w' => e = .returned (.bool true) ∧ Below w.heap.size w w' := by
  have HL := hidD live_any
  have HN : Hid (∀ z w, Calls Try.prog 7 #[.int .i64 z] w fun e w' => e = .returned (.int .i64 z) ∧ w' = w) := fun z w => no_any z w
  have H1 := hidD (luhn_ok s (by omega) hd)
  have H2 := hidD (verhoeff_ok s (by omega) hd)
  have HR1 : Hid (∀ k : Nat, k < 10 → ∀ w, Calls Try.prog 8 #[.string ⟨(s ++ [chS k]).toArray⟩] w fun e w' => e = .returned (.bool (decide (k = ckS (suTo (dgS s) 1 s.length)))) ∧ w' = w) := fun k hk w => by have := luhnRight_any (s ++ [chS k]) (by simp; omega) w; rw [lr_snoc hd hk] at this; exact this
  have HR2 : Hid (∀ k : Nat, k < 10 → ∀ w, Calls Try.prog 9 #[.string ⟨(s ++ [chS k]).toArray⟩] w fun e w' => e = .returned (.bool (decide (k = ivS (veTo (dgS s) 1 s.length)))) ∧ w' = w) := fun k hk w => by have := verhoeffRight_any (s ++ [chS k]) (by simp; omega) w; rw [vr_snoc hd hk] at this; exact this
  have hlr := hidD (lr_own hd)
  have hvr := hidD (vr_own hd)
  have hC : ckS (suTo (dgS s) 1 s.length) < 10 := Nat.mod_lt _ (by decide)
  have hV : ivS (veTo (dgS s) 1 s.length) < 10 := (iv_ok _ (ve_lt (dg_dgs hd) 1 s.length)).1
  have HAD := hidD (text_add s hs)
  clear hd
  generalize ckS (suTo (dgS s) 1 s.length) = C at *
  generalize ivS (veTo (dgS s) 1 s.length) = V at *
  have hcC := ch_nat hC
  have hcV := ch_nat hV
  obtain ⟨CA, hCA⟩ : ∃ x, x = 48 + C := ⟨_, rfl⟩
  obtain ⟨CB, hCB⟩ : ∃ x, x = 48 + V := ⟨_, rfl⟩
  rw [← hCA] at H1 hcC
  rw [← hCB] at H2 hcV
  have HCA := hidD hCA
  have HCB := hidD hCB
  have hCAl : CA ≤ 57 := by omega
  have hCBl : CB ≤ 57 := by omega
  clear hCA hCB
  have HcC := hidD hcC
  have HcV := hidD hcV
  clear hcC hcV
  go_enter Try.func3, Try.ntmps3
  go_wp2_with (first | (go_at_call 4; refine (HL.out _).mono ?_; rintro e w1 ⟨rfl, hb1⟩) | (go_at_call 5; refine (H1.out _).mono ?_; rintro e wx ⟨rfl, hbx⟩) | (go_at_call 6; refine (H2.out _).mono ?_; rintro e wx ⟨rfl, hbx⟩) | (go_at_call 7; refine (HN.out _ _).mono ?_; rintro e wx ⟨rfl, hbx⟩))
  have HB1 := hidD hb1
  clear hb1 HL H1 H2 HN
  go_loopw [11, 12] (fun i t wr => ∃ k : Nat, k ≤ 10 ∧ i = .int .u8 ((48 + k : Nat) : Int) ∧ Hid (Below w.heap.size w wr)) (fun i _ _ => 60 - (intOf i).toNat)
  case atStart => exact ⟨0, by omega, rfl, HB1.out⟩
  case round =>
    obtain ⟨k, hk, rfl, hbel⟩ := hrel
    by_cases hlt : k < 10
    · have hcv := one_text (chS k) (48 + k) (ch_nat hlt) wr
      have hadd := HAD.out (chS k)
      have HRk1 := hidD (HR1.out k hlt)
      have HRk2 := hidD (HR2.out k hlt)
      have HBn : Hid (Below w.heap.size w (wr.alloc (.cells #[.int .u8 ((48 + k : Nat) : Int)] (5 : TypeId)))) := Below.next hbel.out ((Below.refl _ _).alloc (Nat.le_refl _) _)
      have e1 : (((48 + k : Nat) : Int) == (CA : Int)) = decide (k = C) := by rw [nat_beq, HCA.out]; exact decide_eq_decide.mpr (by omega)
      have e2 : (((48 + k : Nat) : Int) == (CB : Int)) = decide (k = V) := by rw [nat_beq, HCB.out]; exact decide_eq_decide.mpr (by omega)
      have HNx : Hid (48 + (k + 1) = 48 + k + 1) := (rfl : _ = _)
      have hv : 48 + k ≤ 57 := by omega
      generalize decide (k = C) = B1 at *
      generalize decide (k = V) = B2 at *
      generalize 48 + k = v at *
      generalize chS k = c at *
      have hvi : (v : Int) ≤ 57 := by omega
      go_wp2_with (first | (go_at_call 8; refine (HRk1.out _).mono ?_; rintro e wx ⟨rfl, hbx⟩) | (go_at_call 9; refine (HRk2.out _).mono ?_; rintro e wx ⟨rfl, hbx⟩))
      go_roundw
      case rel => exact ⟨k + 1, by omega, by rw [HNx.out]; go_num, HBn.out⟩
      case measure => simp [intOf]; omega
    · obtain rfl : k = 10 := by omega
      have hcv1 := one_text (chS C) CA HcC.out wr
      have hadd1 := HAD.out (chS C)
      have hadd2 := HAD.out (chS V)
      obtain ⟨cap1, x1, hx1, row1, bx1⟩ := bytes_new (wr.alloc (.cells #[.int .u8 (CA : Int)] (5 : TypeId))) (s ++ [chS C])
      have hcv2 := one_text (chS V) CB HcV.out x1
      obtain ⟨cap2, x2, hx2, row2, bx2⟩ := bytes_new (x1.alloc (.cells #[.int .u8 (CB : Int)] (5 : TypeId))) (s ++ [chS V])
      have hW1 := (Below.next hbel.out ((Below.refl wr.heap.size wr).alloc (Nat.le_refl _) (.cells #[.int .u8 (CA : Int)] (5 : TypeId))))
      have hW2 := Below.next hW1 bx1
      have hW3 := Below.next hW2 ((Below.refl x1.heap.size x1).alloc (Nat.le_refl _) (.cells #[.int .u8 (CB : Int)] (5 : TypeId)))
      have hW4 := Below.next hW3 bx2
      have row1b : RowF x2 (wr.alloc (.cells #[.int .u8 (CA : Int)] (5 : TypeId))).heap.size (s ++ [chS C]) := ((row1.next ((Below.refl x1.heap.size x1).alloc (Nat.le_refl _) (.cells #[.int .u8 (CB : Int)] (5 : TypeId)))).next bx2)
      have hg : (wr.alloc (.cells #[.int .u8 (CA : Int)] (5 : TypeId))).heap.size ≠ (x1.alloc (.cells #[.int .u8 (CB : Int)] (5 : TypeId))).heap.size := by
        have := row1.lt
        have e : (x1.alloc (.cells #[.int .u8 (CB : Int)] (5 : TypeId))).heap.size = x1.heap.size + 1 := by simp
        omega
      have hB1 : w.heap.size ≤ (wr.alloc (.cells #[.int .u8 (CA : Int)] (5 : TypeId))).heap.size := hW1.size
      have hB2 : w.heap.size ≤ (x1.alloc (.cells #[.int .u8 (CB : Int)] (5 : TypeId))).heap.size := hW3.size
      have hlen1 : (s ++ [chS C]).length = s.length + 1 := by simp
      have hlen2 : (s ++ [chS V]).length = s.length + 1 := by simp
      have hpl := Nat.mod_lt ((if at1 < 0 then -(at1 + 1) else at1).toNat) (show 0 < s.length + 1 by omega)
      have hz1 : (wr.alloc (.cells #[.int .u8 (CA : Int)] (5 : TypeId))).heap.size = wr.heap.size + 1 := by simp
      have hz2 : (x1.alloc (.cells #[.int .u8 (CB : Int)] (5 : TypeId))).heap.size = x1.heap.size + 1 := by simp
      have HSL : Hid (Calls Try.prog 10 #[.slice (some ⟨wr.heap.size + 1, 0, none⟩) (s.length + 1) cap1, .slice (some ⟨x1.heap.size + 1, 0, none⟩) (s.length + 1) cap2, .int .i64 (plS (s.length + 1) at1 : Int), .int .u8 ((48 : Int) + ((dg % 10 : Nat) : Int))] x2 fun e w' => e = .returned (.bool true) ∧ Below w.heap.size w w') := by
        have h := slips_any (s ++ [chS C]) (s ++ [chS V]) hlr.out hvr.out (by rw [hlen1, hlen2]) (by rw [hlen1]; omega) _ _ cap1 cap2 hg (plS (s.length + 1) at1) (by rw [hlen1]; exact hpl) (chS (dg % 10)) (by rw [ch_nat (Nat.mod_lt _ (by decide))]; omega) x2 row1b row2
        rw [ch_nat (Nat.mod_lt _ (by decide)), hlen1, hlen2] at h
        rw [← hz1, ← hz2]
        rw [show (48 : Int) + ((dg % 10 : Nat) : Int) = ((48 + dg % 10 : Nat) : Int) by omega]
        exact h.mono fun e w' q => ⟨q.1, q.2 w w.heap.size hB1 hB2 hW4⟩
      rw [hlen1] at hx1
      rw [hlen2] at hx2
      have hdm : (dg : Int).tmod 10 = ((dg % 10 : Nat) : Int) := rfl
      have hdl : dg % 10 < 10 := Nat.mod_lt _ (by decide)
      have hpn := pl_neg (s.length + 1) at1
      have hpp := pl_pos (s.length + 1) at1
      have hn0 : ¬ ((s.length + 1 : Nat) : Int) = 0 := by omega
      clear hz1 hz2 hlen1 hlen2 hpl hg row1 row2 row1b bx1 bx2 hW1 hW2 hW3 hW4 hB1 hB2 HAD
      generalize plS (s.length + 1) at1 = P at *
      generalize dg % 10 = dm at *
      have hNb : s.length + 1 ≤ 140737488355328 := by omega
      generalize s.length + 1 = N at *
      by_cases hneg : at1 < 0
      · have hpa := hpn hneg
        clear hpn hpp
        go_wp2_with fail
        go_at_call 10
        refine HSL.out.mono ?_
        rintro e wz ⟨rfl, hbz⟩
        go_wp2_with fail
        go_ret
        exact ⟨rfl, hbz⟩
      · have hpa := hpp hneg
        clear hpn hpp
        go_wp2_with fail
        go_at_call 10
        refine HSL.out.mono ?_
        rintro e wz ⟨rfl, hbz⟩
        go_wp2_with fail
        go_ret
        exact ⟨rfl, hbz⟩
theorem slipsLaw_any (s : List UInt8) (hs : s.length ≤ 140737488351232) (at1 : Int) (ha1 : -9223372036854775808 ≤ at1) (ha2 : at1 < 9223372036854775808) (dg : Nat) (hdg : dg ≤ 255) (w : World) : Calls Try.prog 3 #[.string ⟨s.toArray⟩, .int .i64 at1, .int .u8 (dg : Int)] w fun e w' => e = .returned (.bool true) ∧ Below w.heap.size w w' := by
  by_cases hd : AllD s
  · exact slipsLaw_ok s hs hd at1 ha1 ha2 dg hdg w
  · exact slipsLaw_no s hs hd at1 dg w
end Go.Proofs.Ytjmaejdkdpiigab
