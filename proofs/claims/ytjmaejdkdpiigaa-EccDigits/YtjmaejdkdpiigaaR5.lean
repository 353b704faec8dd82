/- What the document's Luhn and Verhoeff answer. -/
import Derived.Test.YtjmaejdkdpiigaaP1
import Derived.Test.YtjmaejdkdpiigaaR2
import Derived.Test.YtjmaejdkdpiigaaR4
import Derived.Laws.IdiomStrings
import Derived.Laws.Concat
namespace Go.Proofs.Ytjmaejdkdpiigaa
open Go.RowKit
set_option linter.unusedVariables false

set_option maxRecDepth 100000 in
set_option maxHeartbeats 1600000 in
theorem refLuhn_ok (s : List UInt8) (hs : s.length ≤ 140737488351232) (hd : AllD s) (w : World) : Calls Try.prog 25 #[.string ⟨s.toArray⟩] w fun e w' => e = .returned (.tuple #[.int .u8 ((48 + ckS (suTo (dgS s) 1 s.length) : Nat) : Int), .int .i64 0]) ∧ Below w.heap.size w w' := by
  have HA : Hid (∀ w, Calls Try.prog 45 #[.string ⟨s.toArray⟩] w fun e w' => e = .returned (.bool true) ∧ w' = w) := fun w => by have := refDigits_any s (by omega) w; rw [decide_eq_true hd] at this; exact this
  have HL : Hid (∀ k : Nat, k < 10 → ∀ w, Calls Try.prog 29 #[.string ⟨(s ++ [chS k]).toArray⟩] w fun e w' => e = .returned (.bool (decide (k = ckS (suTo (dgS s) 1 s.length)))) ∧ Below w.heap.size w w') := fun k hk w => by
    have := (refLuhnRight_any (s ++ [chS k]) (by simp; omega) w).mono fun e w' h => (⟨h.1, h.2 ▸ Below.refl _ _⟩ : _ ∧ Below w.heap.size w w')
    rw [lr_snoc hd hk] at this; exact this
  have hC : ckS (suTo (dgS s) 1 s.length) < 10 := Nat.mod_lt _ (by decide)
  generalize ckS (suTo (dgS s) 1 s.length) = J at *
  have HAP : Hid (∀ c, ({ data := s.toArray } : ByteArray) ++ { data := #[c] } = ⟨(s ++ [c]).toArray⟩) := fun c => ba_append s [c]
  have HCV : Hid (∀ (c : UInt8) (w1 : World), (convert (73 : TypeId) (9 : TypeId) (.slice (some ⟨w1.heap.size, 0, none⟩) 1 1)).run Try.prog (w1.alloc (.cells #[.int .u8 (c.toNat : Int)] (5 : TypeId))) = .ok (.string ⟨#[c]⟩) (w1.alloc (.cells #[.int .u8 (c.toNat : Int)] (5 : TypeId)))) := fun c w1 => by
    refine run_convert_bytes_back _ (73 : TypeId) (9 : TypeId) (5 : TypeId) ⟨w1.heap.size, 0, none⟩ 1 [c] Try.underlying73 Try.underlying5 Try.underlying9 (fun j hj => ?_)
    obtain rfl : j = 0 := by simpa using hj
    rw [Go.WideShapes.add_plain]
    show (w1.alloc _).cell? _ = _
    rw [World.cell?_alloc_new]
    rfl
  clear hd
  go_enter Try.func25, Try.ntmps25
  go_wp2_with (go_at_call 45; refine (HA.out _).mono ?_; rintro e w2 ⟨rfl, hb2⟩)
  go_loopw [4] (fun i wr => ∃ k : Nat, k ≤ J ∧ i = .int .u8 ((48 + k : Nat) : Int) ∧ Hid (Below w.heap.size w wr)) (fun i _ => 60 - (intOf i).toNat)
  case atStart => exact ⟨0, Nat.zero_le _, rfl, Below.refl _ _⟩
  case round =>
    obtain ⟨k, hk, rfl, hbel⟩ := hrel
    by_cases hlt : k < 9
    · have hch := ch_nat (show k < 10 by omega)
      have HLk := hidD (HL.out k (by omega))
      have hadd : ∀ w1 : World, (Op.stringOp .add ({ data := s.toArray } : ByteArray) { data := #[chS k] }).run Try.prog w1 = .ok (.string ⟨(s ++ [chS k]).toArray⟩) w1 := fun w1 => by
        rw [run_string_add_sum _ _ _ (by rw [ba_size, show ({ data := #[chS k] } : ByteArray).size = 1 from rfl]; omega), HAP.out (chS k)]
      have hcv := HCV.out (chS k)
      rw [hch] at hcv
      generalize chS k = c at *
      have HB1 : Hid (∀ w2, Below (wr.alloc (.cells #[.int .u8 ((48 + k : Nat) : Int)] (5 : TypeId))).heap.size (wr.alloc (.cells #[.int .u8 ((48 + k : Nat) : Int)] (5 : TypeId))) w2 → Below w.heap.size w w2) := fun w2 hb => Below.next (Below.next hbel.out ((Below.refl _ _).alloc (Nat.le_refl _) _)) hb
      have HN : Hid (48 + (k + 1) = 48 + k + 1) := (rfl : _ = _)
      have hv : 48 + k < 57 := by omega
      have HV : Hid (48 + k = 48 + k) := (rfl : _ = _)
      by_cases he : k = J
      · rw [decide_eq_true he] at HLk
        subst he
        generalize hv0 : 48 + k = v at *
        have HQ := hidD hv0
        clear hv0
        have hvi : (v : Int) < 57 := by omega
        go_wp2_with (go_at_call 29; refine (HLk.out _).mono ?_; rintro e w2 ⟨rfl, hb2⟩)
        go_ret2
        exact ⟨by first | rfl | (rw [HQ.out]; rfl) | (rw [HQ.out]), HB1.out _ hb2⟩
      · rw [decide_eq_false he] at HLk
        generalize 48 + k = v at *
        have hvi : (v : Int) < 57 := by omega
        go_wp2_with (go_at_call 29; refine (HLk.out _).mono ?_; rintro e w2 ⟨rfl, hb2⟩)
        go_roundw
        case rel => exact ⟨k + 1, by omega, by rw [HN.out]; go_num, HB1.out _ hb2⟩
        case measure => simp [intOf]; omega
    · obtain rfl : k = 9 := by omega
      obtain rfl : J = 9 := by omega
      go_wp2_with fail
      go_ret2
      exact ⟨rfl, hbel.out⟩
theorem refLuhn_no (s : List UInt8) (hs : s.length ≤ 140737488355328) (hd : ¬ AllD s) (w : World) : Calls Try.prog 25 #[.string ⟨s.toArray⟩] w fun e w' => e = .returned (.tuple #[.int .u8 0, .int .i64 20]) ∧ Below w.heap.size w w' := by
  have HA : Hid (∀ w, Calls Try.prog 45 #[.string ⟨s.toArray⟩] w fun e w' => e = .returned (.bool false) ∧ w' = w) := fun w => by have := refDigits_any s hs w; rw [decide_eq_false hd] at this; exact this
  clear hd
  go_enter Try.func25, Try.ntmps25
  go_wp2_with (go_at_call 45; refine (HA.out _).mono ?_; rintro e w2 ⟨rfl, hb2⟩)
  go_ret2
  exact ⟨rfl, Below.refl _ _⟩

set_option maxRecDepth 100000 in
set_option maxHeartbeats 1600000 in
theorem refVerhoeff_ok (s : List UInt8) (hs : s.length ≤ 140737488351232) (hd : AllD s) (w : World) : Calls Try.prog 27 #[.string ⟨s.toArray⟩] w fun e w' => e = .returned (.tuple #[.int .u8 ((48 + ivS (veTo (dgS s) 1 s.length) : Nat) : Int), .int .i64 0]) ∧ Below w.heap.size w w' := by
  have HA : Hid (∀ w, Calls Try.prog 45 #[.string ⟨s.toArray⟩] w fun e w' => e = .returned (.bool true) ∧ w' = w) := fun w => by have := refDigits_any s (by omega) w; rw [decide_eq_true hd] at this; exact this
  have HL : Hid (∀ k : Nat, k < 10 → ∀ w, Calls Try.prog 31 #[.string ⟨(s ++ [chS k]).toArray⟩] w fun e w' => e = .returned (.bool (decide (k = ivS (veTo (dgS s) 1 s.length)))) ∧ Below w.heap.size w w') := fun k hk w => by
    have := refVerhoeffRight_any (s ++ [chS k]) (by simp; omega) w
    rw [vr_snoc hd hk] at this; exact this
  have hC : ivS (veTo (dgS s) 1 s.length) < 10 := (iv_ok _ (ve_lt (dg_dgs hd) 1 s.length)).1
  generalize ivS (veTo (dgS s) 1 s.length) = J at *
  have HAP : Hid (∀ c, ({ data := s.toArray } : ByteArray) ++ { data := #[c] } = ⟨(s ++ [c]).toArray⟩) := fun c => ba_append s [c]
  have HCV : Hid (∀ (c : UInt8) (w1 : World), (convert (73 : TypeId) (9 : TypeId) (.slice (some ⟨w1.heap.size, 0, none⟩) 1 1)).run Try.prog (w1.alloc (.cells #[.int .u8 (c.toNat : Int)] (5 : TypeId))) = .ok (.string ⟨#[c]⟩) (w1.alloc (.cells #[.int .u8 (c.toNat : Int)] (5 : TypeId)))) := fun c w1 => by
    refine run_convert_bytes_back _ (73 : TypeId) (9 : TypeId) (5 : TypeId) ⟨w1.heap.size, 0, none⟩ 1 [c] Try.underlying73 Try.underlying5 Try.underlying9 (fun j hj => ?_)
    obtain rfl : j = 0 := by simpa using hj
    rw [Go.WideShapes.add_plain]
    show (w1.alloc _).cell? _ = _
    rw [World.cell?_alloc_new]
    rfl
  clear hd
  go_enter Try.func27, Try.ntmps27
  go_wp2_with (go_at_call 45; refine (HA.out _).mono ?_; rintro e w2 ⟨rfl, hb2⟩)
  go_loopw [4] (fun i wr => ∃ k : Nat, k ≤ J ∧ i = .int .u8 ((48 + k : Nat) : Int) ∧ Hid (Below w.heap.size w wr)) (fun i _ => 60 - (intOf i).toNat)
  case atStart => exact ⟨0, Nat.zero_le _, rfl, Below.refl _ _⟩
  case round =>
    obtain ⟨k, hk, rfl, hbel⟩ := hrel
    by_cases hlt : k < 9
    · have hch := ch_nat (show k < 10 by omega)
      have HLk := hidD (HL.out k (by omega))
      have hadd : ∀ w1 : World, (Op.stringOp .add ({ data := s.toArray } : ByteArray) { data := #[chS k] }).run Try.prog w1 = .ok (.string ⟨(s ++ [chS k]).toArray⟩) w1 := fun w1 => by
        rw [run_string_add_sum _ _ _ (by rw [ba_size, show ({ data := #[chS k] } : ByteArray).size = 1 from rfl]; omega), HAP.out (chS k)]
      have hcv := HCV.out (chS k)
      rw [hch] at hcv
      generalize chS k = c at *
      have HB1 : Hid (∀ w2, Below (wr.alloc (.cells #[.int .u8 ((48 + k : Nat) : Int)] (5 : TypeId))).heap.size (wr.alloc (.cells #[.int .u8 ((48 + k : Nat) : Int)] (5 : TypeId))) w2 → Below w.heap.size w w2) := fun w2 hb => Below.next (Below.next hbel.out ((Below.refl _ _).alloc (Nat.le_refl _) _)) hb
      have HN : Hid (48 + (k + 1) = 48 + k + 1) := (rfl : _ = _)
      have hv : 48 + k < 57 := by omega
      have HV : Hid (48 + k = 48 + k) := (rfl : _ = _)
      by_cases he : k = J
      · rw [decide_eq_true he] at HLk
        subst he
        generalize hv0 : 48 + k = v at *
        have HQ := hidD hv0
        clear hv0
        have hvi : (v : Int) < 57 := by omega
        go_wp2_with (go_at_call 31; refine (HLk.out _).mono ?_; rintro e w2 ⟨rfl, hb2⟩)
        go_ret2
        exact ⟨by first | rfl | (rw [HQ.out]; rfl) | (rw [HQ.out]), HB1.out _ hb2⟩
      · rw [decide_eq_false he] at HLk
        generalize 48 + k = v at *
        have hvi : (v : Int) < 57 := by omega
        go_wp2_with (go_at_call 31; refine (HLk.out _).mono ?_; rintro e w2 ⟨rfl, hb2⟩)
        go_roundw
        case rel => exact ⟨k + 1, by omega, by rw [HN.out]; go_num, HB1.out _ hb2⟩
        case measure => simp [intOf]; omega
    · obtain rfl : k = 9 := by omega
      obtain rfl : J = 9 := by omega
      go_wp2_with fail
      go_ret2
      exact ⟨rfl, hbel.out⟩
theorem refVerhoeff_no (s : List UInt8) (hs : s.length ≤ 140737488355328) (hd : ¬ AllD s) (w : World) : Calls Try.prog 27 #[.string ⟨s.toArray⟩] w fun e w' => e = .returned (.tuple #[.int .u8 0, .int .i64 20]) ∧ Below w.heap.size w w' := by
  have HA : Hid (∀ w, Calls Try.prog 45 #[.string ⟨s.toArray⟩] w fun e w' => e = .returned (.bool false) ∧ w' = w) := fun w => by have := refDigits_any s hs w; rw [decide_eq_false hd] at this; exact this
  clear hd
  go_enter Try.func27, Try.ntmps27
  go_wp2_with (go_at_call 45; refine (HA.out _).mono ?_; rintro e w2 ⟨rfl, hb2⟩)
  go_ret2
  exact ⟨rfl, Below.refl _ _⟩
end Go.Proofs.Ytjmaejdkdpiigaa
