/- EccApart: unlike data have words that are unlike in four bits at least; the code is linear. -/
import Derived.Test.YtjmaejdkdpiigaaM1
import Derived.Test.YtjmaejdkdpiigaaE8
namespace Go.Proofs.Ytjmaejdkdpiigaa
open Go.RowKit
set_option linter.unusedVariables false

set_option maxRecDepth 100000 in
set_option maxHeartbeats 1600000 in
theorem apart_err (x : Int) (a b A1 B1 A2 B2 : Nat) (e1 e2 : Int) (he : e1 = 1 ∨ e1 = 0 ∧ e2 = 1) (HE1 : Hid (∀ w, Calls Try.prog 14 #[.int .i64 x, .int .u64 (a : Int)] w fun e w' => e = .returned (.tuple #[.agg (wdC A1 B1), .int .i64 e1]) ∧ Below w.heap.size w w')) (HE2 : Hid (∀ w, Calls Try.prog 14 #[.int .i64 x, .int .u64 (b : Int)] w fun e w' => e = .returned (.tuple #[.agg (wdC A2 B2), .int .i64 e2]) ∧ Below w.heap.size w w')) (w : World) : Calls Try.prog 6 #[.int .i64 x, .int .u64 (a : Int), .int .u64 (b : Int)] w fun e w' => e = .returned (.bool true) ∧ Below w.heap.size w w' := by
  have HL := hidD live_any
  have HN : Hid (∀ z w, Calls Try.prog 10 #[.int .i64 z] w fun e w' => e = .returned (.int .i64 z) ∧ w' = w) := fun z w => no_any z w
  obtain ⟨hz, hsz⟩ := zero_of_info Try.zeroWd
  have HI : Hid ((Try.prog.info? 25).map (·.size) = some 2) := hsz
  clear hsz
  go_enter Try.func6, Try.ntmps6
  go_wp2_with (go_at_call 13; refine (HL.out _).mono ?_; rintro e w1 ⟨rfl, hb1⟩)
  go_at_call 14
  refine (HE1.out _).mono ?_
  rintro e w2 ⟨rfl, hb2⟩
  go_wp2_with (refine wpList_store_row rfl 25 _ _ rfl w2.heap.size (wdC A1 B1) rfl rfl 25 #[.int .u64 0, .int .u8 0] (heap_alloc_last _ _) HI.out rfl (wd_one A1 B1) ?_)
  go_at_call 14
  refine (HE2.out _).mono ?_
  rintro e w3 ⟨rfl, hb3⟩
  rcases he with rfl | ⟨rfl, rfl⟩
  · go_wp2_with (first | (refine wpList_store_row rfl 25 _ _ rfl w3.heap.size (wdC A2 B2) rfl rfl 25 #[.int .u64 0, .int .u8 0] (heap_alloc_last _ _) HI.out rfl (wd_one A2 B2) ?_) | (go_at_call 10; refine (HN.out _ _).mono ?_; rintro e wx ⟨rfl, hbx⟩))
    go_ret
    exact ⟨rfl, Below.next (Below.next (Below.next (Below.next hb1 hb2) (wd_bel w2 A1 B1 25)) hb3) (wd_bel w3 A2 B2 25)⟩
  · go_wp2_with (first | (refine wpList_store_row rfl 25 _ _ rfl w3.heap.size (wdC A2 B2) rfl rfl 25 #[.int .u64 0, .int .u8 0] (heap_alloc_last _ _) HI.out rfl (wd_one A2 B2) ?_) | (go_at_call 10; refine (HN.out _ _).mono ?_; rintro e wx ⟨rfl, hbx⟩))
    go_ret
    exact ⟨rfl, Below.next (Below.next (Below.next (Below.next hb1 hb2) (wd_bel w2 A1 B1 25)) hb3) (wd_bel w3 A2 B2 25)⟩

set_option maxRecDepth 100000 in
set_option maxHeartbeats 3200000 in
theorem apart_main {W r : Nat} (h : Wid W r) (a b : Nat) (ha : a < 2 ^ W) (hb : b < 2 ^ W) (w : World) : Calls Try.prog 6 #[.int .i64 (W : Int), .int .u64 (a : Int), .int .u64 (b : Int)] w fun e w' => e = .returned (.bool true) ∧ Below w.heap.size w w' := by
  have hr := h.le
  have p64 : ∀ x, x < 2 ^ W → x < 18446744073709551616 := fun x hx => Nat.lt_of_lt_of_le hx (Nat.pow_le_pow_right (n := 2) (by decide) hr.1)
  have p8 : ∀ x, x < 2 ^ (r + 1) → x < 256 := fun x hx => Nat.lt_of_lt_of_le hx (Nat.pow_le_pow_right (n := 2) (by decide) (show r + 1 ≤ 8 by omega))
  have hab : a ^^^ b < 2 ^ W := Nat.xor_lt_two_pow ha hb
  have HL := hidD live_any
  have HN : Hid (∀ z w, Calls Try.prog 10 #[.int .i64 z] w fun e w' => e = .returned (.int .i64 z) ∧ w' = w) := fun z w => no_any z w
  have HE1 : Hid (∀ w, Calls Try.prog 14 #[.int .i64 (W : Int), .int .u64 (a : Int)] w fun e w' => e = .returned (.tuple #[.agg (wdC a (encS W r a)), .int .i64 0]) ∧ Below w.heap.size w w') := fun w => encode_ok h a ha w
  have HE2 : Hid (∀ w, Calls Try.prog 14 #[.int .i64 (W : Int), .int .u64 (b : Int)] w fun e w' => e = .returned (.tuple #[.agg (wdC b (encS W r b)), .int .i64 0]) ∧ Below w.heap.size w w') := fun w => encode_ok h b hb w
  have HE3 : Hid (∀ w, Calls Try.prog 14 #[.int .i64 (W : Int), .int .u64 ((a ^^^ b : Nat) : Int)] w fun e w' => e = .returned (.tuple #[.agg (wdC (a ^^^ b) (encS W r a ^^^ encS W r b)), .int .i64 0]) ∧ Below w.heap.size w w') := fun w => by have := encode_ok h (a ^^^ b) hab w; rw [enc_xor h] at this; exact this
  have HDs : Hid (∀ w, Calls Try.prog 22 #[.int .i64 (W : Int), .agg (wdC a (encS W r a)), .agg (wdC b (encS W r b))] w fun e w' => e = .returned (.tuple #[.int .i64 ((onTo (a ^^^ b) 64 + onTo (encS W r a ^^^ encS W r b) 8 : Nat) : Int), .int .i64 0]) ∧ Below w.heap.size w w') := fun w => distance_ok h a (encS W r a) b (encS W r b) ha (enc_lt h a) hb (enc_lt h b) w
  have hx1 : bits .xor .u64 (a : Int) (b : Int) = ((a ^^^ b : Nat) : Int) := u64_xor_nat _ _ (p64 _ ha) (p64 _ hb)
  have hx2 : bits .xor .u8 (encS W r a : Int) (encS W r b : Int) = ((encS W r a ^^^ encS W r b : Nat) : Int) := u8_xor_nat _ _ (p8 _ (enc_lt h a)) (p8 _ (enc_lt h b))
  have HZ : Hid (a = b → onTo (a ^^^ b) 64 + onTo (encS W r a ^^^ encS W r b) 8 = 0) := fun e => by rw [e, Nat.xor_self, Nat.xor_self, on_zero, on_zero]
  have HF : Hid (a ≠ b → 4 ≤ onTo (a ^^^ b) 64 + onTo (encS W r a ^^^ encS W r b) 8) := fun e => by rw [← enc_xor h]; exact far_apart h _ hab (xor_ne e)
  have hd72 : onTo (a ^^^ b) 64 + onTo (encS W r a ^^^ encS W r b) 8 ≤ 72 := by have := on_le (a ^^^ b) 64; have := on_le (encS W r a ^^^ encS W r b) 8; omega
  clear ha hb hab p64 p8
  generalize onTo (a ^^^ b) 64 + onTo (encS W r a ^^^ encS W r b) 8 = dst at *
  generalize encS W r a ^^^ encS W r b = Ez at *
  generalize a ^^^ b = z at *
  generalize encS W r a = Ea at *
  generalize encS W r b = Eb at *
  obtain ⟨hz, hsz⟩ := zero_of_info Try.zeroWd
  have HI : Hid ((Try.prog.info? 25).map (·.size) = some 2) := hsz
  clear hsz
  go_enter Try.func6, Try.ntmps6
  go_wp2_with (go_at_call 13; refine (HL.out _).mono ?_; rintro e w1 ⟨rfl, hb1⟩)
  go_at_call 14
  refine (HE1.out _).mono ?_
  rintro e w2 ⟨rfl, hb2⟩
  go_wp2_with (refine wpList_store_row rfl 25 _ _ rfl w2.heap.size (wdC a Ea) rfl rfl 25 #[.int .u64 0, .int .u8 0] (heap_alloc_last _ _) HI.out rfl (wd_one a Ea) ?_)
  go_at_call 14
  refine (HE2.out _).mono ?_
  rintro e w3 ⟨rfl, hb3⟩
  have hrA3 := wd_keep (wd_keep (wd_new w2 a Ea 25) hb3) (wd_bel w3 b Eb 25)
  have hrB3 := wd_new w3 b Eb 25
  have HB3 := hidD (Below.next (Below.next (Below.next (Below.next hb1 hb2) (wd_bel w2 a Ea 25)) hb3) (wd_bel w3 b Eb 25))
  clear hb1 hb2 hb3 HE1 HE2 HL
  go_wp2_with (first | (refine wpList_store_row rfl 25 _ _ rfl w3.heap.size (wdC b Eb) rfl rfl 25 #[.int .u64 0, .int .u8 0] (heap_alloc_last _ _) HI.out rfl (wd_one b Eb) ?_) | (go_at_call 10; refine (HN.out _ _).mono ?_; rintro e wx ⟨rfl, hbx⟩) | (refine wpList_load_row rfl 25 _ rfl w2.heap.size rfl 25 (wdC a Ea) (0, 0) _ hrA3 Try.underlying25 rfl HI.out ?_) | (refine wpList_load_row rfl 25 _ rfl w3.heap.size rfl 25 (wdC b Eb) (0, 0) _ hrB3 Try.underlying25 rfl HI.out ?_))
  go_at_call 22
  refine (HDs.out _).mono ?_
  rintro e w4 ⟨rfl, hb4⟩
  have hrA4 := wd_keep hrA3 hb4
  have hrB4 := wd_keep hrB3 hb4
  have HB4 := hidD (Below.next HB3.out hb4)
  clear hrA3 hrB3 hb4 HB3 HDs
  go_wp2_with fail
  go_at_call 14
  refine (HE3.out _).mono ?_
  rintro e w5 ⟨rfl, hb5⟩
  obtain ⟨c1, c2⟩ := wd_cell (wd_keep (wd_keep hrA4 hb5) (wd_bel w5 z Ez 25))
  obtain ⟨c3, c4⟩ := wd_cell (wd_keep (wd_keep hrB4 hb5) (wd_bel w5 z Ez 25))
  obtain ⟨c5, c6⟩ := wd_cell (wd_new w5 z Ez 25)
  have HB5 := hidD (Below.next (Below.next HB4.out hb5) (wd_bel w5 z Ez 25))
  clear hrA4 hrB4 hb5 HB4 HE3
  by_cases hab : a = b
  · have hd := HZ.out hab
    subst hd
    subst hab
    go_wp2_with (first | (refine wpList_store_row rfl 25 _ _ rfl w5.heap.size (wdC z Ez) rfl rfl 25 #[.int .u64 0, .int .u8 0] (heap_alloc_last _ _) HI.out rfl (wd_one z Ez) ?_) | (go_at_call 10; refine (HN.out _ _).mono ?_; rintro e wx ⟨rfl, hbx⟩))
    go_ret
    exact ⟨rfl, HB5.out⟩
  · have hd := HF.out hab
    have habi : ((a : Int) == (b : Int)) = false := beq_eq_false_iff_ne.mpr (by omega)
    have hdi : (4 : Int) ≤ (dst : Int) := by omega
    clear hab
    go_wp2_with (first | (refine wpList_store_row rfl 25 _ _ rfl w5.heap.size (wdC z Ez) rfl rfl 25 #[.int .u64 0, .int .u8 0] (heap_alloc_last _ _) HI.out rfl (wd_one z Ez) ?_) | (go_at_call 10; refine (HN.out _ _).mono ?_; rintro e wx ⟨rfl, hbx⟩))
    go_ret
    exact ⟨rfl, HB5.out⟩
theorem apart_any (x : Int) (a b : Nat) (ha : a < 18446744073709551616) (hb : b < 18446744073709551616) (w : World) : Calls Try.prog 6 #[.int .i64 x, .int .u64 (a : Int), .int .u64 (b : Int)] w fun e w' => e = .returned (.bool true) ∧ Below w.heap.size w w' := by
  rcases wid_or x with h | ⟨W, r, h, rfl⟩
  · exact apart_err x a b 0 0 0 0 1 1 (Or.inl rfl) (fun w => encode_no h a w) (fun w => encode_no h b w) w
  · by_cases hA : a < 2 ^ W
    · by_cases hB : b < 2 ^ W
      · exact apart_main h a b hA hB w
      · exact apart_err _ a b _ _ 0 0 0 1 (Or.inr ⟨rfl, rfl⟩) (fun w => encode_ok h a hA w) (fun w => encode_big h b hB hb w) w
    · by_cases hB : b < 2 ^ W
      · exact apart_err _ a b 0 0 _ _ 1 0 (Or.inl rfl) (fun w => encode_big h a hA ha w) (fun w => encode_ok h b hB w) w
      · exact apart_err _ a b 0 0 0 0 1 1 (Or.inl rfl) (fun w => encode_big h a hA ha w) (fun w => encode_big h b hB hb w) w
end Go.Proofs.Ytjmaejdkdpiigaa
