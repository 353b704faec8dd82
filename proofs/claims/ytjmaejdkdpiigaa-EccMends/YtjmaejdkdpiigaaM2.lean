/- EccMends: one turned bit is mended, and told; two are told. -/
import Derived.Test.YtjmaejdkdpiigaaM1
import Derived.Deep.Cut
import Derived.Deep.CutRange
namespace Go.Proofs.Ytjmaejdkdpiigaa
open Go.RowKit
set_option linter.unusedVariables false

theorem undef_bool {b : Bool} (h : some undef = some (Value.bool b)) : False := by injection h with h1; cases h1
set_option maxRecDepth 100000 in
set_option maxHeartbeats 1600000 in
theorem mends_none (x : Int) (d : Nat) (a b n : Int) (HBt : Hid (∀ w, Calls Try.prog 32 #[.int .i64 x] w fun e w' => e = .returned (.int .i64 n) ∧ w' = w)) (HE : Hid (∀ w, Calls Try.prog 14 #[.int .i64 x, .int .u64 (d : Int)] w fun e w' => e = .returned (.tuple #[.agg (wdC 0 0), .int .i64 1]) ∧ Below w.heap.size w w')) (w : World) : Calls Try.prog 5 #[.int .i64 x, .int .u64 (d : Int), .int .i64 a, .int .i64 b] w fun e w' => e = .returned (.bool true) ∧ Below w.heap.size w w' := by
  have HL := hidD live_any
  have HN : Hid (∀ z w, Calls Try.prog 10 #[.int .i64 z] w fun e w' => e = .returned (.int .i64 z) ∧ w' = w) := fun z w => no_any z w
  obtain ⟨hz, hsz⟩ := zero_of_info Try.zeroWd
  have HI : Hid ((Try.prog.info? 25).map (·.size) = some 2) := hsz
  clear hsz
  go_enter Try.func5, Try.ntmps5
  go_wp2_with (first | (go_at_call 13; refine (HL.out _).mono ?_; rintro e w1 ⟨rfl, hb1⟩) | (go_at_call 32; refine (HBt.out _).mono ?_; rintro e wx ⟨rfl, hbx⟩) | (go_at_call 14; refine (HE.out _).mono ?_; rintro e w2 ⟨rfl, hb2⟩) | (go_at_call 10; refine (HN.out _ _).mono ?_; rintro e wx ⟨rfl, hbx⟩) | (refine wpList_store_row rfl 25 _ _ rfl w2.heap.size (wdC 0 0) rfl rfl 25 #[.int .u64 0, .int .u8 0] (heap_alloc_last _ _) HI.out rfl (wd_one 0 0) ?_; obtain ⟨c0, c1⟩ := wd_cell (wd_new w2 0 0 25)))
  go_ret
  exact ⟨rfl, Below.next (Below.next hb1 hb2) (wd_bel w2 0 0 25)⟩

set_option maxRecDepth 100000 in
set_option maxHeartbeats 8000000 in
theorem mends_main {W r : Nat} (h : Wid W r) (d : Nat) (hd : d < 2 ^ W) (a b : Int) (ha1 : -9223372036854775808 ≤ a) (ha2 : a < 9223372036854775808) (hb1 : -9223372036854775808 ≤ b) (hb2 : b < 9223372036854775808) (w : World) : Calls Try.prog 5 #[.int .i64 (W : Int), .int .u64 (d : Int), .int .i64 a, .int .i64 b] w fun e w' => e = .returned (.bool true) ∧ Below w.heap.size w w' := by
  have HL := hidD live_any
  have HN : Hid (∀ z w, Calls Try.prog 10 #[.int .i64 z] w fun e w' => e = .returned (.int .i64 z) ∧ w' = w) := fun z w => no_any z w
  have HBt : Hid (∀ w, Calls Try.prog 32 #[.int .i64 (W : Int)] w fun e w' => e = .returned (.int .i64 ((W + r + 1 : Nat) : Int)) ∧ w' = w) := fun w => bits_ok h w
  have HE : Hid (∀ w, Calls Try.prog 14 #[.int .i64 (W : Int), .int .u64 (d : Int)] w fun e w' => e = .returned (.tuple #[.agg (wdC d (encS W r d)), .int .i64 0]) ∧ Below w.heap.size w w') := fun w => encode_ok h d hd w
  have HD0 : Hid (∀ w, Calls Try.prog 18 #[.int .i64 (W : Int), .agg (wdC d (encS W r d))] w fun e w' => e = .returned (.tuple #[.int .u64 (d : Int), .int .i64 0, .int .i64 0, .int .i64 0]) ∧ Below w.heap.size w w') := fun w => decode_ok h d (encS W r d) hd (enc_lt h d) d 0 0 0 (dec_fine h d) w
  have hr := h.le
  have hA := pl_lt (W + r + 1) a (by omega)
  have hB := pl_lt (W + r + 1) b (by omega)
  have HPa := hidD (pl_adj (W + r + 1) a)
  have HPb := hidD (pl_adj (W + r + 1) b)
  generalize plS (W + r + 1) a = A at *
  generalize plS (W + r + 1) b = B at *
  have hAle : A ≤ W + r := by omega
  have hBle : B ≤ W + r := by omega
  obtain ⟨t1, t2⟩ := tur_lt h d (encS W r d) A hd (enc_lt h d) hAle
  have HT1 : Hid (∀ w, Calls Try.prog 20 #[.int .i64 (W : Int), .agg (wdC d (encS W r d)), .int .i64 (A : Int)] w fun e w' => e = .returned (.tuple #[.agg (wdC (turD W d A) (turC W (encS W r d) A)), .int .i64 0]) ∧ Below w.heap.size w w') := fun w => turn_ok h d (encS W r d) hd (enc_lt h d) A hAle w
  have HD1 : Hid (∀ w, Calls Try.prog 18 #[.int .i64 (W : Int), .agg (wdC (turD W d A) (turC W (encS W r d) A))] w fun e w' => e = .returned (.tuple #[.int .u64 (d : Int), .int .i64 ((if A < W then 1 else 2 : Nat) : Int), .int .i64 ((if A < W then A else A - W : Nat) : Int), .int .i64 0]) ∧ Below w.heap.size w w') := fun w => decode_ok h _ _ t1 t2 _ _ _ _ (dec_one h d A hAle) w
  have HT2 : Hid (∀ w, Calls Try.prog 20 #[.int .i64 (W : Int), .agg (wdC (turD W d A) (turC W (encS W r d) A)), .int .i64 (B : Int)] w fun e w' => e = .returned (.tuple #[.agg (wdC (turD W (turD W d A) B) (turC W (turC W (encS W r d) A) B)), .int .i64 0]) ∧ Below w.heap.size w w') := fun w => turn_ok h _ _ t1 t2 B hBle w
  obtain ⟨t3, t4⟩ := tur_lt h _ _ B t1 t2 hBle
  have HD2 : Hid (A ≠ B → ∀ w, Calls Try.prog 18 #[.int .i64 (W : Int), .agg (wdC (turD W (turD W d A) B) (turC W (turC W (encS W r d) A) B))] w fun e w' => e = .returned (.tuple #[.int .u64 0, .int .i64 0, .int .i64 0, .int .i64 100]) ∧ Below w.heap.size w w') := fun hne w => decode_ok h _ _ t3 t4 _ _ _ _ (dec_two h d A B hd hAle hBle hne) w
  clear t1 t2 t3 t4 hd
  generalize turC W (turC W (encS W r d) A) B = C2 at *
  generalize turD W (turD W d A) B = D2 at *
  generalize turC W (encS W r d) A = C1 at *
  generalize turD W d A = D1 at *
  generalize encS W r d = E at *
  have hn0 : ¬ ((W + r + 1 : Nat) : Int) = 0 := by omega
  have hn72 : W + r + 1 ≤ 72 := by omega
  generalize W + r + 1 = n at *
  obtain ⟨hz, hsz⟩ := zero_of_info Try.zeroWd
  have HI : Hid ((Try.prog.info? 25).map (·.size) = some 2) := hsz
  have HIw : Hid (∀ D C, (Try.prog.info? 25).map (·.size) = some (wdC D C).size) := fun _ _ => hsz
  clear hsz
  go_enter Try.func5, Try.ntmps5
  go_wp2_with (go_at_call 13; refine (HL.out _).mono ?_; rintro e w1 ⟨rfl, hx1⟩)
  go_at_call 32
  refine (HBt.out _).mono ?_
  rintro e wx ⟨rfl, hbx⟩
  subst hbx
  go_wp2_with fail
  go_at_call 14
  refine (HE.out _).mono ?_
  rintro e w2 ⟨rfl, hx2⟩
  have hrow1 := wd_new w2 d E 25
  go_wp2_with (first | (refine wpList_store_row rfl 25 _ _ rfl w2.heap.size (wdC d E) rfl rfl 25 #[.int .u64 0, .int .u8 0] (heap_alloc_last _ _) HI.out rfl (wd_one d E) ?_) | (go_at_call 10; refine (HN.out _ _).mono ?_; rintro e wx ⟨rfl, hbx⟩) | (refine wpList_load_row rfl 25 _ rfl w2.heap.size rfl 25 (wdC d E) (0, 0) _ hrow1 Try.underlying25 rfl HI.out ?_))
  go_at_call 18
  refine (HD0.out _).mono ?_
  rintro e w3 ⟨rfl, hx3⟩
  have hrow1b := wd_keep hrow1 hx3
  have HX3 := hidD (Below.next (Below.next (Below.next hx1 hx2) (wd_bel w2 d E 25)) hx3)
  clear hrow1 hx1 hx2 hx3 HD0 HL HBt HE
  go_upto_region 12 with (go_at_call 10; refine (HN.out _ _).mono ?_; rintro e wx ⟨rfl, hbx⟩)
  have HSa : Hid ((a < 0 → adjI a = -(a + 1)) ∧ (¬ a < 0 → adjI a = a)) := ⟨adj_neg, adj_pos⟩
  have HSb : Hid ((b < 0 → adjI b = -(b + 1)) ∧ (¬ b < 0 → adjI b = b)) := ⟨adj_neg, adj_pos⟩
  generalize adjI a = a1 at *
  generalize adjI b = b1 at *
  go_upto_if 63 with fail
  go_cut [2] from 62 (fun x wx => x = .int .i64 a1 ∧ wx = w3)
  case first =>
    by_cases hsa : a < 0
    · have e := HSa.out.1 hsa
      subst e
      go_wp2_with fail
      go_meet
      exact ⟨rfl, rfl⟩
    · have e := HSa.out.2 hsa
      subst e
      go_wp2_with fail
      go_meet
      exact ⟨rfl, rfl⟩
  case rest =>
  obtain ⟨rfl, rfl⟩ := hcut
  go_upto_if 68 with fail
  go_cut [3] from 67 (fun x wx => x = .int .i64 b1 ∧ wx = wc)
  case first =>
    by_cases hsb : b < 0
    · have e := HSb.out.1 hsb
      subst e
      go_wp2_with fail
      go_meet
      exact ⟨rfl, rfl⟩
    · have e := HSb.out.2 hsb
      subst e
      go_wp2_with fail
      go_meet
      exact ⟨rfl, rfl⟩
  case rest =>
  obtain ⟨rfl, rfl⟩ := hcut
  have hpa := HPa.out
  have hpb := HPb.out
  go_upto_region 18 with fail
  clear hpa hpb HPa HPb HSa HSb
  by_cases hAW : A < W
  · rw [if_pos hAW, if_pos hAW] at HD1
    have hAWi : (A : Int) < (W : Int) := by omega
    have hAWg : ¬ (W : Int) ≤ (A : Int) := by omega
    clear hAW
    go_wp2_with (refine wpList_load_row rfl 25 _ rfl w2.heap.size rfl 25 (wdC d E) (0, 0) _ hrow1b Try.underlying25 rfl HI.out ?_)
    go_at_call 20
    refine (HT1.out _).mono ?_
    rintro e w4 ⟨rfl, hx4⟩
    have hrow2 := wd_new w4 D1 C1 25
    go_wp2_with (first | (refine wpList_store_row rfl 25 _ _ rfl w4.heap.size (wdC D1 C1) rfl rfl 25 #[.int .u64 0, .int .u8 0] (heap_alloc_last _ _) HI.out rfl (wd_one D1 C1) ?_) | (refine wpList_load_row rfl 25 _ rfl w4.heap.size rfl 25 (wdC D1 C1) (0, 0) _ hrow2 Try.underlying25 rfl HI.out ?_))
    go_at_call 18
    refine (HD1.out _).mono ?_
    rintro e w5 ⟨rfl, hx5⟩
    have hrow2b := wd_keep hrow2 hx5
    have HX5 := hidD (Below.next (Below.next (Below.next HX3.out hx4) (wd_bel w4 D1 C1 25)) hx5)
    clear hrow1b hrow2 hx4 hx5 HT1 HD1
    go_upto_region 22 with (go_at_call 10; refine (HN.out _ _).mono ?_; rintro e wx ⟨rfl, hbx⟩)
    all_goals try (apply False.elim; apply undef_bool; assumption)
    by_cases hAB : A = B
    · subst hAB
      go_wp2_with fail
      go_ret
      exact ⟨rfl, HX5.out⟩
    · have hABi : ((A : Int) == (B : Int)) = false := beq_eq_false_iff_ne.mpr (by omega)
      have HD3 := hidD (HD2.out hAB)
      clear HD2 hAB
      go_wp2_with (refine wpList_load_row rfl 25 _ rfl w4.heap.size rfl 25 (wdC D1 C1) (0, 0) _ hrow2b Try.underlying25 rfl HI.out ?_)
      go_at_call 20
      refine (HT2.out _).mono ?_
      rintro e w6 ⟨rfl, hx6⟩
      have hrow3 := wd_new w6 D2 C2 25
      go_wp2_with (first | (refine wpList_store_row rfl 25 _ _ rfl w6.heap.size (wdC D2 C2) rfl rfl 25 #[.int .u64 0, .int .u8 0] (heap_alloc_last _ _) HI.out rfl (wd_one D2 C2) ?_) | (refine wpList_load_row rfl 25 _ rfl w6.heap.size rfl 25 (wdC D2 C2) (0, 0) _ hrow3 Try.underlying25 rfl HI.out ?_))
      go_at_call 18
      refine (HD3.out _).mono ?_
      rintro e w7 ⟨rfl, hx7⟩
      go_wp2_with (go_at_call 10; refine (HN.out _ _).mono ?_; rintro e wx ⟨rfl, hbx⟩)
      go_ret
      exact ⟨rfl, Below.next (Below.next (Below.next HX5.out hx6) (wd_bel w6 D2 C2 25)) hx7⟩
  · rw [if_neg hAW, if_neg hAW] at HD1
    have hAWi : ¬ (A : Int) < (W : Int) := by omega
    have hAWg : (W : Int) ≤ (A : Int) := by omega
    have hsub : (A : Int) - (W : Int) = ((A - W : Nat) : Int) := by omega
    clear hAW
    generalize A - W = J at *
    go_wp2_with (refine wpList_load_row rfl 25 _ rfl w2.heap.size rfl 25 (wdC d E) (0, 0) _ hrow1b Try.underlying25 rfl HI.out ?_)
    go_at_call 20
    refine (HT1.out _).mono ?_
    rintro e w4 ⟨rfl, hx4⟩
    have hrow2 := wd_new w4 D1 C1 25
    go_wp2_with (first | (refine wpList_store_row rfl 25 _ _ rfl w4.heap.size (wdC D1 C1) rfl rfl 25 #[.int .u64 0, .int .u8 0] (heap_alloc_last _ _) HI.out rfl (wd_one D1 C1) ?_) | (refine wpList_load_row rfl 25 _ rfl w4.heap.size rfl 25 (wdC D1 C1) (0, 0) _ hrow2 Try.underlying25 rfl HI.out ?_))
    go_at_call 18
    refine (HD1.out _).mono ?_
    rintro e w5 ⟨rfl, hx5⟩
    have hrow2b := wd_keep hrow2 hx5
    have HX5 := hidD (Below.next (Below.next (Below.next HX3.out hx4) (wd_bel w4 D1 C1 25)) hx5)
    clear hrow1b hrow2 hx4 hx5 HT1 HD1
    go_upto_region 22 with (go_at_call 10; refine (HN.out _ _).mono ?_; rintro e wx ⟨rfl, hbx⟩)
    all_goals try (apply False.elim; apply undef_bool; assumption)
    by_cases hAB : A = B
    · subst hAB
      go_wp2_with fail
      go_ret
      exact ⟨rfl, HX5.out⟩
    · have hABi : ((A : Int) == (B : Int)) = false := beq_eq_false_iff_ne.mpr (by omega)
      have HD3 := hidD (HD2.out hAB)
      clear HD2 hAB
      go_wp2_with (refine wpList_load_row rfl 25 _ rfl w4.heap.size rfl 25 (wdC D1 C1) (0, 0) _ hrow2b Try.underlying25 rfl HI.out ?_)
      go_at_call 20
      refine (HT2.out _).mono ?_
      rintro e w6 ⟨rfl, hx6⟩
      have hrow3 := wd_new w6 D2 C2 25
      go_wp2_with (first | (refine wpList_store_row rfl 25 _ _ rfl w6.heap.size (wdC D2 C2) rfl rfl 25 #[.int .u64 0, .int .u8 0] (heap_alloc_last _ _) HI.out rfl (wd_one D2 C2) ?_) | (refine wpList_load_row rfl 25 _ rfl w6.heap.size rfl 25 (wdC D2 C2) (0, 0) _ hrow3 Try.underlying25 rfl HI.out ?_))
      go_at_call 18
      refine (HD3.out _).mono ?_
      rintro e w7 ⟨rfl, hx7⟩
      go_wp2_with (go_at_call 10; refine (HN.out _ _).mono ?_; rintro e wx ⟨rfl, hbx⟩)
      go_ret
      exact ⟨rfl, Below.next (Below.next (Below.next HX5.out hx6) (wd_bel w6 D2 C2 25)) hx7⟩
end Go.Proofs.Ytjmaejdkdpiigaa
