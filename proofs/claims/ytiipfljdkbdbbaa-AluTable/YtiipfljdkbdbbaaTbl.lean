/- AluTable, walked. -/
import Derived.Test.YtiipfljdkbdbbaaTbw
namespace Go.Proofs.Ytiipfljdkbdbbaa
open Go.RowKit
set_option linter.unusedVariables false

set_option maxRecDepth 100000 in
set_option maxHeartbeats 4000000 in
theorem tbl_low (z : Int) (hz : z < 0) (bz : -9223372036854775808 ≤ z) (x v p : Nat) (hx : x < 4294967296) (hv : v < 256) (hp : p < 256) (w : World) : Calls Try.prog 3 #[.int .i64 z, .int .u32 (x : Int), .int .u8 (v : Int), .int .u8 (p : Int)] w fun e w' => e = .returned (.bool true) ∧ Below w.heap.size w w' := by
  have hz1 : ¬ 0 ≤ z := by omega
  have HT := hidD (fun w => refWords_any w)
  have HW := hidD (fun w => words_any w)
  have HW2 := hidD (fun w => words_any w)
  have HR := hidD (fun w => rule_any w)
  have HR2 := hidD (fun w => rule_any w)
  have HS1 := hidD (fun g h c d w h1 h2 => same_words wdN g h c d w h1 h2)
  have HS2 := hidD (fun g h c d w h1 h2 => same_words wdN g h c d w h1 h2)
  have HS3 := hidD (fun g h c d w h1 h2 => same_words wdN g h c d w h1 h2)
  have HS4 := hidD (fun g h c d w h1 h2 => same_words wdN g h c d w h1 h2)
  have HF := hidD (flags_any v p hv hp)
  have HG := hidD (refFlags_any v p hv hp)
  have HL := hidD live_any
  have HC : Hid (∀ w' g, WbAt w' g wdN → ∀ k, k < 256 → w'.cell? ⟨g, k, none⟩ = some (.int .u32 (wdN k : Int))) := fun w' g h k hk => h.cell hk
  generalize fl v p = F at *
  generalize wdN = f at *
  go_enter Try.func3, Try.ntmps3
  go_wp2_with (first
    | (go_at_call 9; refine (HT.out _).mono ?_; rintro e w1 ⟨gt, ct, rfl, hge1, hr1, hb1⟩; have HB1 := hidD hb1; have HRT := hidD hr1; clear hge1 hr1 hb1 HT)
    | (go_at_call 10; refine (HW.out _).mono ?_; rintro e w2 ⟨gw, cw, rfl, hge2, hr2, hb2⟩; have HB2 := hidD (Below.next HB1.out hb2); have HEw := hidD (Nat.le_trans HB1.out.size hge2); have HNtw := hidD (Nat.lt_of_lt_of_le HRT.out.lt hge2); have HRW := hidD hr2; have HRT := hidD (HRT.out.next hb2); clear hge2 hr2 hb2 HW)
    | (go_at_call 11; refine (HR.out _).mono ?_; rintro e w3 ⟨gr, cr, rfl, hge3, hr3, hb3⟩; have HB3 := hidD (Below.next HB2.out hb3); have HEr := hidD (Nat.le_trans HB2.out.size hge3); have HNtr := hidD (Nat.lt_of_lt_of_le HRT.out.lt hge3); have HNwr := hidD (Nat.lt_of_lt_of_le HRW.out.lt hge3); have HRR := hidD hr3; have HRW := hidD (HRW.out.next hb3); have HRT := hidD (HRT.out.next hb3); clear hge3 hr3 hb3 HR)
    | (go_at_call 12; refine (HS1.out _ _ _ _ _ HRW.out HRT.out).mono ?_; rintro e w4 ⟨rfl, hb4⟩; have HB4 := hidD (Below.next HB3.out hb4); have HRR := hidD (HRR.out.next hb4); have HRW := hidD (HRW.out.next hb4); have HRT := hidD (HRT.out.next hb4); clear hb4 HS1)
    | (go_at_call 12; refine (HS2.out _ _ _ _ _ HRR.out HRT.out).mono ?_; rintro e w5 ⟨rfl, hb5⟩; have HB5 := hidD (Below.next HB4.out hb5); have HRR := hidD (HRR.out.next hb5); have HRW := hidD (HRW.out.next hb5); have HRT := hidD (HRT.out.next hb5); clear hb5 HS2; have HT6 := hidD HRT.out; have HB6 := hidD HB5.out)
    | (go_at_call 10; refine (HW2.out _).mono ?_; rintro e w7 ⟨g7, c7, rfl, hge7, hr7, hb7⟩; have HR7 := hidD hr7; have HT7 := hidD (HT6.out.next hb7); have HB7 := hidD (Below.next HB6.out hb7); clear hge7 hr7 hb7 HW2)
    | (go_at_call 12; refine (HS3.out _ _ _ _ _ HR7.out HT7.out).mono ?_; rintro e w8 ⟨rfl, hb8⟩; have HT8 := hidD (HT7.out.next hb8); have HB8 := hidD (Below.next HB7.out hb8); clear hb8 HR7 HS3)
    | (go_at_call 11; refine (HR2.out _).mono ?_; rintro e w9 ⟨g9, c9, rfl, hge9, hr9, hb9⟩; have HR9 := hidD hr9; have HT9 := hidD (HT8.out.next hb9); have HB9 := hidD (Below.next HB8.out hb9); clear hge9 hr9 hb9 HR2)
    | (go_at_call 12; refine (HS4.out _ _ _ _ _ HR9.out HT9.out).mono ?_; rintro e w10 ⟨rfl, hb10⟩; have HB10 := hidD (Below.next HB9.out hb10); clear hb10 HS4)
    | (go_at_call 13; refine (HF.out _).mono ?_; rintro e w11 ⟨rfl, rfl⟩)
    | (go_at_call 14; refine (HG.out _).mono ?_; rintro e w12 ⟨rfl, rfl⟩)
    | (go_at_call 15; refine (HL.out _).mono ?_; rintro e w13 ⟨rfl, rfl⟩))
  go_ret
  exact ⟨by first | rfl | (simp; done), HB10.out⟩

set_option maxRecDepth 100000 in
set_option maxHeartbeats 4000000 in
theorem tbl_up (z : Int) (hz : 256 ≤ z) (bz : z < 9223372036854775808) (x v p : Nat) (hx : x < 4294967296) (hv : v < 256) (hp : p < 256) (w : World) : Calls Try.prog 3 #[.int .i64 z, .int .u32 (x : Int), .int .u8 (v : Int), .int .u8 (p : Int)] w fun e w' => e = .returned (.bool true) ∧ Below w.heap.size w w' := by
  have hz1 : 0 ≤ z := by omega
  have hz2 : ¬ z < 256 := by omega
  have HT := hidD (fun w => refWords_any w)
  have HW := hidD (fun w => words_any w)
  have HW2 := hidD (fun w => words_any w)
  have HR := hidD (fun w => rule_any w)
  have HR2 := hidD (fun w => rule_any w)
  have HS1 := hidD (fun g h c d w h1 h2 => same_words wdN g h c d w h1 h2)
  have HS2 := hidD (fun g h c d w h1 h2 => same_words wdN g h c d w h1 h2)
  have HS3 := hidD (fun g h c d w h1 h2 => same_words wdN g h c d w h1 h2)
  have HS4 := hidD (fun g h c d w h1 h2 => same_words wdN g h c d w h1 h2)
  have HF := hidD (flags_any v p hv hp)
  have HG := hidD (refFlags_any v p hv hp)
  have HL := hidD live_any
  have HC : Hid (∀ w' g, WbAt w' g wdN → ∀ k, k < 256 → w'.cell? ⟨g, k, none⟩ = some (.int .u32 (wdN k : Int))) := fun w' g h k hk => h.cell hk
  generalize fl v p = F at *
  generalize wdN = f at *
  go_enter Try.func3, Try.ntmps3
  go_wp2_with (first
    | (go_at_call 9; refine (HT.out _).mono ?_; rintro e w1 ⟨gt, ct, rfl, hge1, hr1, hb1⟩; have HB1 := hidD hb1; have HRT := hidD hr1; clear hge1 hr1 hb1 HT)
    | (go_at_call 10; refine (HW.out _).mono ?_; rintro e w2 ⟨gw, cw, rfl, hge2, hr2, hb2⟩; have HB2 := hidD (Below.next HB1.out hb2); have HEw := hidD (Nat.le_trans HB1.out.size hge2); have HNtw := hidD (Nat.lt_of_lt_of_le HRT.out.lt hge2); have HRW := hidD hr2; have HRT := hidD (HRT.out.next hb2); clear hge2 hr2 hb2 HW)
    | (go_at_call 11; refine (HR.out _).mono ?_; rintro e w3 ⟨gr, cr, rfl, hge3, hr3, hb3⟩; have HB3 := hidD (Below.next HB2.out hb3); have HEr := hidD (Nat.le_trans HB2.out.size hge3); have HNtr := hidD (Nat.lt_of_lt_of_le HRT.out.lt hge3); have HNwr := hidD (Nat.lt_of_lt_of_le HRW.out.lt hge3); have HRR := hidD hr3; have HRW := hidD (HRW.out.next hb3); have HRT := hidD (HRT.out.next hb3); clear hge3 hr3 hb3 HR)
    | (go_at_call 12; refine (HS1.out _ _ _ _ _ HRW.out HRT.out).mono ?_; rintro e w4 ⟨rfl, hb4⟩; have HB4 := hidD (Below.next HB3.out hb4); have HRR := hidD (HRR.out.next hb4); have HRW := hidD (HRW.out.next hb4); have HRT := hidD (HRT.out.next hb4); clear hb4 HS1)
    | (go_at_call 12; refine (HS2.out _ _ _ _ _ HRR.out HRT.out).mono ?_; rintro e w5 ⟨rfl, hb5⟩; have HB5 := hidD (Below.next HB4.out hb5); have HRR := hidD (HRR.out.next hb5); have HRW := hidD (HRW.out.next hb5); have HRT := hidD (HRT.out.next hb5); clear hb5 HS2; have HT6 := hidD HRT.out; have HB6 := hidD HB5.out)
    | (go_at_call 10; refine (HW2.out _).mono ?_; rintro e w7 ⟨g7, c7, rfl, hge7, hr7, hb7⟩; have HR7 := hidD hr7; have HT7 := hidD (HT6.out.next hb7); have HB7 := hidD (Below.next HB6.out hb7); clear hge7 hr7 hb7 HW2)
    | (go_at_call 12; refine (HS3.out _ _ _ _ _ HR7.out HT7.out).mono ?_; rintro e w8 ⟨rfl, hb8⟩; have HT8 := hidD (HT7.out.next hb8); have HB8 := hidD (Below.next HB7.out hb8); clear hb8 HR7 HS3)
    | (go_at_call 11; refine (HR2.out _).mono ?_; rintro e w9 ⟨g9, c9, rfl, hge9, hr9, hb9⟩; have HR9 := hidD hr9; have HT9 := hidD (HT8.out.next hb9); have HB9 := hidD (Below.next HB8.out hb9); clear hge9 hr9 hb9 HR2)
    | (go_at_call 12; refine (HS4.out _ _ _ _ _ HR9.out HT9.out).mono ?_; rintro e w10 ⟨rfl, hb10⟩; have HB10 := hidD (Below.next HB9.out hb10); clear hb10 HS4)
    | (go_at_call 13; refine (HF.out _).mono ?_; rintro e w11 ⟨rfl, rfl⟩)
    | (go_at_call 14; refine (HG.out _).mono ?_; rintro e w12 ⟨rfl, rfl⟩)
    | (go_at_call 15; refine (HL.out _).mono ?_; rintro e w13 ⟨rfl, rfl⟩))
  go_ret
  exact ⟨by first | rfl | (simp; done), HB10.out⟩

set_option maxRecDepth 100000 in
set_option maxHeartbeats 4000000 in
theorem tbl_in (i : Nat) (hi : i < 256) (x v p : Nat) (hx : x < 4294967296) (hv : v < 256) (hp : p < 256) (w : World) : Calls Try.prog 3 #[.int .i64 (i : Int), .int .u32 (x : Int), .int .u8 (v : Int), .int .u8 (p : Int)] w fun e w' => e = .returned (.bool true) ∧ Below w.heap.size w w' := by
  have hii : (i : Int) < 256 := by omega
  have HT := hidD (fun w => refWords_any w)
  have HW := hidD (fun w => words_any w)
  have HW2 := hidD (fun w => words_any w)
  have HR := hidD (fun w => rule_any w)
  have HR2 := hidD (fun w => rule_any w)
  have HS1 := hidD (fun g h c d w h1 h2 => same_words wdN g h c d w h1 h2)
  have HS2 := hidD (fun g h c d w h1 h2 => same_words wdN g h c d w h1 h2)
  have HS3 := hidD (fun g h c d w h1 h2 => same_words wdN g h c d w h1 h2)
  have HS4 := hidD (fun g h c d w h1 h2 => same_words wdN g h c d w h1 h2)
  have HF := hidD (flags_any v p hv hp)
  have HG := hidD (refFlags_any v p hv hp)
  have HL := hidD live_any
  have HC : Hid (∀ w' g, WbAt w' g wdN → ∀ k, k < 256 → w'.cell? ⟨g, k, none⟩ = some (.int .u32 (wdN k : Int))) := fun w' g h k hk => h.cell hk
  generalize fl v p = F at *
  generalize wdN = f at *
  go_enter Try.func3, Try.ntmps3
  go_wp2_with (first
    | (go_at_call 9; refine (HT.out _).mono ?_; rintro e w1 ⟨gt, ct, rfl, hge1, hr1, hb1⟩; have HB1 := hidD hb1; have HRT := hidD hr1; clear hge1 hr1 hb1 HT)
    | (go_at_call 10; refine (HW.out _).mono ?_; rintro e w2 ⟨gw, cw, rfl, hge2, hr2, hb2⟩; have HB2 := hidD (Below.next HB1.out hb2); have HEw := hidD (Nat.le_trans HB1.out.size hge2); have HNtw := hidD (Nat.lt_of_lt_of_le HRT.out.lt hge2); have HRW := hidD hr2; have HRT := hidD (HRT.out.next hb2); clear hge2 hr2 hb2 HW)
    | (go_at_call 11; refine (HR.out _).mono ?_; rintro e w3 ⟨gr, cr, rfl, hge3, hr3, hb3⟩; have HB3 := hidD (Below.next HB2.out hb3); have HEr := hidD (Nat.le_trans HB2.out.size hge3); have HNtr := hidD (Nat.lt_of_lt_of_le HRT.out.lt hge3); have HNwr := hidD (Nat.lt_of_lt_of_le HRW.out.lt hge3); have HRR := hidD hr3; have HRW := hidD (HRW.out.next hb3); have HRT := hidD (HRT.out.next hb3); clear hge3 hr3 hb3 HR)
    | (go_at_call 12; refine (HS1.out _ _ _ _ _ HRW.out HRT.out).mono ?_; rintro e w4 ⟨rfl, hb4⟩; have HB4 := hidD (Below.next HB3.out hb4); have HRR := hidD (HRR.out.next hb4); have HRW := hidD (HRW.out.next hb4); have HRT := hidD (HRT.out.next hb4); clear hb4 HS1)
    | (go_at_call 12; refine (HS2.out _ _ _ _ _ HRR.out HRT.out).mono ?_; rintro e w5 ⟨rfl, hb5⟩; have HB5 := hidD (Below.next HB4.out hb5); have HRR := hidD (HRR.out.next hb5); have HRW := hidD (HRW.out.next hb5); have HRT := hidD (HRT.out.next hb5); clear hb5 HS2; have hne : gw ≠ gr := Nat.ne_of_lt HNwr.out; have hcw := HC.out _ _ HRW.out i hi; have hfw := HRW.out.frozen i; have HRR6 := HRR.out.put (fun h => hne h.symm) i (.int .u32 (x : Int)); have hcr := HC.out _ _ HRR6 i hi; have hfr := HRR6.frozen i; have HT6 := hidD ((HRT.out.put (Nat.ne_of_lt HNtw.out) i (.int .u32 (x : Int))).put (Nat.ne_of_lt HNtr.out) i (.int .u32 (x : Int))); have HB6 := hidD (below_setCell (below_setCell HB5.out HEw.out i (.int .u32 (x : Int))) HEr.out i (.int .u32 (x : Int))); clear HRR6 hne)
    | (go_at_call 10; refine (HW2.out _).mono ?_; rintro e w7 ⟨g7, c7, rfl, hge7, hr7, hb7⟩; have HR7 := hidD hr7; have HT7 := hidD (HT6.out.next hb7); have HB7 := hidD (Below.next HB6.out hb7); clear hge7 hr7 hb7 HW2; clear hcw hfw hcr hfr)
    | (go_at_call 12; refine (HS3.out _ _ _ _ _ HR7.out HT7.out).mono ?_; rintro e w8 ⟨rfl, hb8⟩; have HT8 := hidD (HT7.out.next hb8); have HB8 := hidD (Below.next HB7.out hb8); clear hb8 HR7 HS3)
    | (go_at_call 11; refine (HR2.out _).mono ?_; rintro e w9 ⟨g9, c9, rfl, hge9, hr9, hb9⟩; have HR9 := hidD hr9; have HT9 := hidD (HT8.out.next hb9); have HB9 := hidD (Below.next HB8.out hb9); clear hge9 hr9 hb9 HR2)
    | (go_at_call 12; refine (HS4.out _ _ _ _ _ HR9.out HT9.out).mono ?_; rintro e w10 ⟨rfl, hb10⟩; have HB10 := hidD (Below.next HB9.out hb10); clear hb10 HS4)
    | (go_at_call 13; refine (HF.out _).mono ?_; rintro e w11 ⟨rfl, rfl⟩)
    | (go_at_call 14; refine (HG.out _).mono ?_; rintro e w12 ⟨rfl, rfl⟩)
    | (go_at_call 15; refine (HL.out _).mono ?_; rintro e w13 ⟨rfl, rfl⟩))
  go_ret
  exact ⟨by first | rfl | (simp; done), HB10.out⟩

theorem aluTable_any (z : Int) (bz : -9223372036854775808 ≤ z ∧ z < 9223372036854775808) (x v p : Nat) (hx : x < 4294967296) (hv : v < 256) (hp : p < 256) (w : World) : Calls Try.prog 3 #[.int .i64 z, .int .u32 (x : Int), .int .u8 (v : Int), .int .u8 (p : Int)] w fun e w' => e = .returned (.bool true) ∧ Below w.heap.size w w' := by
  by_cases h1 : z < 0
  · exact tbl_low z h1 bz.1 x v p hx hv hp w
  · by_cases h2 : 256 ≤ z
    · exact tbl_up z h2 bz.2 x v p hx hv hp w
    · obtain ⟨i, rfl⟩ : ∃ i : Nat, z = i := ⟨z.toNat, by omega⟩
      exact tbl_in i (by omega) x v p hx hv hp w
end Go.Proofs.Ytiipfljdkbdbbaa
