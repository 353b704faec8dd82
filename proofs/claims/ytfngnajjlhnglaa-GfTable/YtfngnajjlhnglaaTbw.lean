/- GfTable's walk. -/
import Derived.Test.YtfngnajjlhnglaaTbl
import Derived.Test.YtfngnajjlhnglaaCrs
namespace Go.Proofs.Ytfngnajjlhnglaa
open Go.RowKit
set_option linter.unusedVariables false

set_option maxRecDepth 100000 in
set_option maxHeartbeats 800000 in
theorem same_words (f : Nat → Nat) (g h : Nat) (w : World) (hg : RowU w g f) (hh : RowU w h f) : Calls Try.prog 44 #[.slice (some ⟨g, 0, none⟩) 256 256, .slice (some ⟨h, 0, none⟩) 256 256] w fun e w' => e = .returned (.bool true) ∧ Below w.heap.size w w' := by
  have HG := hidD hg
  have HH := hidD hh
  clear hg hh
  go_enter Try.func44, Try.ntmps44
  go_wp2_with fail
  go_loopw [5] (fun i wr => ∃ k : Nat, k ≤ 256 ∧ i = .int .i64 k ∧ Below w.heap.size w wr) (fun i _ => 256 - (intOf i).toNat)
  case atStart => exact ⟨0, Nat.zero_le _, rfl, Below.refl _ _⟩
  case round =>
    obtain ⟨k, hk, rfl, hbel⟩ := hrel
    have HBL := hidD hbel
    by_cases hlt : k < 256
    · have hlti : (k : Int) < 256 := by omega
      have hc1 : ∀ n, (wr.drewN n).cell? ⟨g, k, none⟩ = some (.int .u32 (f k : Int)) := fun n => (HG.out.next hbel).cell hlt
      have hc2 : ∀ n, (wr.drewN n).cell? ⟨h, k, none⟩ = some (.int .u32 (f k : Int)) := fun n => (HH.out.next hbel).cell hlt
      clear hbel
      generalize (f k : Int) = v at *
      go_wp2_with fail
      go_quiet (fail)
      go_wp2_with fail
      go_roundw
      case rel => exact ⟨k + 1, by omega, by go_num, HBL.out.trans ⟨rfl, rfl, rfl, Nat.le_refl _, fun _ _ => rfl⟩⟩
      case measure => simp [intOf]; omega
    · obtain rfl : k = 256 := by omega
      clear hbel
      go_wp2_with fail
      go_ret
      exact ⟨rfl, HBL.out⟩
theorem RowU.put {w : World} {g k : Nat} {f : Nat → Nat} (h : RowU w g f) (hn : g ≠ k) (i : Nat) (v : Value) : RowU (w.setCell ⟨k, i, none⟩ v) g f := (Below.heap_setCell w ⟨k, i, none⟩ v g hn).trans h
theorem inv_of_zero : inv 27 0 = 0 := by decide +kernel
set_option maxRecDepth 100000 in
set_option maxHeartbeats 2000000 in
theorem table_zero (b : UInt8) (w : World) : Calls Try.prog 6 #[.int .u8 0, .int .u8 (b.toNat : Int)] w fun e w' => e = .returned (.bool true) ∧ Below w.heap.size w w' := by
  have HA := hidD (fun w => alive_any w)
  have HW := hidD (fun w => words_any w)
  have HW2 := hidD (fun w => words_any w)
  have HR := hidD (fun w => rule_any w)
  have HT := hidD (fun w => refRule_any w)
  have HS1 := hidD (fun g h w h1 h2 => same_words (ruleF 256) g h w h1 h2)
  have HS2 := hidD (fun g h w h1 h2 => same_words (ruleF 256) g h w h1 h2)
  have HS3 := hidD (fun g h w h1 h2 => same_words (ruleF 256) g h w h1 h2)
  have HM := hidD (fun w => gmul_any 0 b w)
  have HRM := hidD (fun w c (h : RfAt w c 27 3) => (refMul_any 0 b w h))
  have HI := hidD (fun w => inverse_any 0 w)
  rw [inv_of_zero] at HI
  have hbl : (b.toNat : Int) < 256 := by have := u8_lt b; omega
  generalize ((bm 27 0 b).toNat : Int) = XM at *
  rw [show (((0 : UInt8).toNat : Nat) : Int) = 0 from rfl] at HM HRM HI
  generalize b.toNat = B at *
  go_enter Try.func6, Try.ntmps6
  go_wp2_with (first
    | (go_at_call 15; refine (HA.out _).mono ?_; rintro e w0 ⟨rfl, hb0⟩; have HB := hidD hb0; clear hb0)
    | (go_at_call 41; refine (HW.out _).mono ?_; rintro e w1 ⟨gw, rfl, hge1, hr1, hb1⟩; have HB1 := hidD (Below.next HB.out hb1); have HE1 := hidD (Nat.le_trans HB.out.size hge1); have HR1 := hidD hr1; clear hb1 hge1 hr1 HW)
    | (go_at_call 42; refine (HR.out _).mono ?_; rintro e w2 ⟨gr, rfl, hge2, hr2, hb2⟩; have HB2 := hidD (Below.next HB1.out hb2); have HE2 := hidD (Nat.le_trans HB1.out.size hge2); have HN12 := hidD (Nat.lt_of_lt_of_le HR1.out.lt hge2); have HR2 := hidD hr2; have HR1 := hidD (HR1.out.next hb2); clear hb2 hge2 hr2)
    | (go_at_call 43; refine (HT.out _).mono ?_; rintro e w3 ⟨gt, rfl, hge3, hr3, hb3⟩; have HB3 := hidD (Below.next HB2.out hb3); have HN13 := hidD (Nat.lt_of_lt_of_le HR1.out.lt hge3); have HN23 := hidD (Nat.lt_of_lt_of_le HR2.out.lt hge3); have HR3 := hidD hr3; have HR1 := hidD (HR1.out.next hb3); have HR2 := hidD (HR2.out.next hb3); clear hb3 hge3 hr3)
    | (go_at_call 44; refine (HS1.out _ _ _ HR1.out HR3.out).mono ?_; rintro e w4 ⟨rfl, hb4⟩; have HB4 := hidD (Below.next HB3.out hb4); have HR1 := hidD (HR1.out.next hb4); have HR2 := hidD (HR2.out.next hb4); have HR3 := hidD (HR3.out.next hb4); clear hb4 HS1)
    | (go_at_call 44; refine (HS2.out _ _ _ HR2.out HR3.out).mono ?_; rintro e w5 ⟨rfl, hb5⟩; have HB5 := hidD (Below.next HB4.out hb5); have HR1 := hidD (HR1.out.next hb5); have HR2 := hidD (HR2.out.next hb5); have HR3 := hidD (HR3.out.next hb5); clear hb5 HS2; have hcw := HR1.out.cell (k := 0) (by omega); have hfw := HR1.out.frozen 0; have hcr : ∀ v, (w5.setCell ⟨gw, 0, none⟩ v).cell? ⟨gr, B, none⟩ = some (.int .u32 (ruleF 256 B : Int)) := fun v => (HR2.out.put (Nat.ne_of_gt HN12.out) 0 v).cell (k := B) (by omega); have hfr : ∀ v, (w5.setCell ⟨gw, 0, none⟩ v).frozen? ⟨gr, B, none⟩ = false := fun v => (HR2.out.put (Nat.ne_of_gt HN12.out) 0 v).frozen B; have HNW : Hid (∀ v1 v2 t, RfAt (((w5.setCell ⟨gw, 0, none⟩ v1).setCell ⟨gr, B, none⟩ v2).alloc (.cells #[.int .i64 283, .int .u8 3] t)) w5.heap.size 27 3) := (fun v1 v2 t => by have := RfAt.new ((w5.setCell ⟨gw, 0, none⟩ v1).setCell ⟨gr, B, none⟩ v2) 27 3 283 rfl t; simpa using this); have HBS : Hid (∀ v1 v2 o, Below w.heap.size w (((w5.setCell ⟨gw, 0, none⟩ v1).setCell ⟨gr, B, none⟩ v2).alloc o)) := (fun v1 v2 o => ((HB5.out.setCell (p := ⟨gw, 0, none⟩) HE1.out v1).setCell (p := ⟨gr, B, none⟩) HE2.out v2).alloc (by have := HB5.out.size; simpa using this) o); have HRS : Hid (∀ v1 v2 o, RowU (((w5.setCell ⟨gw, 0, none⟩ v1).setCell ⟨gr, B, none⟩ v2).alloc o) gt (ruleF 256)) := (fun v1 v2 o => ((HR3.out.put (Nat.ne_of_gt HN13.out) 0 v1).put (Nat.ne_of_gt HN23.out) B v2).next ((Below.refl _ _).alloc (Nat.le_refl _) o)))
    | (go_at_call 41; refine (HW2.out _).mono ?_; rintro e w7 ⟨gx, rfl, hge7, hr7, hb7⟩; have HB7 := hidD (Below.next (HBS.out _ _ _) hb7); have HR7 := hidD hr7; have HR8 := hidD ((HRS.out _ _ _).next hb7); have HF7 := hidD ((HNW.out _ _ _).next hb7); clear hb7 hge7 hr7)
    | (go_at_call 44; refine (HS3.out _ _ _ HR7.out HR8.out).mono ?_; rintro e w8 ⟨rfl, hb8⟩; have HB8 := hidD (Below.next HB7.out hb8); have HF8 := hidD (HF7.out.next hb8); clear hb8)
    | (go_at_call 45; refine (HM.out _).mono ?_; rintro e w9 ⟨rfl, hb9⟩)
    | (go_at_call 27; refine (HRM.out _ _ HF8.out).mono ?_; rintro e w9 ⟨rfl, hb9⟩)
    | (go_at_call 46; refine (HI.out _).mono ?_; rintro e w9 ⟨rfl, hb9⟩))
  go_ret
  exact ⟨rfl, HB8.out⟩
set_option maxRecDepth 100000 in
set_option maxHeartbeats 2000000 in
theorem table_some (a : UInt8) (ha : a ≠ 0) (b : UInt8) (w : World) : Calls Try.prog 6 #[.int .u8 (a.toNat : Int), .int .u8 (b.toNat : Int)] w fun e w' => e = .returned (.bool true) ∧ Below w.heap.size w w' := by
  have HA := hidD (fun w => alive_any w)
  have HW := hidD (fun w => words_any w)
  have HW2 := hidD (fun w => words_any w)
  have HR := hidD (fun w => rule_any w)
  have HT := hidD (fun w => refRule_any w)
  have HS1 := hidD (fun g h w h1 h2 => same_words (ruleF 256) g h w h1 h2)
  have HS2 := hidD (fun g h w h1 h2 => same_words (ruleF 256) g h w h1 h2)
  have HS3 := hidD (fun g h w h1 h2 => same_words (ruleF 256) g h w h1 h2)
  have HM := hidD (fun w => gmul_any a b w)
  have HRM := hidD (fun w c (h : RfAt w c 27 3) => (refMul_any a b w h))
  have HI := hidD (fun w => inverse_any a w)
  have HRI := hidD (fun w c (h : RfAt w c 27 3) => refInv_some a ha w h)
  have ha0 := u8_ne ha
  have hab := u8_bne ha
  have hal : (a.toNat : Int) < 256 := by have := u8_lt a; omega
  have hbl : (b.toNat : Int) < 256 := by have := u8_lt b; omega
  generalize ((bm 27 a b).toNat : Int) = XM at *
  generalize ((inv 27 a).toNat : Int) = XI at *
  clear ha
  generalize a.toNat = A at *
  generalize b.toNat = B at *
  go_enter Try.func6, Try.ntmps6
  go_wp2_with (first
    | (go_at_call 15; refine (HA.out _).mono ?_; rintro e w0 ⟨rfl, hb0⟩; have HB := hidD hb0; clear hb0)
    | (go_at_call 41; refine (HW.out _).mono ?_; rintro e w1 ⟨gw, rfl, hge1, hr1, hb1⟩; have HB1 := hidD (Below.next HB.out hb1); have HE1 := hidD (Nat.le_trans HB.out.size hge1); have HR1 := hidD hr1; clear hb1 hge1 hr1 HW)
    | (go_at_call 42; refine (HR.out _).mono ?_; rintro e w2 ⟨gr, rfl, hge2, hr2, hb2⟩; have HB2 := hidD (Below.next HB1.out hb2); have HE2 := hidD (Nat.le_trans HB1.out.size hge2); have HN12 := hidD (Nat.lt_of_lt_of_le HR1.out.lt hge2); have HR2 := hidD hr2; have HR1 := hidD (HR1.out.next hb2); clear hb2 hge2 hr2)
    | (go_at_call 43; refine (HT.out _).mono ?_; rintro e w3 ⟨gt, rfl, hge3, hr3, hb3⟩; have HB3 := hidD (Below.next HB2.out hb3); have HN13 := hidD (Nat.lt_of_lt_of_le HR1.out.lt hge3); have HN23 := hidD (Nat.lt_of_lt_of_le HR2.out.lt hge3); have HR3 := hidD hr3; have HR1 := hidD (HR1.out.next hb3); have HR2 := hidD (HR2.out.next hb3); clear hb3 hge3 hr3)
    | (go_at_call 44; refine (HS1.out _ _ _ HR1.out HR3.out).mono ?_; rintro e w4 ⟨rfl, hb4⟩; have HB4 := hidD (Below.next HB3.out hb4); have HR1 := hidD (HR1.out.next hb4); have HR2 := hidD (HR2.out.next hb4); have HR3 := hidD (HR3.out.next hb4); clear hb4 HS1)
    | (go_at_call 44; refine (HS2.out _ _ _ HR2.out HR3.out).mono ?_; rintro e w5 ⟨rfl, hb5⟩; have HB5 := hidD (Below.next HB4.out hb5); have HR1 := hidD (HR1.out.next hb5); have HR2 := hidD (HR2.out.next hb5); have HR3 := hidD (HR3.out.next hb5); clear hb5 HS2; have hcw := HR1.out.cell (k := A) (by omega); have hfw := HR1.out.frozen A; have hcr : ∀ v, (w5.setCell ⟨gw, A, none⟩ v).cell? ⟨gr, B, none⟩ = some (.int .u32 (ruleF 256 B : Int)) := fun v => (HR2.out.put (Nat.ne_of_gt HN12.out) A v).cell (k := B) (by omega); have hfr : ∀ v, (w5.setCell ⟨gw, A, none⟩ v).frozen? ⟨gr, B, none⟩ = false := fun v => (HR2.out.put (Nat.ne_of_gt HN12.out) A v).frozen B; have HNW : Hid (∀ v1 v2 t, RfAt (((w5.setCell ⟨gw, A, none⟩ v1).setCell ⟨gr, B, none⟩ v2).alloc (.cells #[.int .i64 283, .int .u8 3] t)) w5.heap.size 27 3) := (fun v1 v2 t => by have := RfAt.new ((w5.setCell ⟨gw, A, none⟩ v1).setCell ⟨gr, B, none⟩ v2) 27 3 283 rfl t; simpa using this); have HBS : Hid (∀ v1 v2 o, Below w.heap.size w (((w5.setCell ⟨gw, A, none⟩ v1).setCell ⟨gr, B, none⟩ v2).alloc o)) := (fun v1 v2 o => ((HB5.out.setCell (p := ⟨gw, A, none⟩) HE1.out v1).setCell (p := ⟨gr, B, none⟩) HE2.out v2).alloc (by have := HB5.out.size; simpa using this) o); have HRS : Hid (∀ v1 v2 o, RowU (((w5.setCell ⟨gw, A, none⟩ v1).setCell ⟨gr, B, none⟩ v2).alloc o) gt (ruleF 256)) := (fun v1 v2 o => ((HR3.out.put (Nat.ne_of_gt HN13.out) A v1).put (Nat.ne_of_gt HN23.out) B v2).next ((Below.refl _ _).alloc (Nat.le_refl _) o)))
    | (go_at_call 21; refine (HRI.out _ _ (HNW.out _ _ _)).mono ?_; rintro e w6 ⟨rfl, hb6⟩)
    | (go_at_call 41; refine (HW2.out _).mono ?_; rintro e w7 ⟨gx, rfl, hge7, hr7, hb7⟩; have HB7 := hidD (Below.next (HBS.out _ _ _) hb7); have HR7 := hidD hr7; have HR8 := hidD ((HRS.out _ _ _).next hb7); have HF7 := hidD ((HNW.out _ _ _).next hb7); clear hb7 hge7 hr7)
    | (go_at_call 44; refine (HS3.out _ _ _ HR7.out HR8.out).mono ?_; rintro e w8 ⟨rfl, hb8⟩; have HB8 := hidD (Below.next HB7.out hb8); have HF8 := hidD (HF7.out.next hb8); clear hb8)
    | (go_at_call 45; refine (HM.out _).mono ?_; rintro e w9 ⟨rfl, hb9⟩)
    | (go_at_call 27; refine (HRM.out _ _ HF8.out).mono ?_; rintro e w9 ⟨rfl, hb9⟩)
    | (go_at_call 46; refine (HI.out _).mono ?_; rintro e w9 ⟨rfl, hb9⟩))
  go_ret
  exact ⟨rfl, HB8.out⟩
theorem gfTable_any (na nb : Nat) (ha : na < 256) (hb : nb < 256) (w : World) : Calls Try.prog 6 #[.int .u8 na, .int .u8 nb] w fun e w' => e = .returned (.bool true) ∧ Below w.heap.size w w' := by
  obtain ⟨a, rfl⟩ := u8_of na ha
  obtain ⟨b, rfl⟩ := u8_of nb hb
  by_cases h : a = 0
  · subst h
    exact table_zero b w
  · exact table_some a h b w
end Go.Proofs.Ytfngnajjlhnglaa
