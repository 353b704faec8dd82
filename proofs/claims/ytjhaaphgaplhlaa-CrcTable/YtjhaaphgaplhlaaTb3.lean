/- The walk of CrcTable. -/
import Derived.Test.YtjhaaphgaplhlaaTb2
namespace Go.Proofs.Ytjhaaphgaplhlaa
open Go.RowKit
set_option linter.unusedVariables false

theorem cat_from {w : World} {g k : Nat} {t : TypeId} {cs : Array Value} (h : w.heap[g]? = some (.cells cs t (0, 0))) (hcs : ∀ j, 7 * k ≤ j → cs[j]? = catC[j]?) (hk : k < 10) : MdIn w g (k * 7) (catL.getD k md0) := by
  obtain ⟨c0, c1, c2, c3, c4, c5, c6⟩ := cat_in (heap_alloc_last w (.cells catC 35)) k hk
  rw [World.cell?_alloc_new] at c0 c1 c2 c3 c4 c5 c6
  constructor <;> (rw [cell_of_row _ _ _ _ _ _ h, hcs _ (by omega)]; assumption)
theorem MdIn.below {w w' : World} {g o : Nat} {m : Md} (h : MdIn w g o m) {n : Nat} (hb : Below n w w') (hg : g < n) : MdIn w' g o m := by
  obtain ⟨h0, h1, h2, h3, h4, h5, h6⟩ := h
  constructor <;> (rw [hb.cell (p := ⟨g, _, none⟩) hg]; assumption)
theorem below_same {w1 w : World} : Below w1.heap.size w1 w → w1.heap.size ≤ w.heap.size := fun h => h.size

set_option maxRecDepth 100000 in
set_option maxHeartbeats 1600000 in
theorem tableLaw_low (name : ByteArray) (bs : List UInt8) (hl : bs.length ≤ 140737488355328) (z : Int) (hz : z < 0) (v : Nat) (sl : Value) (w : World) (hs : ByAt w sl bs) : Calls Try.prog 3 #[.string name, sl, .int .i64 z, .int .u32 (v : Int)] w fun e w' => e = .returned (.bool true) ∧ Below w.heap.size w w' := by
  have hz1 : decide (0 ≤ z) = false := by simp; omega
  have hz2 : ¬ (0 ≤ z) := by omega
  have HBY := hidD hs
  have H9 := hidD refWords_any
  have H10 := hidD words_any
  have H10b := hidD words_any
  have H11 := hidD rule_any
  have H11b := hidD rule_any
  have H13 := hidD live_any
  have H14 := hidD catalogue_any
  have H15 := hidD refCatalogue_any
  have HS1 := hidD (fun s1 s2 w h1 h2 => sameWords_same 256 t32 (by omega) s1 s2 w h1 h2)
  have HS2 := hidD (fun s1 s2 w h1 h2 => sameWords_same 256 t32 (by omega) s1 s2 w h1 h2)
  have HS3 := hidD (fun s1 s2 w h1 h2 => sameWords_same 256 t32 (by omega) s1 s2 w h1 h2)
  have HS4 := hidD (fun s1 s2 w h1 h2 => sameWords_same 256 t32 (by omega) s1 s2 w h1 h2)
  have H17 := hidD (fun w => find_any name w)
  have H18 := hidD (fun w => refFind_any name w)
  have H18c := hidD (fun w => refFind_any ⟨#[67, 82, 67, 45, 51, 50, 47, 73, 83, 79, 45, 72, 68, 76, 67]⟩ w)
  rw [find_32] at H18c
  have H19 := hidD (fun sl w hs => refSum_some m32 m32_ok bs (by omega) sl w hs)
  have H20 := hidD (fun sl w hs => sum32_any bs (by omega) sl w hs)
  have H21 := hidD (fun sl w hs => own_any bs hl sl w hs)
  have HSM := hidD sameModel_same
  have hS : sumS m32 bs < 4294967296 := by rw [← reg32_end]; exact xor_lt (w := 32) (reg32_lt _ _) (by decide)
  have hw64 : IntKind.u64.wrap (sumS m32 bs : Int) = (sumS m32 bs : Int) := by rw [IntKind.wrap_u64]; omega
  have hw65 : (sumS m32 bs : Int) % 18446744073709551616 = (sumS m32 bs : Int) := by omega
  clear hs hS
  generalize sumS m32 bs = S at *
  simp only [m32, catL, Md.v, List.getD_cons_succ, List.getD_cons_zero] at H18c H19
  generalize findS name = F at *
  obtain ⟨FM, fb⟩ := F
  have HSF := hidD (fun w => sameModel_same FM w)
  obtain ⟨nm, ww, P, I, inn, out, X⟩ := FM
  simp only [Md.v] at H17 H18 HSF
  go_enter Try.func3, Try.ntmps3
  go_wp2_with (first
    | (go_at_call 9; refine (H9.out _).mono ?_; rintro e w1 ⟨v9, rfl, hown9, hb1⟩; have HN9 := hidD (NsAt.row hown9); have HB1 := hidD hb1; clear hown9 hb1)
    | (go_at_call 10; refine (H10.out _).mono ?_; rintro e w2 ⟨g10, rfl, hg10, hc10, hb2⟩; have HG10 := hidD hg10; have HC10 := hidD hc10; have HB2 := hidD hb2; clear hg10 hc10 hb2 H10)
    | (go_at_call 11; refine (H11.out _).mono ?_; rintro e w3 ⟨g11, rfl, hg11, hc11, hb3⟩; have HG11 := hidD hg11; have HC11 := hidD hc11; have HB3 := hidD (Below.next HB2.out hb3); have HD10 := hidD ((hb3.block _ (row_lt HC10.out)).trans HC10.out); have HE10 := hidD (row_lt HC10.out); clear hg11 hc11 hb3 H11 HC10)
    | (go_at_call 12; refine (HS1.out _ _ _ (NsAt.fill HD10.out) (HN9.out.below HB3.out)).mono ?_; rintro e w4 ⟨rfl, hb4⟩; have HB4 := hidD (Below.next HB3.out hb4); have HR4 := hidD hb4; clear HS1 hb4)
    | (go_at_call 12; refine (HS2.out _ _ _ ((NsAt.fill HC11.out).below HR4.out) (HN9.out.below HB4.out)).mono ?_; rintro e w5 ⟨rfl, hb5⟩; have HB5 := hidD (Below.next HB4.out hb5); have HR5 := hidD (Below.next HR4.out hb5); clear HS2 hb5 HR4)
    | (go_at_call 13; refine (H13.out _).mono ?_; rintro e w6 ⟨rfl, hb6⟩; have HB6 := hidD (Below.next HB5.out hb6); have HR6 := hidD (Below.next HR5.out hb6); clear hb6 H13 HR5; have HP7 := hidD HB6.out)
    | (go_at_call 14; refine (H14.out _).mono ?_; rintro e w8 ⟨g14, rfl, hg14, hc14, hb8⟩; have HC14 := hidD hc14; have HB8 := hidD (Below.next HP7.out hb8); have HG14 := hidD (Nat.le_trans HP7.out.size hg14); clear hg14 hc14 hb8 H14)
    | (go_at_call 15; refine (H15.out _).mono ?_; rintro e w9 ⟨g15, rfl, hg15, hc15, hb9⟩; have HC15 := hidD hc15; have HB9 := hidD (Below.next HB8.out hb9); have HD14 := hidD ((hb9.block _ (row_lt HC14.out)).trans HC14.out); have HNE := hidD (Nat.ne_of_lt (Nat.lt_of_lt_of_le (row_lt HC14.out) hg15)); clear hg15 hc15 hb9 H15 HC14))
  clear HR6 HB8 HB6 HB5 HB4 HB3 HB2 HD10 HC11 HP7 HG10 HG11 HE10
  clear hz1 hz2
  go_loopw [14] (fun i wr => ∃ (k : Nat) (cs : Array Value), k ≤ 10 ∧ i = .int .i64 k ∧ wr.heap[g14]? = some (.cells cs (35 : TypeId) (0, 0)) ∧ (∀ j, 7 * k ≤ j → cs[j]? = catC[j]?) ∧ wr.heap[g15]? = some (.cells catC (36 : TypeId) (0, 0)) ∧ Below w1.heap.size w1 wr) (fun i _ => 10 - (intOf i).toNat)
  case atStart => exact ⟨0, catC, Nat.zero_le _, rfl, HD14.out, fun j _ => rfl, HC15.out, HB9.out⟩
  case round =>
    obtain ⟨k, cs, hk, rfl, h14, hcs, h15, hbel⟩ := hrel
    have HBL := hidD hbel
    clear hbel HD14 HC15 HB9
    by_cases hlt : k < 10
    · have hlti : (k : Int) < 10 := by omega
      have HM4 := hidD (cat_from h14 hcs hlt)
      have HM5 := hidD (cat_in h15 k hlt)
      have HSK := hidD (fun w => HSM.out (catL.getD k md0) w)
      have H14r := hidD h14
      have H15r := hidD h15
      have HCS := hidD hcs
      have HL4 := hidD (row_lt h14)
      have HL5 := hidD (row_lt h15)
      clear h14 h15 hcs HSF H17 H18 H18c HSM
      generalize catL.getD k md0 = CM at *
      obtain ⟨nm2, ww2, P2, I2, inn2, out2, X2⟩ := CM
      simp only [Md.v] at HSK
      have m4 : ∀ i : BW wr, MdIn i.v g14 (k * 7) ⟨nm2, ww2, P2, I2, inn2, out2, X2⟩ := fun i => HM4.out.below i.below HL4.out
      have m5 : ∀ i : BW wr, MdIn i.v g15 (k * 7) ⟨nm2, ww2, P2, I2, inn2, out2, X2⟩ := fun i => HM5.out.below i.below HL5.out
      have k0 := fun i => (m4 i).c0
      have k1 := fun i => (m4 i).c1
      have k2 := fun i => (m4 i).c2
      have k3 := fun i => (m4 i).c3
      have k4 := fun i => (m4 i).c4
      have k5 := fun i => (m4 i).c5
      have k6 := fun i => (m4 i).c6
      have l0 := fun i => (m5 i).c0
      have l1 := fun i => (m5 i).c1
      have l2 := fun i => (m5 i).c2
      have l3 := fun i => (m5 i).c3
      have l4 := fun i => (m5 i).c4
      have l5 := fun i => (m5 i).c5
      have l6 := fun i => (m5 i).c6
      simp only at k0 k1 k2 k3 k4 k5 k6 l0 l1 l2 l3 l4 l5 l6
      clear m4 m5
      go_wp2_with fail
      refine wp_region_below (by kernel_rfl) (by kernel_rfl) ?_
      repeat (go_big_quiet_step ((go_at_call 16; exact Calls.below_of (HSK.out _))))
      refine wpQuiet_nil ?_
      intro i7
      have hca := k2 i7
      have H14i := hidD ((i7.below.block _ HL4.out).trans H14r.out)
      have hfr : i7.v.frozen? ⟨g14, k * 7 + 2, none⟩ = false := frozen_of_row _ _ _ _ _ H14i.out
      have HN4 := hidD (heap_setCell_same i7.v g14 (k * 7 + 2) _ _ (.int .u64 0) H14i.out)
      have HN5 := hidD ((heap_setCell_other i7.v ⟨g14, k * 7 + 2, none⟩ g15 (.int .u64 0) (fun h => HNE.out h.symm)).trans ((i7.below.block _ HL5.out).trans H15r.out))
      clear k0 k1 k2 k3 k4 k5 k6 l0 l1 l2 l3 l4 l5 l6
      go_wp2_with fail
      go_roundw
      case rel => exact ⟨k + 1, cs.setIfInBounds (k * 7 + 2) (.int .u64 0), by omega, by go_num, HN4.out, fun j hj => by rw [Array.getElem?_setIfInBounds_ne (by omega)]; exact HCS.out j (by omega), HN5.out, (Below.next HBL.out i7.below).setCell (p := ⟨g14, k * 7 + 2, none⟩) HG14.out _⟩
      case measure => simp [intOf]; omega
    · obtain rfl : k = 10 := by omega
      clear h14 h15 hcs HNE HG14 HSM
      go_wp2_with (first
        | (go_at_call 17; refine (H17.out _).mono ?_; rintro e w10 ⟨rfl, hb10⟩; have HB10 := hidD (Below.next HBL.out hb10); clear hb10 H17 HBL)
        | (go_at_call 18; refine (H18.out _).mono ?_; rintro e w11 ⟨rfl, hb11⟩; have HX11 := hidD ((MdAt.new ⟨nm, ww, P, I, inn, out, X⟩ w10 35).below hb11 (by simp)); have HB11 := hidD (Below.next (Below.more HB10.out _) hb11); have HL11 := hidD (Nat.lt_of_lt_of_le (show w10.heap.size < (w10.alloc (.cells (Md.cells ⟨nm, ww, P, I, inn, out, X⟩) 35)).heap.size by simp) hb11.size); clear hb11 H18 HB10)
        | (go_at_call 18; refine (H18c.out _).mono ?_; rintro e w12 ⟨rfl, hb12⟩; have HX12 := hidD ((HX11.out.below ((Below.refl w11.heap.size w11).alloc (Nat.le_refl _) (.cells (Md.cells ⟨nm, ww, P, I, inn, out, X⟩) 36)) HL11.out).below hb12 (Nat.lt_of_lt_of_le HL11.out (by simp))); have HY12 := hidD ((MdAt.new ⟨nm, ww, P, I, inn, out, X⟩ w11 36).below hb12 (by simp)); have HB12 := hidD (Below.next (Below.more HB11.out _) hb12); have HL12 := hidD (Nat.lt_of_lt_of_le (show w11.heap.size < (w11.alloc (.cells (Md.cells ⟨nm, ww, P, I, inn, out, X⟩) 36)).heap.size by simp) hb12.size); clear hb12 H18c HX11 HB11)
        | (go_at_call 19; refine (H19.out _ _ (HBY.out.below (Below.next HB1.out (Below.more HB12.out _)) (Nat.le_refl _))).mono ?_; rintro e w13 ⟨rfl, hb13⟩; have HB13 := hidD (Below.next (Below.more HB12.out _) hb13); have hb14 := ((Below.refl w12.heap.size w12).alloc (Nat.le_refl _) _).trans (hb13.mono (by simp)); obtain ⟨k0, k1, k2, k3, k4, k5, k6⟩ := HX12.out.below hb14 (Nat.lt_trans HL11.out HL12.out); obtain ⟨l0, l1, l2, l3, l4, l5, l6⟩ := HY12.out.below hb14 HL12.out; simp only at k0 k1 k2 k3 k4 k5 k6 l0 l1 l2 l3 l4 l5 l6; clear hb13 hb14 H19 HX12 HY12 HB12 HL11 HL12)
        | (go_at_call 16; refine (HSF.out _).mono ?_; rintro e w14 ⟨rfl, hb14⟩; have HB14 := hidD (Below.next HB13.out hb14); clear hb14 HSF HB13 k0 k1 k2 k3 k4 k5 k6 l0 l1 l2 l3 l4 l5 l6)
        | (go_at_call 10; refine (H10b.out _).mono ?_; rintro e w15 ⟨g1, rfl, hg1, hc1, hb15⟩; have HN15 := hidD (NsAt.fill hc1); have HB15 := hidD (Below.next HB14.out hb15); clear hg1 hc1 hb15 H10b)
        | (go_at_call 12; refine (HS3.out _ _ _ HN15.out (HN9.out.below HB15.out)).mono ?_; rintro e w16 ⟨rfl, hb16⟩; have HB16 := hidD (Below.next HB15.out hb16); clear hb16 HS3 HN15)
        | (go_at_call 11; refine (H11b.out _).mono ?_; rintro e w17 ⟨g2, rfl, hg2, hc2, hb17⟩; have HN17 := hidD (NsAt.fill hc2); have HB17 := hidD (Below.next HB16.out hb17); clear hg2 hc2 hb17 H11b)
        | (go_at_call 12; refine (HS4.out _ _ _ HN17.out (HN9.out.below HB17.out)).mono ?_; rintro e w18 ⟨rfl, hb18⟩; have HB18 := hidD (Below.next HB17.out hb18); clear hb18 HS4 HN17)
        | (go_at_call 21; refine (H21.out _ _ (HBY.out.below (Below.next HB1.out HB18.out) (Nat.le_refl _))).mono ?_; rintro e w19 ⟨v19, rfl, hown19, hb19⟩; have HY19 := hidD (row_by hown19); have HB19 := hidD (Below.next HB18.out hb19); clear hown19 hb19 H21)
        | (go_at_call 20; refine (H20.out _ _ HY19.out).mono ?_; rintro e w20 ⟨rfl, hb20⟩; have HB20 := hidD (Below.next HB19.out hb20); clear hb20 H20))
      go_ret
      exact ⟨rfl, Below.next HB1.out HB20.out⟩

set_option maxRecDepth 100000 in
set_option maxHeartbeats 1600000 in
theorem tableLaw_in (name : ByteArray) (bs : List UInt8) (hl : bs.length ≤ 140737488355328) (i : Nat) (hi : i < 256) (v : Nat) (sl : Value) (w : World) (hs : ByAt w sl bs) : Calls Try.prog 3 #[.string name, sl, .int .i64 (i : Int), .int .u32 (v : Int)] w fun e w' => e = .returned (.bool true) ∧ Below w.heap.size w w' := by
  have hii : (i : Int) < 256 := by omega
  have HBY := hidD hs
  have H9 := hidD refWords_any
  have H10 := hidD words_any
  have H10b := hidD words_any
  have H11 := hidD rule_any
  have H11b := hidD rule_any
  have H13 := hidD live_any
  have H14 := hidD catalogue_any
  have H15 := hidD refCatalogue_any
  have HS1 := hidD (fun s1 s2 w h1 h2 => sameWords_same 256 t32 (by omega) s1 s2 w h1 h2)
  have HS2 := hidD (fun s1 s2 w h1 h2 => sameWords_same 256 t32 (by omega) s1 s2 w h1 h2)
  have HS3 := hidD (fun s1 s2 w h1 h2 => sameWords_same 256 t32 (by omega) s1 s2 w h1 h2)
  have HS4 := hidD (fun s1 s2 w h1 h2 => sameWords_same 256 t32 (by omega) s1 s2 w h1 h2)
  have H17 := hidD (fun w => find_any name w)
  have H18 := hidD (fun w => refFind_any name w)
  have H18c := hidD (fun w => refFind_any ⟨#[67, 82, 67, 45, 51, 50, 47, 73, 83, 79, 45, 72, 68, 76, 67]⟩ w)
  rw [find_32] at H18c
  have H19 := hidD (fun sl w hs => refSum_some m32 m32_ok bs (by omega) sl w hs)
  have H20 := hidD (fun sl w hs => sum32_any bs (by omega) sl w hs)
  have H21 := hidD (fun sl w hs => own_any bs hl sl w hs)
  have HSM := hidD sameModel_same
  have hS : sumS m32 bs < 4294967296 := by rw [← reg32_end]; exact xor_lt (w := 32) (reg32_lt _ _) (by decide)
  have hw64 : IntKind.u64.wrap (sumS m32 bs : Int) = (sumS m32 bs : Int) := by rw [IntKind.wrap_u64]; omega
  have hw65 : (sumS m32 bs : Int) % 18446744073709551616 = (sumS m32 bs : Int) := by omega
  clear hs hS
  generalize sumS m32 bs = S at *
  simp only [m32, catL, Md.v, List.getD_cons_succ, List.getD_cons_zero] at H18c H19
  generalize findS name = F at *
  obtain ⟨FM, fb⟩ := F
  have HSF := hidD (fun w => sameModel_same FM w)
  obtain ⟨nm, ww, P, I, inn, out, X⟩ := FM
  simp only [Md.v] at H17 H18 HSF
  go_enter Try.func3, Try.ntmps3
  go_wp2_with (first
    | (go_at_call 9; refine (H9.out _).mono ?_; rintro e w1 ⟨v9, rfl, hown9, hb1⟩; have HN9 := hidD (NsAt.row hown9); have HB1 := hidD hb1; clear hown9 hb1)
    | (go_at_call 10; refine (H10.out _).mono ?_; rintro e w2 ⟨g10, rfl, hg10, hc10, hb2⟩; have HG10 := hidD hg10; have HC10 := hidD hc10; have HB2 := hidD hb2; clear hg10 hc10 hb2 H10)
    | (go_at_call 11; refine (H11.out _).mono ?_; rintro e w3 ⟨g11, rfl, hg11, hc11, hb3⟩; have HG11 := hidD hg11; have HC11 := hidD hc11; have HB3 := hidD (Below.next HB2.out hb3); have HD10 := hidD ((hb3.block _ (row_lt HC10.out)).trans HC10.out); have HE10 := hidD (row_lt HC10.out); clear hg11 hc11 hb3 H11 HC10)
    | (go_at_call 12; refine (HS1.out _ _ _ (NsAt.fill HD10.out) (HN9.out.below HB3.out)).mono ?_; rintro e w4 ⟨rfl, hb4⟩; have HB4 := hidD (Below.next HB3.out hb4); have HR4 := hidD hb4; clear HS1 hb4)
    | (go_at_call 12; refine (HS2.out _ _ _ ((NsAt.fill HC11.out).below HR4.out) (HN9.out.below HB4.out)).mono ?_; rintro e w5 ⟨rfl, hb5⟩; have HB5 := hidD (Below.next HB4.out hb5); have HR5 := hidD (Below.next HR4.out hb5); clear HS2 hb5 HR4)
    | (go_at_call 13; refine (H13.out _).mono ?_; rintro e w6 ⟨rfl, hb6⟩; have HB6 := hidD (Below.next HB5.out hb6); have HR6 := hidD (Below.next HR5.out hb6); clear hb6 H13 HR5; have f10 := (HR6.out.block _ (row_lt HD10.out)).trans HD10.out; have f11 := (HR6.out.block _ (row_lt HC11.out)).trans HC11.out; have hne : g10 ≠ g11 := Nat.ne_of_lt (Nat.lt_of_lt_of_le HE10.out HG11.out); have q10 : w6.cell? ⟨g10, i, none⟩ = some (.int .u32 (t32 i : Nat)) := (cell_of_row _ _ _ _ _ _ f10).trans (fill_at _ _ i hi); have r10 : w6.frozen? ⟨g10, i, none⟩ = false := frozen_of_row _ _ _ _ _ f10; have f12 := (heap_setCell_other w6 ⟨g10, i, none⟩ g11 (.int .u32 (v : Int)) (fun h => hne h.symm)).trans f11; have q11 : (w6.setCell ⟨g10, i, none⟩ (.int .u32 (v : Int))).cell? ⟨g11, i, none⟩ = some (.int .u32 (t32 i : Nat)) := (cell_of_row _ _ _ _ _ _ f12).trans (fill_at _ _ i hi); have r11 : (w6.setCell ⟨g10, i, none⟩ (.int .u32 (v : Int))).frozen? ⟨g11, i, none⟩ = false := frozen_of_row _ _ _ _ _ f12; have HP7 := hidD ((HB6.out.setCell (p := ⟨g10, i, none⟩) HG10.out (.int .u32 (v : Int))).setCell (p := ⟨g11, i, none⟩) (Nat.le_trans HB2.out.size HG11.out) (.int .u32 (v : Int))); clear f10 f11 f12 hne)
    | (go_at_call 14; refine (H14.out _).mono ?_; rintro e w8 ⟨g14, rfl, hg14, hc14, hb8⟩; have HC14 := hidD hc14; have HB8 := hidD (Below.next HP7.out hb8); have HG14 := hidD (Nat.le_trans HP7.out.size hg14); clear hg14 hc14 hb8 H14)
    | (go_at_call 15; refine (H15.out _).mono ?_; rintro e w9 ⟨g15, rfl, hg15, hc15, hb9⟩; have HC15 := hidD hc15; have HB9 := hidD (Below.next HB8.out hb9); have HD14 := hidD ((hb9.block _ (row_lt HC14.out)).trans HC14.out); have HNE := hidD (Nat.ne_of_lt (Nat.lt_of_lt_of_le (row_lt HC14.out) hg15)); clear hg15 hc15 hb9 H15 HC14))
  clear HR6 HB8 HB6 HB5 HB4 HB3 HB2 HD10 HC11 HP7 HG10 HG11 HE10
  clear q10 r10 q11 r11 hii
  go_loopw [14] (fun i wr => ∃ (k : Nat) (cs : Array Value), k ≤ 10 ∧ i = .int .i64 k ∧ wr.heap[g14]? = some (.cells cs (35 : TypeId) (0, 0)) ∧ (∀ j, 7 * k ≤ j → cs[j]? = catC[j]?) ∧ wr.heap[g15]? = some (.cells catC (36 : TypeId) (0, 0)) ∧ Below w1.heap.size w1 wr) (fun i _ => 10 - (intOf i).toNat)
  case atStart => exact ⟨0, catC, Nat.zero_le _, rfl, HD14.out, fun j _ => rfl, HC15.out, HB9.out⟩
  case round =>
    obtain ⟨k, cs, hk, rfl, h14, hcs, h15, hbel⟩ := hrel
    have HBL := hidD hbel
    clear hbel HD14 HC15 HB9
    by_cases hlt : k < 10
    · have hlti : (k : Int) < 10 := by omega
      have HM4 := hidD (cat_from h14 hcs hlt)
      have HM5 := hidD (cat_in h15 k hlt)
      have HSK := hidD (fun w => HSM.out (catL.getD k md0) w)
      have H14r := hidD h14
      have H15r := hidD h15
      have HCS := hidD hcs
      have HL4 := hidD (row_lt h14)
      have HL5 := hidD (row_lt h15)
      clear h14 h15 hcs HSF H17 H18 H18c HSM
      generalize catL.getD k md0 = CM at *
      obtain ⟨nm2, ww2, P2, I2, inn2, out2, X2⟩ := CM
      simp only [Md.v] at HSK
      have m4 : ∀ i : BW wr, MdIn i.v g14 (k * 7) ⟨nm2, ww2, P2, I2, inn2, out2, X2⟩ := fun i => HM4.out.below i.below HL4.out
      have m5 : ∀ i : BW wr, MdIn i.v g15 (k * 7) ⟨nm2, ww2, P2, I2, inn2, out2, X2⟩ := fun i => HM5.out.below i.below HL5.out
      have k0 := fun i => (m4 i).c0
      have k1 := fun i => (m4 i).c1
      have k2 := fun i => (m4 i).c2
      have k3 := fun i => (m4 i).c3
      have k4 := fun i => (m4 i).c4
      have k5 := fun i => (m4 i).c5
      have k6 := fun i => (m4 i).c6
      have l0 := fun i => (m5 i).c0
      have l1 := fun i => (m5 i).c1
      have l2 := fun i => (m5 i).c2
      have l3 := fun i => (m5 i).c3
      have l4 := fun i => (m5 i).c4
      have l5 := fun i => (m5 i).c5
      have l6 := fun i => (m5 i).c6
      simp only at k0 k1 k2 k3 k4 k5 k6 l0 l1 l2 l3 l4 l5 l6
      clear m4 m5
      go_wp2_with fail
      refine wp_region_below (by kernel_rfl) (by kernel_rfl) ?_
      repeat (go_big_quiet_step ((go_at_call 16; exact Calls.below_of (HSK.out _))))
      refine wpQuiet_nil ?_
      intro i7
      have hca := k2 i7
      have H14i := hidD ((i7.below.block _ HL4.out).trans H14r.out)
      have hfr : i7.v.frozen? ⟨g14, k * 7 + 2, none⟩ = false := frozen_of_row _ _ _ _ _ H14i.out
      have HN4 := hidD (heap_setCell_same i7.v g14 (k * 7 + 2) _ _ (.int .u64 0) H14i.out)
      have HN5 := hidD ((heap_setCell_other i7.v ⟨g14, k * 7 + 2, none⟩ g15 (.int .u64 0) (fun h => HNE.out h.symm)).trans ((i7.below.block _ HL5.out).trans H15r.out))
      clear k0 k1 k2 k3 k4 k5 k6 l0 l1 l2 l3 l4 l5 l6
      go_wp2_with fail
      go_roundw
      case rel => exact ⟨k + 1, cs.setIfInBounds (k * 7 + 2) (.int .u64 0), by omega, by go_num, HN4.out, fun j hj => by rw [Array.getElem?_setIfInBounds_ne (by omega)]; exact HCS.out j (by omega), HN5.out, (Below.next HBL.out i7.below).setCell (p := ⟨g14, k * 7 + 2, none⟩) HG14.out _⟩
      case measure => simp [intOf]; omega
    · obtain rfl : k = 10 := by omega
      clear h14 h15 hcs HNE HG14 HSM
      go_wp2_with (first
        | (go_at_call 17; refine (H17.out _).mono ?_; rintro e w10 ⟨rfl, hb10⟩; have HB10 := hidD (Below.next HBL.out hb10); clear hb10 H17 HBL)
        | (go_at_call 18; refine (H18.out _).mono ?_; rintro e w11 ⟨rfl, hb11⟩; have HX11 := hidD ((MdAt.new ⟨nm, ww, P, I, inn, out, X⟩ w10 35).below hb11 (by simp)); have HB11 := hidD (Below.next (Below.more HB10.out _) hb11); have HL11 := hidD (Nat.lt_of_lt_of_le (show w10.heap.size < (w10.alloc (.cells (Md.cells ⟨nm, ww, P, I, inn, out, X⟩) 35)).heap.size by simp) hb11.size); clear hb11 H18 HB10)
        | (go_at_call 18; refine (H18c.out _).mono ?_; rintro e w12 ⟨rfl, hb12⟩; have HX12 := hidD ((HX11.out.below ((Below.refl w11.heap.size w11).alloc (Nat.le_refl _) (.cells (Md.cells ⟨nm, ww, P, I, inn, out, X⟩) 36)) HL11.out).below hb12 (Nat.lt_of_lt_of_le HL11.out (by simp))); have HY12 := hidD ((MdAt.new ⟨nm, ww, P, I, inn, out, X⟩ w11 36).below hb12 (by simp)); have HB12 := hidD (Below.next (Below.more HB11.out _) hb12); have HL12 := hidD (Nat.lt_of_lt_of_le (show w11.heap.size < (w11.alloc (.cells (Md.cells ⟨nm, ww, P, I, inn, out, X⟩) 36)).heap.size by simp) hb12.size); clear hb12 H18c HX11 HB11)
        | (go_at_call 19; refine (H19.out _ _ (HBY.out.below (Below.next HB1.out (Below.more HB12.out _)) (Nat.le_refl _))).mono ?_; rintro e w13 ⟨rfl, hb13⟩; have HB13 := hidD (Below.next (Below.more HB12.out _) hb13); have hb14 := ((Below.refl w12.heap.size w12).alloc (Nat.le_refl _) _).trans (hb13.mono (by simp)); obtain ⟨k0, k1, k2, k3, k4, k5, k6⟩ := HX12.out.below hb14 (Nat.lt_trans HL11.out HL12.out); obtain ⟨l0, l1, l2, l3, l4, l5, l6⟩ := HY12.out.below hb14 HL12.out; simp only at k0 k1 k2 k3 k4 k5 k6 l0 l1 l2 l3 l4 l5 l6; clear hb13 hb14 H19 HX12 HY12 HB12 HL11 HL12)
        | (go_at_call 16; refine (HSF.out _).mono ?_; rintro e w14 ⟨rfl, hb14⟩; have HB14 := hidD (Below.next HB13.out hb14); clear hb14 HSF HB13 k0 k1 k2 k3 k4 k5 k6 l0 l1 l2 l3 l4 l5 l6)
        | (go_at_call 10; refine (H10b.out _).mono ?_; rintro e w15 ⟨g1, rfl, hg1, hc1, hb15⟩; have HN15 := hidD (NsAt.fill hc1); have HB15 := hidD (Below.next HB14.out hb15); clear hg1 hc1 hb15 H10b)
        | (go_at_call 12; refine (HS3.out _ _ _ HN15.out (HN9.out.below HB15.out)).mono ?_; rintro e w16 ⟨rfl, hb16⟩; have HB16 := hidD (Below.next HB15.out hb16); clear hb16 HS3 HN15)
        | (go_at_call 11; refine (H11b.out _).mono ?_; rintro e w17 ⟨g2, rfl, hg2, hc2, hb17⟩; have HN17 := hidD (NsAt.fill hc2); have HB17 := hidD (Below.next HB16.out hb17); clear hg2 hc2 hb17 H11b)
        | (go_at_call 12; refine (HS4.out _ _ _ HN17.out (HN9.out.below HB17.out)).mono ?_; rintro e w18 ⟨rfl, hb18⟩; have HB18 := hidD (Below.next HB17.out hb18); clear hb18 HS4 HN17)
        | (go_at_call 21; refine (H21.out _ _ (HBY.out.below (Below.next HB1.out HB18.out) (Nat.le_refl _))).mono ?_; rintro e w19 ⟨v19, rfl, hown19, hb19⟩; have HY19 := hidD (row_by hown19); have HB19 := hidD (Below.next HB18.out hb19); clear hown19 hb19 H21)
        | (go_at_call 20; refine (H20.out _ _ HY19.out).mono ?_; rintro e w20 ⟨rfl, hb20⟩; have HB20 := hidD (Below.next HB19.out hb20); clear hb20 H20))
      go_ret
      exact ⟨rfl, Below.next HB1.out HB20.out⟩

set_option maxRecDepth 100000 in
set_option maxHeartbeats 1600000 in
theorem tableLaw_high (name : ByteArray) (bs : List UInt8) (hl : bs.length ≤ 140737488355328) (z : Int) (hz : 256 ≤ z) (v : Nat) (sl : Value) (w : World) (hs : ByAt w sl bs) : Calls Try.prog 3 #[.string name, sl, .int .i64 z, .int .u32 (v : Int)] w fun e w' => e = .returned (.bool true) ∧ Below w.heap.size w w' := by
  have hz1 : decide (0 ≤ z) = true := by simp; omega
  have hz2 : 0 ≤ z := by omega
  have hz3 : decide (z < 256) = false := by simp; omega
  have hz4 : ¬ (z < 256) := by omega
  have HBY := hidD hs
  have H9 := hidD refWords_any
  have H10 := hidD words_any
  have H10b := hidD words_any
  have H11 := hidD rule_any
  have H11b := hidD rule_any
  have H13 := hidD live_any
  have H14 := hidD catalogue_any
  have H15 := hidD refCatalogue_any
  have HS1 := hidD (fun s1 s2 w h1 h2 => sameWords_same 256 t32 (by omega) s1 s2 w h1 h2)
  have HS2 := hidD (fun s1 s2 w h1 h2 => sameWords_same 256 t32 (by omega) s1 s2 w h1 h2)
  have HS3 := hidD (fun s1 s2 w h1 h2 => sameWords_same 256 t32 (by omega) s1 s2 w h1 h2)
  have HS4 := hidD (fun s1 s2 w h1 h2 => sameWords_same 256 t32 (by omega) s1 s2 w h1 h2)
  have H17 := hidD (fun w => find_any name w)
  have H18 := hidD (fun w => refFind_any name w)
  have H18c := hidD (fun w => refFind_any ⟨#[67, 82, 67, 45, 51, 50, 47, 73, 83, 79, 45, 72, 68, 76, 67]⟩ w)
  rw [find_32] at H18c
  have H19 := hidD (fun sl w hs => refSum_some m32 m32_ok bs (by omega) sl w hs)
  have H20 := hidD (fun sl w hs => sum32_any bs (by omega) sl w hs)
  have H21 := hidD (fun sl w hs => own_any bs hl sl w hs)
  have HSM := hidD sameModel_same
  have hS : sumS m32 bs < 4294967296 := by rw [← reg32_end]; exact xor_lt (w := 32) (reg32_lt _ _) (by decide)
  have hw64 : IntKind.u64.wrap (sumS m32 bs : Int) = (sumS m32 bs : Int) := by rw [IntKind.wrap_u64]; omega
  have hw65 : (sumS m32 bs : Int) % 18446744073709551616 = (sumS m32 bs : Int) := by omega
  clear hs hS
  generalize sumS m32 bs = S at *
  simp only [m32, catL, Md.v, List.getD_cons_succ, List.getD_cons_zero] at H18c H19
  generalize findS name = F at *
  obtain ⟨FM, fb⟩ := F
  have HSF := hidD (fun w => sameModel_same FM w)
  obtain ⟨nm, ww, P, I, inn, out, X⟩ := FM
  simp only [Md.v] at H17 H18 HSF
  go_enter Try.func3, Try.ntmps3
  go_wp2_with (first
    | (go_at_call 9; refine (H9.out _).mono ?_; rintro e w1 ⟨v9, rfl, hown9, hb1⟩; have HN9 := hidD (NsAt.row hown9); have HB1 := hidD hb1; clear hown9 hb1)
    | (go_at_call 10; refine (H10.out _).mono ?_; rintro e w2 ⟨g10, rfl, hg10, hc10, hb2⟩; have HG10 := hidD hg10; have HC10 := hidD hc10; have HB2 := hidD hb2; clear hg10 hc10 hb2 H10)
    | (go_at_call 11; refine (H11.out _).mono ?_; rintro e w3 ⟨g11, rfl, hg11, hc11, hb3⟩; have HG11 := hidD hg11; have HC11 := hidD hc11; have HB3 := hidD (Below.next HB2.out hb3); have HD10 := hidD ((hb3.block _ (row_lt HC10.out)).trans HC10.out); have HE10 := hidD (row_lt HC10.out); clear hg11 hc11 hb3 H11 HC10)
    | (go_at_call 12; refine (HS1.out _ _ _ (NsAt.fill HD10.out) (HN9.out.below HB3.out)).mono ?_; rintro e w4 ⟨rfl, hb4⟩; have HB4 := hidD (Below.next HB3.out hb4); have HR4 := hidD hb4; clear HS1 hb4)
    | (go_at_call 12; refine (HS2.out _ _ _ ((NsAt.fill HC11.out).below HR4.out) (HN9.out.below HB4.out)).mono ?_; rintro e w5 ⟨rfl, hb5⟩; have HB5 := hidD (Below.next HB4.out hb5); have HR5 := hidD (Below.next HR4.out hb5); clear HS2 hb5 HR4)
    | (go_at_call 13; refine (H13.out _).mono ?_; rintro e w6 ⟨rfl, hb6⟩; have HB6 := hidD (Below.next HB5.out hb6); have HR6 := hidD (Below.next HR5.out hb6); clear hb6 H13 HR5; have HP7 := hidD HB6.out)
    | (go_at_call 14; refine (H14.out _).mono ?_; rintro e w8 ⟨g14, rfl, hg14, hc14, hb8⟩; have HC14 := hidD hc14; have HB8 := hidD (Below.next HP7.out hb8); have HG14 := hidD (Nat.le_trans HP7.out.size hg14); clear hg14 hc14 hb8 H14)
    | (go_at_call 15; refine (H15.out _).mono ?_; rintro e w9 ⟨g15, rfl, hg15, hc15, hb9⟩; have HC15 := hidD hc15; have HB9 := hidD (Below.next HB8.out hb9); have HD14 := hidD ((hb9.block _ (row_lt HC14.out)).trans HC14.out); have HNE := hidD (Nat.ne_of_lt (Nat.lt_of_lt_of_le (row_lt HC14.out) hg15)); clear hg15 hc15 hb9 H15 HC14))
  clear HR6 HB8 HB6 HB5 HB4 HB3 HB2 HD10 HC11 HP7 HG10 HG11 HE10
  clear hz1 hz2 hz3 hz4
  go_loopw [14] (fun i wr => ∃ (k : Nat) (cs : Array Value), k ≤ 10 ∧ i = .int .i64 k ∧ wr.heap[g14]? = some (.cells cs (35 : TypeId) (0, 0)) ∧ (∀ j, 7 * k ≤ j → cs[j]? = catC[j]?) ∧ wr.heap[g15]? = some (.cells catC (36 : TypeId) (0, 0)) ∧ Below w1.heap.size w1 wr) (fun i _ => 10 - (intOf i).toNat)
  case atStart => exact ⟨0, catC, Nat.zero_le _, rfl, HD14.out, fun j _ => rfl, HC15.out, HB9.out⟩
  case round =>
    obtain ⟨k, cs, hk, rfl, h14, hcs, h15, hbel⟩ := hrel
    have HBL := hidD hbel
    clear hbel HD14 HC15 HB9
    by_cases hlt : k < 10
    · have hlti : (k : Int) < 10 := by omega
      have HM4 := hidD (cat_from h14 hcs hlt)
      have HM5 := hidD (cat_in h15 k hlt)
      have HSK := hidD (fun w => HSM.out (catL.getD k md0) w)
      have H14r := hidD h14
      have H15r := hidD h15
      have HCS := hidD hcs
      have HL4 := hidD (row_lt h14)
      have HL5 := hidD (row_lt h15)
      clear h14 h15 hcs HSF H17 H18 H18c HSM
      generalize catL.getD k md0 = CM at *
      obtain ⟨nm2, ww2, P2, I2, inn2, out2, X2⟩ := CM
      simp only [Md.v] at HSK
      have m4 : ∀ i : BW wr, MdIn i.v g14 (k * 7) ⟨nm2, ww2, P2, I2, inn2, out2, X2⟩ := fun i => HM4.out.below i.below HL4.out
      have m5 : ∀ i : BW wr, MdIn i.v g15 (k * 7) ⟨nm2, ww2, P2, I2, inn2, out2, X2⟩ := fun i => HM5.out.below i.below HL5.out
      have k0 := fun i => (m4 i).c0
      have k1 := fun i => (m4 i).c1
      have k2 := fun i => (m4 i).c2
      have k3 := fun i => (m4 i).c3
      have k4 := fun i => (m4 i).c4
      have k5 := fun i => (m4 i).c5
      have k6 := fun i => (m4 i).c6
      have l0 := fun i => (m5 i).c0
      have l1 := fun i => (m5 i).c1
      have l2 := fun i => (m5 i).c2
      have l3 := fun i => (m5 i).c3
      have l4 := fun i => (m5 i).c4
      have l5 := fun i => (m5 i).c5
      have l6 := fun i => (m5 i).c6
      simp only at k0 k1 k2 k3 k4 k5 k6 l0 l1 l2 l3 l4 l5 l6
      clear m4 m5
      go_wp2_with fail
      refine wp_region_below (by kernel_rfl) (by kernel_rfl) ?_
      repeat (go_big_quiet_step ((go_at_call 16; exact Calls.below_of (HSK.out _))))
      refine wpQuiet_nil ?_
      intro i7
      have hca := k2 i7
      have H14i := hidD ((i7.below.block _ HL4.out).trans H14r.out)
      have hfr : i7.v.frozen? ⟨g14, k * 7 + 2, none⟩ = false := frozen_of_row _ _ _ _ _ H14i.out
      have HN4 := hidD (heap_setCell_same i7.v g14 (k * 7 + 2) _ _ (.int .u64 0) H14i.out)
      have HN5 := hidD ((heap_setCell_other i7.v ⟨g14, k * 7 + 2, none⟩ g15 (.int .u64 0) (fun h => HNE.out h.symm)).trans ((i7.below.block _ HL5.out).trans H15r.out))
      clear k0 k1 k2 k3 k4 k5 k6 l0 l1 l2 l3 l4 l5 l6
      go_wp2_with fail
      go_roundw
      case rel => exact ⟨k + 1, cs.setIfInBounds (k * 7 + 2) (.int .u64 0), by omega, by go_num, HN4.out, fun j hj => by rw [Array.getElem?_setIfInBounds_ne (by omega)]; exact HCS.out j (by omega), HN5.out, (Below.next HBL.out i7.below).setCell (p := ⟨g14, k * 7 + 2, none⟩) HG14.out _⟩
      case measure => simp [intOf]; omega
    · obtain rfl : k = 10 := by omega
      clear h14 h15 hcs HNE HG14 HSM
      go_wp2_with (first
        | (go_at_call 17; refine (H17.out _).mono ?_; rintro e w10 ⟨rfl, hb10⟩; have HB10 := hidD (Below.next HBL.out hb10); clear hb10 H17 HBL)
        | (go_at_call 18; refine (H18.out _).mono ?_; rintro e w11 ⟨rfl, hb11⟩; have HX11 := hidD ((MdAt.new ⟨nm, ww, P, I, inn, out, X⟩ w10 35).below hb11 (by simp)); have HB11 := hidD (Below.next (Below.more HB10.out _) hb11); have HL11 := hidD (Nat.lt_of_lt_of_le (show w10.heap.size < (w10.alloc (.cells (Md.cells ⟨nm, ww, P, I, inn, out, X⟩) 35)).heap.size by simp) hb11.size); clear hb11 H18 HB10)
        | (go_at_call 18; refine (H18c.out _).mono ?_; rintro e w12 ⟨rfl, hb12⟩; have HX12 := hidD ((HX11.out.below ((Below.refl w11.heap.size w11).alloc (Nat.le_refl _) (.cells (Md.cells ⟨nm, ww, P, I, inn, out, X⟩) 36)) HL11.out).below hb12 (Nat.lt_of_lt_of_le HL11.out (by simp))); have HY12 := hidD ((MdAt.new ⟨nm, ww, P, I, inn, out, X⟩ w11 36).below hb12 (by simp)); have HB12 := hidD (Below.next (Below.more HB11.out _) hb12); have HL12 := hidD (Nat.lt_of_lt_of_le (show w11.heap.size < (w11.alloc (.cells (Md.cells ⟨nm, ww, P, I, inn, out, X⟩) 36)).heap.size by simp) hb12.size); clear hb12 H18c HX11 HB11)
        | (go_at_call 19; refine (H19.out _ _ (HBY.out.below (Below.next HB1.out (Below.more HB12.out _)) (Nat.le_refl _))).mono ?_; rintro e w13 ⟨rfl, hb13⟩; have HB13 := hidD (Below.next (Below.more HB12.out _) hb13); have hb14 := ((Below.refl w12.heap.size w12).alloc (Nat.le_refl _) _).trans (hb13.mono (by simp)); obtain ⟨k0, k1, k2, k3, k4, k5, k6⟩ := HX12.out.below hb14 (Nat.lt_trans HL11.out HL12.out); obtain ⟨l0, l1, l2, l3, l4, l5, l6⟩ := HY12.out.below hb14 HL12.out; simp only at k0 k1 k2 k3 k4 k5 k6 l0 l1 l2 l3 l4 l5 l6; clear hb13 hb14 H19 HX12 HY12 HB12 HL11 HL12)
        | (go_at_call 16; refine (HSF.out _).mono ?_; rintro e w14 ⟨rfl, hb14⟩; have HB14 := hidD (Below.next HB13.out hb14); clear hb14 HSF HB13 k0 k1 k2 k3 k4 k5 k6 l0 l1 l2 l3 l4 l5 l6)
        | (go_at_call 10; refine (H10b.out _).mono ?_; rintro e w15 ⟨g1, rfl, hg1, hc1, hb15⟩; have HN15 := hidD (NsAt.fill hc1); have HB15 := hidD (Below.next HB14.out hb15); clear hg1 hc1 hb15 H10b)
        | (go_at_call 12; refine (HS3.out _ _ _ HN15.out (HN9.out.below HB15.out)).mono ?_; rintro e w16 ⟨rfl, hb16⟩; have HB16 := hidD (Below.next HB15.out hb16); clear hb16 HS3 HN15)
        | (go_at_call 11; refine (H11b.out _).mono ?_; rintro e w17 ⟨g2, rfl, hg2, hc2, hb17⟩; have HN17 := hidD (NsAt.fill hc2); have HB17 := hidD (Below.next HB16.out hb17); clear hg2 hc2 hb17 H11b)
        | (go_at_call 12; refine (HS4.out _ _ _ HN17.out (HN9.out.below HB17.out)).mono ?_; rintro e w18 ⟨rfl, hb18⟩; have HB18 := hidD (Below.next HB17.out hb18); clear hb18 HS4 HN17)
        | (go_at_call 21; refine (H21.out _ _ (HBY.out.below (Below.next HB1.out HB18.out) (Nat.le_refl _))).mono ?_; rintro e w19 ⟨v19, rfl, hown19, hb19⟩; have HY19 := hidD (row_by hown19); have HB19 := hidD (Below.next HB18.out hb19); clear hown19 hb19 H21)
        | (go_at_call 20; refine (H20.out _ _ HY19.out).mono ?_; rintro e w20 ⟨rfl, hb20⟩; have HB20 := hidD (Below.next HB19.out hb20); clear hb20 H20))
      go_ret
      exact ⟨rfl, Below.next HB1.out HB20.out⟩

theorem tableLaw_any (name : ByteArray) (bs : List UInt8) (hl : bs.length ≤ 140737488355328) (z : Int) (v : Nat) (sl : Value) (w : World) (hs : ByAt w sl bs) : Calls Try.prog 3 #[.string name, sl, .int .i64 z, .int .u32 (v : Int)] w fun e w' => e = .returned (.bool true) ∧ Below w.heap.size w w' := by
  by_cases h0 : z < 0
  · exact tableLaw_low name bs hl z h0 v sl w hs
  · by_cases h1 : 256 ≤ z
    · exact tableLaw_high name bs hl z h1 v sl w hs
    · obtain ⟨i, rfl⟩ : ∃ i : Nat, z = i := ⟨z.toNat, by omega⟩
      exact tableLaw_in name bs hl i (by omega) v sl w hs
end Go.Proofs.Ytjhaaphgaplhlaa
