/- What the program's eachColumn answers. -/
import Derived.Test.YtgefampdfhbmbaaMk
namespace Go.Proofs.Ytgefampdfhbmbaa
open Go.RowKit
set_option linter.unusedVariables false

set_option maxRecDepth 100000 in
set_option maxHeartbeats 1600000 in
theorem pEachMix_any (s : Nat → UInt8) (w : World) : Calls Try.prog 69 #[.agg (bR s), .func (.func 70) #[] #[]] w fun e w' => e = .returned (.agg (bR (mcB mixM s))) ∧ Below w.heap.size w w' := by
  have HM := hidD (fun c w => pMix_any c w)
  have hi5 := Try.size5
  obtain ⟨hz, hsz⟩ := zero_of_info Try.zero59
  obtain ⟨hz4, hsz4⟩ := zero_of_info Try.zero64'
  have HSZ4 := hidD hsz4
  clear hsz4
  obtain ⟨b1, b2, b3, b4⟩ := two_blocks w (bR s) (rowZ .u8 16 (fun _ => 0)) 59
  have W1 := hidD b1
  have W2 := hidD b2
  have W3 := hidD b3
  clear b1 b2 b3 b4
  go_enter Try.func69, Try.ntmps69
  go_wp2_with fail
  generalize hW : World.alloc _ (Obj.cells (rowZ .u8 16 (fun _ => 0)) (59 : TypeId)) = W
  have V1 : Hid (RowZ W w.heap.size .u8 16 59 (fun i => ((s i).toNat : Int))) := by rw [← hW]; exact W1.out
  have V2 : Hid (RowZ W (w.heap.size + 1) .u8 16 59 (fun _ => 0)) := by rw [← hW]; exact W2.out
  have V4 : Hid (Below w.heap.size w W) := by rw [← hW]; exact W3.out
  clear hW W1 W2 W3
  generalize hg : w.heap.size = g at *
  have HG := hidD hg
  clear hg
  go_loopw [5] (fun v wr => ∃ i : Nat, i ≤ 4 ∧ v = .int .i64 ((4 * i : Nat) : Int) ∧ RowZ wr g .u8 16 59 (fun j => ((if j < 4 * i then mcB mixM s j else s j : UInt8).toNat : Int)) ∧ RowZ wr (g + 1) .u8 16 59 (fun _ => 0) ∧ Below g W wr) (fun v _ => 16 - (intOf v).toNat)
  case atStart => exact ⟨0, Nat.zero_le _, rfl, V1.out, V2.out, Below.refl _ _⟩
  case round =>
    obtain ⟨i, hi, rfl, hrow, hout, hbel⟩ := hrel
    by_cases hlt : i < 4
    · have e1 : IntKind.i64.wrap (((4 * i : Nat) : Int) + 1) = ((4 * i + 1 : Nat) : Int) := by rw [IntKind.wrap_i64]; omega
      have e2 : IntKind.i64.wrap (((4 * i : Nat) : Int) + 2) = ((4 * i + 2 : Nat) : Int) := by rw [IntKind.wrap_i64]; omega
      have e3 : IntKind.i64.wrap (((4 * i : Nat) : Int) + 3) = ((4 * i + 3 : Nat) : Int) := by rw [IntKind.wrap_i64]; omega
      have l0 : ((4 * i : Nat) : Int) < 16 := by omega
      have l1 : ((4 * i + 1 : Nat) : Int) < 16 := by omega
      have l2 : ((4 * i + 2 : Nat) : Int) < 16 := by omega
      have l3 : ((4 * i + 3 : Nat) : Int) < 16 := by omega
      have cc : ∀ (q : KB wr [g]) t, t < 4 → q.v.cell? ⟨g, 4 * i + t, none⟩ = some (.int .u8 ((s (4 * i + t)).toNat : Int)) := fun q t ht => by
        rw [q.cell (by simp)]
        have := hrow.cell (k := 4 * i + t) (by omega)
        rw [if_neg (by omega)] at this; exact this
      have c0 : ∀ q : KB wr [g], q.v.cell? ⟨g, 4 * i, none⟩ = some (.int .u8 ((s (4 * i)).toNat : Int)) := fun q => cc q 0 (by omega)
      have c1 := fun q => cc q 1 (by omega)
      have c2 := fun q => cc q 2 (by omega)
      have c3 := fun q => cc q 3 (by omega)
      have HMC := hidD (fun w => HM.out (fun t => s (4 * i + t)) w)
      rw [show colR (fun t => s (4 * i + t)) = #[.int .u8 ((s (4 * i)).toNat : Int), .int .u8 ((s (4 * i + 1)).toNat : Int), .int .u8 ((s (4 * i + 2)).toNat : Int), .int .u8 ((s (4 * i + 3)).toNat : Int)] from rfl] at HMC
      have HONE : Hid ((colR (mixS (fun t => s (4 * i + t)) mixM)).all (·.oneCell') = true) := rowZ_one _ _ _
      have h4 : (colR (mixS (fun t => s (4 * i + t)) mixM)).size = 4 := rowZ_size _ _ _
      have HCR : Hid (∀ t, t < 4 → (colR (mixS (fun t => s (4 * i + t)) mixM))[t]? = some (.int .u8 ((mcB mixM s (4 * i + t)).toNat : Int))) := fun t ht => by
        show (rowZ .u8 4 _)[t]? = _
        rw [rowZ_get .u8 4 _ t ht]
        unfold mcB
        rw [show (4 * i + t) / 4 = i by omega, show (4 * i + t) % 4 = t by omega]
      generalize colR (mixS (fun t => s (4 * i + t)) mixM) = C at *
      have HI4 : Hid ((Try.prog.info? 64).map (·.size) = some C.size) := by show _ = _; rw [HSZ4.out, h4]
      have H4 := hidD h4
      have HGL : Hid (g < wr.heap.size) := hrow.lt
      have HKB : Hid (∀ w', Below wr.heap.size wr w' → ∃ q : KB wr [g], w' = q.v) := fun w' hb => ⟨⟨w', fun x hx => by
        obtain rfl : x = g := by simpa using hx
        exact hb.block _ hrow.lt⟩, rfl⟩
      have HRN : Hid (RowZ wr g .u8 16 59 (fun j => ((if j < 4 * i then mcB mixM s j else s j : UInt8).toNat : Int))) := hrow
      have HON : Hid (RowZ wr (g + 1) .u8 16 59 (fun _ => 0)) := hout
      have HBN : Hid (Below g W wr) := hbel
      clear cc hrow hout hbel h4
      generalize ((s (4 * i)).toNat : Int) = s0 at *
      generalize ((s (4 * i + 1)).toNat : Int) = s1 at *
      generalize ((s (4 * i + 2)).toNat : Int) = s2 at *
      generalize ((s (4 * i + 3)).toNat : Int) = s3 at *
      generalize h43 : 4 * i + 3 = i3 at *
      generalize h42 : 4 * i + 2 = i2 at *
      generalize h41 : 4 * i + 1 = i1 at *
      generalize h40 : 4 * i = i00 at *
      have H40 := hidD h40
      have hi12 : i00 ≤ 12 := by omega
      have hsl := fun w => run_slice59' g i00 (by omega) w
      clear h43 h42 h41 h40
      go_wp2_with fail
      refine wp_region_free [true, true, true, true, true, true, true, true, true, true, true, true, true, true, true, true, true, false, false] 3 [g] (by simp) (by kernel_rfl) rfl rfl (by kernel_rfl) (by kernel_rfl) (by kernel_rfl) (by kernel_rfl) (by kernel_rfl) (by kernel_rfl) (fun _ _ _ _ _ h => h) ?_
      simp only [List.dropLast_cons_cons, List.dropLast_singleton, List.getLast_cons_cons, List.getLast_singleton, List.cons_append, List.nil_append, mute, qPick]
      repeat (go_big_quiet_step (fail))
      refine wpQuiet_nil ?_
      clear c0 c1 c2 c3 e1 e2 e3 l1 l2 l3
      have HAL : Hid (∀ v : World, Below v.heap.size v (v.alloc (.cells #[.int .u8 0, .int .u8 0, .int .u8 0, .int .u8 0] (64 : TypeId)))) := fun v => (Below.refl _ _).alloc (Nat.le_refl _) _
      have HNW : Hid (∀ v : World, (v.alloc (.cells #[.int .u8 0, .int .u8 0, .int .u8 0, .int .u8 0] (64 : TypeId))).heap[v.heap.size]? = some (.cells #[.int .u8 0, .int .u8 0, .int .u8 0, .int .u8 0] (64 : TypeId) (0, 0))) := fun v => heap_alloc_last _ _
      have HSA : Hid (∀ v : World, v.heap.size < (v.alloc (.cells #[.int .u8 0, .int .u8 0, .int .u8 0, .int .u8 0] (64 : TypeId))).heap.size) := fun v => by simp
      have HDR : Hid (Below wr.heap.size wr wr.drew) := (Below.refl _ _).drew
      -- what both orders come to
      have HFIN : Hid (∃ R : World → Nat → Prop, ∀ w4 gm, R w4 gm ↔ (w4.heap[gm]? = some (.cells #[.int .u8 0, .int .u8 0, .int .u8 0, .int .u8 0] (64 : TypeId) (0, 0)) ∧ Below wr.heap.size wr w4 ∧ wr.heap.size ≤ gm)) := ⟨fun w4 gm => _, fun _ _ => Iff.rfl⟩
      obtain ⟨R, hR⟩ := HFIN.out
      have HR := hidD hR
      clear hR HFIN
      refine any_step [17, 18] rfl (by kernel_rfl) (by simp) (all_two ⟨_, rfl, ?callFirst⟩ ⟨_, rfl, ?allocFirst⟩)
      case callFirst =>
        go_wp2_with (go_at_call 70; refine (HMC.out _).mono ?_; rintro e w3 ⟨rfl, hb3⟩; have HB3 : Hid (Below wr.heap.size wr w3) := HDR.out.trans hb3; clear hb3)
        refine ⟨HKB.out _ HB3.out, ?_⟩
        refine any_step [18] rfl (by kernel_rfl) (by simp) (all_one ⟨_, rfl, ?_⟩)
        go_wp2_with fail
        have hR4 := (HR.out _ _).2 ⟨HNW.out w3, HB3.out.trans ((HAL.out w3).mono HB3.out.size), HB3.out.size⟩
        refine ⟨HKB.out _ (HB3.out.trans ((HAL.out w3).mono HB3.out.size)), ?_⟩
        refine any_last rfl rfl rfl (by kernel_rfl) (HKB.out _ (HB3.out.trans ((HAL.out w3).mono HB3.out.size))) ?_
        revert hR4
        generalize w3.alloc (.cells #[.int .u8 0, .int .u8 0, .int .u8 0, .int .u8 0] (64 : TypeId)) = w4
        generalize w3.heap.size = gm
        intro hR4
        obtain ⟨hnw, hbw, hgm⟩ := (HR.out _ _).1 hR4
        have HNW4 := hidD hnw
        have HR4 := hidD (HRN.out.next hbw)
        have HO4 := hidD (HON.out.next hbw)
        have HBW4 : Hid (Below g W w4) := HBN.out.trans (hbw.mono (Nat.le_of_lt HGL.out))
        have HGM : Hid (g < gm ∧ g + 1 < gm) := ⟨Nat.lt_of_lt_of_le HGL.out hgm, Nat.lt_of_lt_of_le HON.out.lt hgm⟩
        clear hnw hbw hgm hR4 HR HRN HON HBN HMC HM HKB HNW HAL HSA HDR
        go_wp2_with (refine wpList_store_row rfl 64 _ _ rfl gm C rfl rfl 64 #[.int .u8 0, .int .u8 0, .int .u8 0, .int .u8 0] HNW4.out HI4.out (by rw [H4.out]; rfl) HONE.out ?_)
        have HC5 : Hid ((w4.setRow gm C).heap[gm]? = some (.cells C (64 : TypeId) (0, 0))) := setRow_heap _ _ #[.int .u8 0, .int .u8 0, .int .u8 0, .int .u8 0] C (64 : TypeId) (0, 0) HNW4.out
        have HR5 : Hid (RowZ (w4.setRow gm C) g .u8 16 59 (fun j => ((if j < i00 then mcB mixM s j else s j : UInt8).toNat : Int))) := (setRow_other _ _ _ _ (by have := HGM.out.1; omega)).trans HR4.out
        have HO5 : Hid (RowZ (w4.setRow gm C) (g + 1) .u8 16 59 (fun _ => 0)) := (setRow_other _ _ _ _ (by have := HGM.out.2; omega)).trans HO4.out
        have HBW5 : Hid (Below g W (w4.setRow gm C)) := below_setRow HBW4.out (Nat.le_of_lt HGM.out.1) _
        clear HR4 HO4 HBW4 HNW4 HONE
        generalize w4.setRow gm C = w5 at *
        refine wp_region_loud0 [true, true, true, false] [] (by kernel_rfl) (by kernel_rfl) (by kernel_rfl) (by kernel_rfl) (by kernel_rfl) (fun _ _ _ _ _ h => h) ?_
        simp only [qPick, lPick, Act.put]
        repeat (go_big_quiet_step (fail))
        refine wpQuiet_nil ?_
        simp only [LoudW]
        have HDR : Hid (Below w5.heap.size w5 w5.drew) := (Below.refl _ _).drew
        go_wp2_with (refine wpList_copy_Z rfl _ _ 22 22 rfl 5 Try.underlying22 hi5 (some ⟨g, i00, none⟩) (some ⟨gm, 0, none⟩) (16 - i00) (16 - i00) 4 4 rfl rfl .u8 g i00 16 4 (fun j => ((if j < i00 then mcB mixM s j else s j : UInt8).toNat : Int)) (fun t => ((mcB mixM s (i00 + t)).toNat : Int)) 59 (HR5.out.next HDR.out) (by show 4 = min 4 (16 - i00); omega) (fun _ => ⟨rfl, gm, 0, rfl, fun j hj => by rw [Nat.zero_add]; show w5.cell? _ = _; rw [cell_of_row _ _ _ _ _ _ HC5.out]; have := HCR.out j hj; exact this⟩) (by omega) ?_; intro w6 hr6 hb6; have HR6 := hidD hr6.out; have HB6 := hidD hb6; clear hr6 hb6)
        refine ⟨⟨⟨w6, fun _ h => by cases h⟩, rfl⟩, ?_⟩
        have HR7 : Hid (RowZ w6 g .u8 16 59 (fun j => ((if j < 4 * (i + 1) then mcB mixM s j else s j : UInt8).toNat : Int))) := HR6.out.congr fun j hj => by
          have := H40.out
          by_cases h1 : i00 ≤ j ∧ j < i00 + 4
          · rw [if_pos h1, if_pos (by omega), show i00 + (j - i00) = j by omega]
          · rw [if_neg h1]
            by_cases h2 : j < i00
            · rw [if_pos h2, if_pos (by omega)]
            · rw [if_neg h2, if_neg (by omega)]
        have HO7 : Hid (RowZ w6 (g + 1) .u8 16 59 (fun _ => 0)) := (HO5.out.next HDR.out).but HB6.out (by omega)
        have HB7 : Hid (Below g W w6) := (HBW5.out.trans (HDR.out.mono (Nat.le_of_lt HR5.out.lt))).trans HB6.out.bel
        clear HR6 HB6 HR5 HO5 HBW5 HC5 HDR
        go_wp2_with fail
        go_roundw
        case rel => exact ⟨i + 1, by omega, by have := H40.out; first | (go_num; done) | (go_num; omega), HR7.out, HO7.out, HB7.out⟩
        case measure => simp [intOf]; omega
      case allocFirst =>
        go_wp2_with fail
        refine ⟨HKB.out _ (HDR.out.trans (HAL.out wr.drew)), ?_⟩
        refine any_step [17] rfl (by kernel_rfl) (by simp) (all_one ⟨_, rfl, ?_⟩)
        go_wp2_with (go_at_call 70; refine (HMC.out _).mono ?_; rintro e w3 ⟨rfl, hb3⟩; have HB3 := hidD hb3; clear hb3)
        have hR4 : R w3 wr.heap.size := (HR.out _ _).2 ⟨(HB3.out.block _ (HSA.out wr.drew)).trans (HNW.out wr.drew), (HDR.out.trans (HAL.out wr.drew)).trans (HB3.out.mono (Nat.le_of_lt (HSA.out wr.drew))), Nat.le_refl _⟩
        refine ⟨HKB.out _ ((HR.out _ _).1 hR4).2.1, ?_⟩
        refine any_last rfl rfl rfl (by kernel_rfl) (HKB.out _ ((HR.out _ _).1 hR4).2.1) ?_
        revert hR4
        generalize wr.heap.size = gm
        intro hR4
        obtain ⟨hnw, hbw, hgm⟩ := (HR.out _ _).1 hR4
        have HNW4 := hidD hnw
        have HR4 := hidD (HRN.out.next hbw)
        have HO4 := hidD (HON.out.next hbw)
        have HBW4 : Hid (Below g W w3) := HBN.out.trans (hbw.mono (Nat.le_of_lt HGL.out))
        have HGM : Hid (g < gm ∧ g + 1 < gm) := ⟨Nat.lt_of_lt_of_le HGL.out hgm, Nat.lt_of_lt_of_le HON.out.lt hgm⟩
        clear hnw hbw hgm hR4 HR HRN HON HBN HMC HM HKB HNW HAL HSA HDR
        go_wp2_with (refine wpList_store_row rfl 64 _ _ rfl gm C rfl rfl 64 #[.int .u8 0, .int .u8 0, .int .u8 0, .int .u8 0] HNW4.out HI4.out (by rw [H4.out]; rfl) HONE.out ?_)
        have HC5 : Hid ((w3.setRow gm C).heap[gm]? = some (.cells C (64 : TypeId) (0, 0))) := setRow_heap _ _ #[.int .u8 0, .int .u8 0, .int .u8 0, .int .u8 0] C (64 : TypeId) (0, 0) HNW4.out
        have HR5 : Hid (RowZ (w3.setRow gm C) g .u8 16 59 (fun j => ((if j < i00 then mcB mixM s j else s j : UInt8).toNat : Int))) := (setRow_other _ _ _ _ (by have := HGM.out.1; omega)).trans HR4.out
        have HO5 : Hid (RowZ (w3.setRow gm C) (g + 1) .u8 16 59 (fun _ => 0)) := (setRow_other _ _ _ _ (by have := HGM.out.2; omega)).trans HO4.out
        have HBW5 : Hid (Below g W (w3.setRow gm C)) := below_setRow HBW4.out (Nat.le_of_lt HGM.out.1) _
        clear HR4 HO4 HBW4 HNW4 HONE
        generalize w3.setRow gm C = w5 at *
        refine wp_region_loud0 [true, true, true, false] [] (by kernel_rfl) (by kernel_rfl) (by kernel_rfl) (by kernel_rfl) (by kernel_rfl) (fun _ _ _ _ _ h => h) ?_
        simp only [qPick, lPick, Act.put]
        repeat (go_big_quiet_step (fail))
        refine wpQuiet_nil ?_
        simp only [LoudW]
        have HDR : Hid (Below w5.heap.size w5 w5.drew) := (Below.refl _ _).drew
        go_wp2_with (refine wpList_copy_Z rfl _ _ 22 22 rfl 5 Try.underlying22 hi5 (some ⟨g, i00, none⟩) (some ⟨gm, 0, none⟩) (16 - i00) (16 - i00) 4 4 rfl rfl .u8 g i00 16 4 (fun j => ((if j < i00 then mcB mixM s j else s j : UInt8).toNat : Int)) (fun t => ((mcB mixM s (i00 + t)).toNat : Int)) 59 (HR5.out.next HDR.out) (by show 4 = min 4 (16 - i00); omega) (fun _ => ⟨rfl, gm, 0, rfl, fun j hj => by rw [Nat.zero_add]; show w5.cell? _ = _; rw [cell_of_row _ _ _ _ _ _ HC5.out]; have := HCR.out j hj; exact this⟩) (by omega) ?_; intro w6 hr6 hb6; have HR6 := hidD hr6.out; have HB6 := hidD hb6; clear hr6 hb6)
        refine ⟨⟨⟨w6, fun _ h => by cases h⟩, rfl⟩, ?_⟩
        have HR7 : Hid (RowZ w6 g .u8 16 59 (fun j => ((if j < 4 * (i + 1) then mcB mixM s j else s j : UInt8).toNat : Int))) := HR6.out.congr fun j hj => by
          have := H40.out
          by_cases h1 : i00 ≤ j ∧ j < i00 + 4
          · rw [if_pos h1, if_pos (by omega), show i00 + (j - i00) = j by omega]
          · rw [if_neg h1]
            by_cases h2 : j < i00
            · rw [if_pos h2, if_pos (by omega)]
            · rw [if_neg h2, if_neg (by omega)]
        have HO7 : Hid (RowZ w6 (g + 1) .u8 16 59 (fun _ => 0)) := (HO5.out.next HDR.out).but HB6.out (by omega)
        have HB7 : Hid (Below g W w6) := (HBW5.out.trans (HDR.out.mono (Nat.le_of_lt HR5.out.lt))).trans HB6.out.bel
        clear HR6 HB6 HR5 HO5 HBW5 HC5 HDR
        go_wp2_with fail
        go_roundw
        case rel => exact ⟨i + 1, by omega, by have := H40.out; first | (go_num; done) | (go_num; omega), HR7.out, HO7.out, HB7.out⟩
        case measure => simp [intOf]; omega
    · obtain rfl : i = 4 := by omega
      have HL : Hid (wr.heap[g]? = some (.cells (bR (mcB mixM s)) (59 : TypeId) (0, 0))) := hrow.congr fun j hj => by rw [if_pos (by omega)]
      have HO : Hid (wr.heap[g + 1]? = some (.cells (rowZ .u8 16 (fun _ => 0)) (59 : TypeId) (0, 0))) := hout
      have HONE : Hid ((bR (mcB mixM s)).all (·.oneCell') = true) := rowZ_one _ _ _
      have h4 : (bR (mcB mixM s)).size = 16 := rowZ_size _ _ _
      have h0 : (rowZ .u8 16 (fun _ => 0)).size = 16 := rowZ_size _ _ _
      have HBG : Hid (Below g w wr) := V4.out.trans hbel
      clear hrow hbel hout
      generalize hC : bR (mcB mixM s) = C at *
      have HCE := hidD hC
      clear hC
      generalize rowZ .u8 16 (fun _ => 0) = C0 at *
      have hi : (Try.prog.info? 59).map (·.size) = some C.size := by rw [hsz, h4]
      go_wp2_with (first | (refine wpList_load_row rfl 59 _ rfl g rfl 59 C (0, 0) _ HL.out Try.underlying59 rfl hi ?_) | (refine wpList_store_row rfl 59 _ _ rfl (g + 1) C rfl rfl 59 C0 HO.out hi (by rw [h0, h4]) HONE.out ?_))
      refine bodyPost_ret (results_cell_row (P := Try.prog) (p := 4) (ty := 59) (by kernel_rfl) _ _ (g + 1) 59 C (0, 0) _ rfl (setRow_heap _ _ C0 C 59 (0, 0) HO.out) Try.underlying59 rfl hi) rfl ?_
      refine ⟨by rw [HCE.out], ?_⟩
      have hfin : Below g w (wr.setRow (g + 1) C) := below_setRow HBG.out (by omega) _
      rw [HG.out]; exact hfin
set_option maxRecDepth 100000 in
set_option maxHeartbeats 1600000 in
theorem pEachUnmix_any (s : Nat → UInt8) (w : World) : Calls Try.prog 69 #[.agg (bR s), .func (.func 77) #[] #[]] w fun e w' => e = .returned (.agg (bR (mcB unmM s))) ∧ Below w.heap.size w w' := by
  have HM := hidD (fun c w => pUnmix_any c w)
  have hi5 := Try.size5
  obtain ⟨hz, hsz⟩ := zero_of_info Try.zero59
  obtain ⟨hz4, hsz4⟩ := zero_of_info Try.zero64'
  have HSZ4 := hidD hsz4
  clear hsz4
  obtain ⟨b1, b2, b3, b4⟩ := two_blocks w (bR s) (rowZ .u8 16 (fun _ => 0)) 59
  have W1 := hidD b1
  have W2 := hidD b2
  have W3 := hidD b3
  clear b1 b2 b3 b4
  go_enter Try.func69, Try.ntmps69
  go_wp2_with fail
  generalize hW : World.alloc _ (Obj.cells (rowZ .u8 16 (fun _ => 0)) (59 : TypeId)) = W
  have V1 : Hid (RowZ W w.heap.size .u8 16 59 (fun i => ((s i).toNat : Int))) := by rw [← hW]; exact W1.out
  have V2 : Hid (RowZ W (w.heap.size + 1) .u8 16 59 (fun _ => 0)) := by rw [← hW]; exact W2.out
  have V4 : Hid (Below w.heap.size w W) := by rw [← hW]; exact W3.out
  clear hW W1 W2 W3
  generalize hg : w.heap.size = g at *
  have HG := hidD hg
  clear hg
  go_loopw [5] (fun v wr => ∃ i : Nat, i ≤ 4 ∧ v = .int .i64 ((4 * i : Nat) : Int) ∧ RowZ wr g .u8 16 59 (fun j => ((if j < 4 * i then mcB unmM s j else s j : UInt8).toNat : Int)) ∧ RowZ wr (g + 1) .u8 16 59 (fun _ => 0) ∧ Below g W wr) (fun v _ => 16 - (intOf v).toNat)
  case atStart => exact ⟨0, Nat.zero_le _, rfl, V1.out, V2.out, Below.refl _ _⟩
  case round =>
    obtain ⟨i, hi, rfl, hrow, hout, hbel⟩ := hrel
    by_cases hlt : i < 4
    · have e1 : IntKind.i64.wrap (((4 * i : Nat) : Int) + 1) = ((4 * i + 1 : Nat) : Int) := by rw [IntKind.wrap_i64]; omega
      have e2 : IntKind.i64.wrap (((4 * i : Nat) : Int) + 2) = ((4 * i + 2 : Nat) : Int) := by rw [IntKind.wrap_i64]; omega
      have e3 : IntKind.i64.wrap (((4 * i : Nat) : Int) + 3) = ((4 * i + 3 : Nat) : Int) := by rw [IntKind.wrap_i64]; omega
      have l0 : ((4 * i : Nat) : Int) < 16 := by omega
      have l1 : ((4 * i + 1 : Nat) : Int) < 16 := by omega
      have l2 : ((4 * i + 2 : Nat) : Int) < 16 := by omega
      have l3 : ((4 * i + 3 : Nat) : Int) < 16 := by omega
      have cc : ∀ (q : KB wr [g]) t, t < 4 → q.v.cell? ⟨g, 4 * i + t, none⟩ = some (.int .u8 ((s (4 * i + t)).toNat : Int)) := fun q t ht => by
        rw [q.cell (by simp)]
        have := hrow.cell (k := 4 * i + t) (by omega)
        rw [if_neg (by omega)] at this; exact this
      have c0 : ∀ q : KB wr [g], q.v.cell? ⟨g, 4 * i, none⟩ = some (.int .u8 ((s (4 * i)).toNat : Int)) := fun q => cc q 0 (by omega)
      have c1 := fun q => cc q 1 (by omega)
      have c2 := fun q => cc q 2 (by omega)
      have c3 := fun q => cc q 3 (by omega)
      have HMC := hidD (fun w => HM.out (fun t => s (4 * i + t)) w)
      rw [show colR (fun t => s (4 * i + t)) = #[.int .u8 ((s (4 * i)).toNat : Int), .int .u8 ((s (4 * i + 1)).toNat : Int), .int .u8 ((s (4 * i + 2)).toNat : Int), .int .u8 ((s (4 * i + 3)).toNat : Int)] from rfl] at HMC
      have HONE : Hid ((colR (mixS (fun t => s (4 * i + t)) unmM)).all (·.oneCell') = true) := rowZ_one _ _ _
      have h4 : (colR (mixS (fun t => s (4 * i + t)) unmM)).size = 4 := rowZ_size _ _ _
      have HCR : Hid (∀ t, t < 4 → (colR (mixS (fun t => s (4 * i + t)) unmM))[t]? = some (.int .u8 ((mcB unmM s (4 * i + t)).toNat : Int))) := fun t ht => by
        show (rowZ .u8 4 _)[t]? = _
        rw [rowZ_get .u8 4 _ t ht]
        unfold mcB
        rw [show (4 * i + t) / 4 = i by omega, show (4 * i + t) % 4 = t by omega]
      generalize colR (mixS (fun t => s (4 * i + t)) unmM) = C at *
      have HI4 : Hid ((Try.prog.info? 64).map (·.size) = some C.size) := by show _ = _; rw [HSZ4.out, h4]
      have H4 := hidD h4
      have HGL : Hid (g < wr.heap.size) := hrow.lt
      have HKB : Hid (∀ w', Below wr.heap.size wr w' → ∃ q : KB wr [g], w' = q.v) := fun w' hb => ⟨⟨w', fun x hx => by
        obtain rfl : x = g := by simpa using hx
        exact hb.block _ hrow.lt⟩, rfl⟩
      have HRN : Hid (RowZ wr g .u8 16 59 (fun j => ((if j < 4 * i then mcB unmM s j else s j : UInt8).toNat : Int))) := hrow
      have HON : Hid (RowZ wr (g + 1) .u8 16 59 (fun _ => 0)) := hout
      have HBN : Hid (Below g W wr) := hbel
      clear cc hrow hout hbel h4
      generalize ((s (4 * i)).toNat : Int) = s0 at *
      generalize ((s (4 * i + 1)).toNat : Int) = s1 at *
      generalize ((s (4 * i + 2)).toNat : Int) = s2 at *
      generalize ((s (4 * i + 3)).toNat : Int) = s3 at *
      generalize h43 : 4 * i + 3 = i3 at *
      generalize h42 : 4 * i + 2 = i2 at *
      generalize h41 : 4 * i + 1 = i1 at *
      generalize h40 : 4 * i = i00 at *
      have H40 := hidD h40
      have hi12 : i00 ≤ 12 := by omega
      have hsl := fun w => run_slice59' g i00 (by omega) w
      clear h43 h42 h41 h40
      go_wp2_with fail
      refine wp_region_free [true, true, true, true, true, true, true, true, true, true, true, true, true, true, true, true, true, false, false] 3 [g] (by simp) (by kernel_rfl) rfl rfl (by kernel_rfl) (by kernel_rfl) (by kernel_rfl) (by kernel_rfl) (by kernel_rfl) (by kernel_rfl) (fun _ _ _ _ _ h => h) ?_
      simp only [List.dropLast_cons_cons, List.dropLast_singleton, List.getLast_cons_cons, List.getLast_singleton, List.cons_append, List.nil_append, mute, qPick]
      repeat (go_big_quiet_step (fail))
      refine wpQuiet_nil ?_
      clear c0 c1 c2 c3 e1 e2 e3 l1 l2 l3
      have HAL : Hid (∀ v : World, Below v.heap.size v (v.alloc (.cells #[.int .u8 0, .int .u8 0, .int .u8 0, .int .u8 0] (64 : TypeId)))) := fun v => (Below.refl _ _).alloc (Nat.le_refl _) _
      have HNW : Hid (∀ v : World, (v.alloc (.cells #[.int .u8 0, .int .u8 0, .int .u8 0, .int .u8 0] (64 : TypeId))).heap[v.heap.size]? = some (.cells #[.int .u8 0, .int .u8 0, .int .u8 0, .int .u8 0] (64 : TypeId) (0, 0))) := fun v => heap_alloc_last _ _
      have HSA : Hid (∀ v : World, v.heap.size < (v.alloc (.cells #[.int .u8 0, .int .u8 0, .int .u8 0, .int .u8 0] (64 : TypeId))).heap.size) := fun v => by simp
      have HDR : Hid (Below wr.heap.size wr wr.drew) := (Below.refl _ _).drew
      -- what both orders come to
      have HFIN : Hid (∃ R : World → Nat → Prop, ∀ w4 gm, R w4 gm ↔ (w4.heap[gm]? = some (.cells #[.int .u8 0, .int .u8 0, .int .u8 0, .int .u8 0] (64 : TypeId) (0, 0)) ∧ Below wr.heap.size wr w4 ∧ wr.heap.size ≤ gm)) := ⟨fun w4 gm => _, fun _ _ => Iff.rfl⟩
      obtain ⟨R, hR⟩ := HFIN.out
      have HR := hidD hR
      clear hR HFIN
      refine any_step [17, 18] rfl (by kernel_rfl) (by simp) (all_two ⟨_, rfl, ?callFirst⟩ ⟨_, rfl, ?allocFirst⟩)
      case callFirst =>
        go_wp2_with (go_at_call 77; refine (HMC.out _).mono ?_; rintro e w3 ⟨rfl, hb3⟩; have HB3 : Hid (Below wr.heap.size wr w3) := HDR.out.trans hb3; clear hb3)
        refine ⟨HKB.out _ HB3.out, ?_⟩
        refine any_step [18] rfl (by kernel_rfl) (by simp) (all_one ⟨_, rfl, ?_⟩)
        go_wp2_with fail
        have hR4 := (HR.out _ _).2 ⟨HNW.out w3, HB3.out.trans ((HAL.out w3).mono HB3.out.size), HB3.out.size⟩
        refine ⟨HKB.out _ (HB3.out.trans ((HAL.out w3).mono HB3.out.size)), ?_⟩
        refine any_last rfl rfl rfl (by kernel_rfl) (HKB.out _ (HB3.out.trans ((HAL.out w3).mono HB3.out.size))) ?_
        revert hR4
        generalize w3.alloc (.cells #[.int .u8 0, .int .u8 0, .int .u8 0, .int .u8 0] (64 : TypeId)) = w4
        generalize w3.heap.size = gm
        intro hR4
        obtain ⟨hnw, hbw, hgm⟩ := (HR.out _ _).1 hR4
        have HNW4 := hidD hnw
        have HR4 := hidD (HRN.out.next hbw)
        have HO4 := hidD (HON.out.next hbw)
        have HBW4 : Hid (Below g W w4) := HBN.out.trans (hbw.mono (Nat.le_of_lt HGL.out))
        have HGM : Hid (g < gm ∧ g + 1 < gm) := ⟨Nat.lt_of_lt_of_le HGL.out hgm, Nat.lt_of_lt_of_le HON.out.lt hgm⟩
        clear hnw hbw hgm hR4 HR HRN HON HBN HMC HM HKB HNW HAL HSA HDR
        go_wp2_with (refine wpList_store_row rfl 64 _ _ rfl gm C rfl rfl 64 #[.int .u8 0, .int .u8 0, .int .u8 0, .int .u8 0] HNW4.out HI4.out (by rw [H4.out]; rfl) HONE.out ?_)
        have HC5 : Hid ((w4.setRow gm C).heap[gm]? = some (.cells C (64 : TypeId) (0, 0))) := setRow_heap _ _ #[.int .u8 0, .int .u8 0, .int .u8 0, .int .u8 0] C (64 : TypeId) (0, 0) HNW4.out
        have HR5 : Hid (RowZ (w4.setRow gm C) g .u8 16 59 (fun j => ((if j < i00 then mcB unmM s j else s j : UInt8).toNat : Int))) := (setRow_other _ _ _ _ (by have := HGM.out.1; omega)).trans HR4.out
        have HO5 : Hid (RowZ (w4.setRow gm C) (g + 1) .u8 16 59 (fun _ => 0)) := (setRow_other _ _ _ _ (by have := HGM.out.2; omega)).trans HO4.out
        have HBW5 : Hid (Below g W (w4.setRow gm C)) := below_setRow HBW4.out (Nat.le_of_lt HGM.out.1) _
        clear HR4 HO4 HBW4 HNW4 HONE
        generalize w4.setRow gm C = w5 at *
        refine wp_region_loud0 [true, true, true, false] [] (by kernel_rfl) (by kernel_rfl) (by kernel_rfl) (by kernel_rfl) (by kernel_rfl) (fun _ _ _ _ _ h => h) ?_
        simp only [qPick, lPick, Act.put]
        repeat (go_big_quiet_step (fail))
        refine wpQuiet_nil ?_
        simp only [LoudW]
        have HDR : Hid (Below w5.heap.size w5 w5.drew) := (Below.refl _ _).drew
        go_wp2_with (refine wpList_copy_Z rfl _ _ 22 22 rfl 5 Try.underlying22 hi5 (some ⟨g, i00, none⟩) (some ⟨gm, 0, none⟩) (16 - i00) (16 - i00) 4 4 rfl rfl .u8 g i00 16 4 (fun j => ((if j < i00 then mcB unmM s j else s j : UInt8).toNat : Int)) (fun t => ((mcB unmM s (i00 + t)).toNat : Int)) 59 (HR5.out.next HDR.out) (by show 4 = min 4 (16 - i00); omega) (fun _ => ⟨rfl, gm, 0, rfl, fun j hj => by rw [Nat.zero_add]; show w5.cell? _ = _; rw [cell_of_row _ _ _ _ _ _ HC5.out]; have := HCR.out j hj; exact this⟩) (by omega) ?_; intro w6 hr6 hb6; have HR6 := hidD hr6.out; have HB6 := hidD hb6; clear hr6 hb6)
        refine ⟨⟨⟨w6, fun _ h => by cases h⟩, rfl⟩, ?_⟩
        have HR7 : Hid (RowZ w6 g .u8 16 59 (fun j => ((if j < 4 * (i + 1) then mcB unmM s j else s j : UInt8).toNat : Int))) := HR6.out.congr fun j hj => by
          have := H40.out
          by_cases h1 : i00 ≤ j ∧ j < i00 + 4
          · rw [if_pos h1, if_pos (by omega), show i00 + (j - i00) = j by omega]
          · rw [if_neg h1]
            by_cases h2 : j < i00
            · rw [if_pos h2, if_pos (by omega)]
            · rw [if_neg h2, if_neg (by omega)]
        have HO7 : Hid (RowZ w6 (g + 1) .u8 16 59 (fun _ => 0)) := (HO5.out.next HDR.out).but HB6.out (by omega)
        have HB7 : Hid (Below g W w6) := (HBW5.out.trans (HDR.out.mono (Nat.le_of_lt HR5.out.lt))).trans HB6.out.bel
        clear HR6 HB6 HR5 HO5 HBW5 HC5 HDR
        go_wp2_with fail
        go_roundw
        case rel => exact ⟨i + 1, by omega, by have := H40.out; first | (go_num; done) | (go_num; omega), HR7.out, HO7.out, HB7.out⟩
        case measure => simp [intOf]; omega
      case allocFirst =>
        go_wp2_with fail
        refine ⟨HKB.out _ (HDR.out.trans (HAL.out wr.drew)), ?_⟩
        refine any_step [17] rfl (by kernel_rfl) (by simp) (all_one ⟨_, rfl, ?_⟩)
        go_wp2_with (go_at_call 77; refine (HMC.out _).mono ?_; rintro e w3 ⟨rfl, hb3⟩; have HB3 := hidD hb3; clear hb3)
        have hR4 : R w3 wr.heap.size := (HR.out _ _).2 ⟨(HB3.out.block _ (HSA.out wr.drew)).trans (HNW.out wr.drew), (HDR.out.trans (HAL.out wr.drew)).trans (HB3.out.mono (Nat.le_of_lt (HSA.out wr.drew))), Nat.le_refl _⟩
        refine ⟨HKB.out _ ((HR.out _ _).1 hR4).2.1, ?_⟩
        refine any_last rfl rfl rfl (by kernel_rfl) (HKB.out _ ((HR.out _ _).1 hR4).2.1) ?_
        revert hR4
        generalize wr.heap.size = gm
        intro hR4
        obtain ⟨hnw, hbw, hgm⟩ := (HR.out _ _).1 hR4
        have HNW4 := hidD hnw
        have HR4 := hidD (HRN.out.next hbw)
        have HO4 := hidD (HON.out.next hbw)
        have HBW4 : Hid (Below g W w3) := HBN.out.trans (hbw.mono (Nat.le_of_lt HGL.out))
        have HGM : Hid (g < gm ∧ g + 1 < gm) := ⟨Nat.lt_of_lt_of_le HGL.out hgm, Nat.lt_of_lt_of_le HON.out.lt hgm⟩
        clear hnw hbw hgm hR4 HR HRN HON HBN HMC HM HKB HNW HAL HSA HDR
        go_wp2_with (refine wpList_store_row rfl 64 _ _ rfl gm C rfl rfl 64 #[.int .u8 0, .int .u8 0, .int .u8 0, .int .u8 0] HNW4.out HI4.out (by rw [H4.out]; rfl) HONE.out ?_)
        have HC5 : Hid ((w3.setRow gm C).heap[gm]? = some (.cells C (64 : TypeId) (0, 0))) := setRow_heap _ _ #[.int .u8 0, .int .u8 0, .int .u8 0, .int .u8 0] C (64 : TypeId) (0, 0) HNW4.out
        have HR5 : Hid (RowZ (w3.setRow gm C) g .u8 16 59 (fun j => ((if j < i00 then mcB unmM s j else s j : UInt8).toNat : Int))) := (setRow_other _ _ _ _ (by have := HGM.out.1; omega)).trans HR4.out
        have HO5 : Hid (RowZ (w3.setRow gm C) (g + 1) .u8 16 59 (fun _ => 0)) := (setRow_other _ _ _ _ (by have := HGM.out.2; omega)).trans HO4.out
        have HBW5 : Hid (Below g W (w3.setRow gm C)) := below_setRow HBW4.out (Nat.le_of_lt HGM.out.1) _
        clear HR4 HO4 HBW4 HNW4 HONE
        generalize w3.setRow gm C = w5 at *
        refine wp_region_loud0 [true, true, true, false] [] (by kernel_rfl) (by kernel_rfl) (by kernel_rfl) (by kernel_rfl) (by kernel_rfl) (fun _ _ _ _ _ h => h) ?_
        simp only [qPick, lPick, Act.put]
        repeat (go_big_quiet_step (fail))
        refine wpQuiet_nil ?_
        simp only [LoudW]
        have HDR : Hid (Below w5.heap.size w5 w5.drew) := (Below.refl _ _).drew
        go_wp2_with (refine wpList_copy_Z rfl _ _ 22 22 rfl 5 Try.underlying22 hi5 (some ⟨g, i00, none⟩) (some ⟨gm, 0, none⟩) (16 - i00) (16 - i00) 4 4 rfl rfl .u8 g i00 16 4 (fun j => ((if j < i00 then mcB unmM s j else s j : UInt8).toNat : Int)) (fun t => ((mcB unmM s (i00 + t)).toNat : Int)) 59 (HR5.out.next HDR.out) (by show 4 = min 4 (16 - i00); omega) (fun _ => ⟨rfl, gm, 0, rfl, fun j hj => by rw [Nat.zero_add]; show w5.cell? _ = _; rw [cell_of_row _ _ _ _ _ _ HC5.out]; have := HCR.out j hj; exact this⟩) (by omega) ?_; intro w6 hr6 hb6; have HR6 := hidD hr6.out; have HB6 := hidD hb6; clear hr6 hb6)
        refine ⟨⟨⟨w6, fun _ h => by cases h⟩, rfl⟩, ?_⟩
        have HR7 : Hid (RowZ w6 g .u8 16 59 (fun j => ((if j < 4 * (i + 1) then mcB unmM s j else s j : UInt8).toNat : Int))) := HR6.out.congr fun j hj => by
          have := H40.out
          by_cases h1 : i00 ≤ j ∧ j < i00 + 4
          · rw [if_pos h1, if_pos (by omega), show i00 + (j - i00) = j by omega]
          · rw [if_neg h1]
            by_cases h2 : j < i00
            · rw [if_pos h2, if_pos (by omega)]
            · rw [if_neg h2, if_neg (by omega)]
        have HO7 : Hid (RowZ w6 (g + 1) .u8 16 59 (fun _ => 0)) := (HO5.out.next HDR.out).but HB6.out (by omega)
        have HB7 : Hid (Below g W w6) := (HBW5.out.trans (HDR.out.mono (Nat.le_of_lt HR5.out.lt))).trans HB6.out.bel
        clear HR6 HB6 HR5 HO5 HBW5 HC5 HDR
        go_wp2_with fail
        go_roundw
        case rel => exact ⟨i + 1, by omega, by have := H40.out; first | (go_num; done) | (go_num; omega), HR7.out, HO7.out, HB7.out⟩
        case measure => simp [intOf]; omega
    · obtain rfl : i = 4 := by omega
      have HL : Hid (wr.heap[g]? = some (.cells (bR (mcB unmM s)) (59 : TypeId) (0, 0))) := hrow.congr fun j hj => by rw [if_pos (by omega)]
      have HO : Hid (wr.heap[g + 1]? = some (.cells (rowZ .u8 16 (fun _ => 0)) (59 : TypeId) (0, 0))) := hout
      have HONE : Hid ((bR (mcB unmM s)).all (·.oneCell') = true) := rowZ_one _ _ _
      have h4 : (bR (mcB unmM s)).size = 16 := rowZ_size _ _ _
      have h0 : (rowZ .u8 16 (fun _ => 0)).size = 16 := rowZ_size _ _ _
      have HBG : Hid (Below g w wr) := V4.out.trans hbel
      clear hrow hbel hout
      generalize hC : bR (mcB unmM s) = C at *
      have HCE := hidD hC
      clear hC
      generalize rowZ .u8 16 (fun _ => 0) = C0 at *
      have hi : (Try.prog.info? 59).map (·.size) = some C.size := by rw [hsz, h4]
      go_wp2_with (first | (refine wpList_load_row rfl 59 _ rfl g rfl 59 C (0, 0) _ HL.out Try.underlying59 rfl hi ?_) | (refine wpList_store_row rfl 59 _ _ rfl (g + 1) C rfl rfl 59 C0 HO.out hi (by rw [h0, h4]) HONE.out ?_))
      refine bodyPost_ret (results_cell_row (P := Try.prog) (p := 4) (ty := 59) (by kernel_rfl) _ _ (g + 1) 59 C (0, 0) _ rfl (setRow_heap _ _ C0 C 59 (0, 0) HO.out) Try.underlying59 rfl hi) rfl ?_
      refine ⟨by rw [HCE.out], ?_⟩
      have hfin : Below g w (wr.setRow (g + 1) C) := below_setRow HBG.out (by omega) _
      rw [HG.out]; exact hfin
end Go.Proofs.Ytgefampdfhbmbaa
