/- What the document's Encode answers. -/
import Derived.Test.YtjmaejdkdpiigaaW5a
import Derived.Test.YtjmaejdkdpiigaaE7
import Derived.Test.YtjmaejdkdpiigaaW4
namespace Go.Proofs.Ytjmaejdkdpiigaa
open Go.RowKit
set_option linter.unusedVariables false

theorem u8_or_nat' (a b : Nat) (ha : a < 256) (hb : b < 256) : bits .or .u8 (a : Int) (b : Int) = ((a ||| b : Nat) : Int) := u8_or_nat a b ha hb
set_option maxRecDepth 100000 in
set_option maxHeartbeats 6400000 in
theorem refEncode_ok {W r : Nat} (h : Wid W r) (d : Nat) (hd : d < 2 ^ W) (w : World) : Calls Try.prog 15 #[.int .i64 (W : Int), .int .u64 (d : Int)] w fun e w' => e = .returned (.tuple #[.agg (wdC d (encS W r d)), .int .i64 0]) ∧ Below w.heap.size w w' := by
  have hr := h.le
  have hd64 : d < 18446744073709551616 := Nat.lt_of_lt_of_le hd (Nat.pow_le_pow_right (n := 2) (by decide) hr.1)
  have HC : Hid (∀ w, Calls Try.prog 9 #[.int .i64 (W : Int)] w fun e w' => e = .returned (.tuple #[.int .i64 (r : Int), .int .i64 0]) ∧ w' = w) := fun w => refChecks_ok h w
  have HPOS : Hid (∀ j : Nat, j < W → ∀ w, Calls Try.prog 38 #[.int .i64 (j : Int)] w fun e w' => e = .returned (.int .i64 (posS j : Int)) ∧ w' = w) := fun j hj w => refPosition_any j (by omega) w
  obtain ⟨P, hP⟩ : ∃ P, P = pxTo d W := ⟨_, rfl⟩
  have hPr : P < 2 ^ r := by rw [hP]; exact Wid.px h d W (Nat.le_refl _)
  have hP7 : P < 128 := by rw [hP]; exact px_lt128 d W hr.1
  have HPE := hidD hP
  have HFIN : Hid (encS W r d = P ||| (onTo P r + onTo d W) % 2 * 2 ^ r) := by
    show _ = _
    rw [← enc_or h d, ← hP]
    unfold parS
    rw [on_small d W hd 64 hr.1, on_small P r hPr 8 (by omega), Nat.add_comm]
  have HPm : Hid (P % 2 ^ r = P) := Nat.mod_eq_of_lt hPr
  have hcase : (¬ (W : Int) < 64) ∨ ((W : Int) < 64 ∧ (d : Int) / 2 ^ W = 0) := by
    by_cases hw : W < 64
    · exact Or.inr ⟨by omega, by rw [show (d : Int) / 2 ^ W = ((d / 2 ^ W : Nat) : Int) by simp, Nat.div_eq_of_lt hd]; rfl⟩
    · exact Or.inl (by omega)
  have HT := hidD (two_blocks w #[.int .u64 0, .int .u8 0] #[.int .u64 0, .int .u8 0] 26)
  obtain ⟨hz, hsz⟩ := zero_of_info Try.zeroRw
  have HI : Hid ((Try.prog.info? 26).map (·.size) = some 2) := hsz
  clear hsz hP hPr hd
  have HR2 : Hid (((w.alloc (.cells #[.int .u64 0, .int .u8 0] (26 : TypeId))).alloc (.cells #[.int .u64 0, .int .u8 0] (26 : TypeId))).heap[w.heap.size + 1]? = some (.cells #[.int .u64 0, .int .u8 0] (26 : TypeId) (0, 0))) := HT.out.2.1
  have HR1 : Hid (((w.alloc (.cells #[.int .u64 0, .int .u8 0] (26 : TypeId))).alloc (.cells #[.int .u64 0, .int .u8 0] (26 : TypeId))).heap[w.heap.size]? = some (.cells #[.int .u64 0, .int .u8 0] (26 : TypeId) (0, 0))) := HT.out.1
  have HBL : Hid (Below w.heap.size w ((w.alloc (.cells #[.int .u64 0, .int .u8 0] (26 : TypeId))).alloc (.cells #[.int .u64 0, .int .u8 0] (26 : TypeId)))) := HT.out.2.2.1
  clear HT
  rcases hcase with hA | ⟨hA, hq⟩
  all_goals
    go_enter Try.func15, Try.ntmps15
    go_wp2_with (first | (go_at_call 9; refine (HC.out _).mono ?_; rintro e w2 ⟨rfl, hb2⟩) | (refine wpList_store_row rfl 26 _ _ rfl (w.heap.size + 1) (wdC d 0) (by first | rfl | simp) rfl 26 #[.int .u64 0, .int .u8 0] HR2.out HI.out rfl (wd_one d 0) ?_))
    all_goals try (apply False.elim; apply undef_bool0; assumption)
    have HS2 : Hid ((((w.alloc (.cells #[.int .u64 0, .int .u8 0] (26 : TypeId))).alloc (.cells #[.int .u64 0, .int .u8 0] (26 : TypeId))).setRow (w.heap.size + 1) (wdC d 0)).heap[w.heap.size + 1]? = some (.cells (wdC d 0) (26 : TypeId) (0, 0))) := setRow_heap _ _ _ _ _ _ HR2.out
    have HS1 : Hid ((((w.alloc (.cells #[.int .u64 0, .int .u8 0] (26 : TypeId))).alloc (.cells #[.int .u64 0, .int .u8 0] (26 : TypeId))).setRow (w.heap.size + 1) (wdC d 0)).heap[w.heap.size]? = some (.cells #[.int .u64 0, .int .u8 0] (26 : TypeId) (0, 0))) := (setRow_other _ _ _ _ (by omega)).trans HR1.out
    have HSB : Hid (Below w.heap.size w (((w.alloc (.cells #[.int .u64 0, .int .u8 0] (26 : TypeId))).alloc (.cells #[.int .u64 0, .int .u8 0] (26 : TypeId))).setRow (w.heap.size + 1) (wdC d 0))) := below_setRow HBL.out (Nat.le_succ _) _
    clear HR2 HR1 HBL HC
    go_loopw [9, 10] (fun al iv wr => ∃ i O : Nat, i ≤ r ∧ iv = .int .i64 (i : Int) ∧ al = .int .u64 (O : Int) ∧ Hid (O = onTo P i % 2) ∧ wr.heap[w.heap.size + 1]? = some (.cells (wdC d (P % 2 ^ i)) (26 : TypeId) (0, 0)) ∧ wr.heap[w.heap.size]? = some (.cells #[.int .u64 0, .int .u8 0] (26 : TypeId) (0, 0)) ∧ Below w.heap.size w wr) (fun _ iv _ => r - (intOf iv).toNat)
    case atStart => exact ⟨0, 0, Nat.zero_le _, rfl, rfl, (rfl : _ = _), by rw [Nat.pow_zero, Nat.mod_one]; exact HS2.out, HS1.out, HSB.out⟩
    case round =>
      clear HS2 HS1 HSB
      obtain ⟨i, O, hi, rfl, rfl, HOE, hr2, hr1, hbl⟩ := hrel
      have HRW2 := hidD hr2
      have HRW1 := hidD hr1
      have HBW := hidD hbl
      clear hr2 hr1 hbl
      obtain ⟨wo, hwo⟩ : ∃ wo, wo = wr := ⟨_, rfl⟩
      subst hwo
      by_cases hlt : i < r
      · have hlti : (i : Int) < r := by omega
        go_upto_region 11 with fail
        go_loopw [11, 12] (fun b k wr => ∃ j : Nat, j ≤ W ∧ k = .int .i64 (j : Int) ∧ b = .int .u64 (((pxTo d j).testBit i).toNat : Int) ∧ wr = wo) (fun _ k _ => W - (intOf k).toNat)
        case atStart => exact ⟨0, Nat.zero_le _, rfl, by simp [pxTo], rfl⟩
        case round =>
          obtain ⟨j, hj, rfl, rfl, rfl⟩ := hrel
          by_cases hjl : j < W
          · have hjli : (j : Int) < W := by omega
            have hbit := bit_u64 j hd64
            have hpl := pos_lt j (by omega)
            have hpb := bit_i64 (posS j) i hpl
            have HPos := hidD (HPOS.out j hjl)
            have HST : Hid ((pxTo d (j + 1)).testBit i = ((pxTo d j).testBit i ^^ (d.testBit j && (posS j).testBit i))) := px_bit d j i
            have hi64 : i ≤ 64 := by omega
            have hj64 : j ≤ 64 := by omega
            generalize (pxTo d j).testBit i = b at *
            generalize (posS j).testBit i = pb at *
            generalize d.testBit j = db at *
            generalize posS j = PP at *
            cases pb
            · go_wp2_with (go_at_call 38; refine (HPos.out _).mono ?_; rintro e wx ⟨rfl, hbx⟩)
              go_roundw
              case rel => exact ⟨j + 1, by omega, by go_num, by rw [HST.out]; simp, trivial⟩
              case measure => simp [intOf]; omega
            · have hx : bits .xor .u64 (b.toNat : Int) (db.toNat : Int) = (((b ^^ db).toNat : Nat) : Int) := by cases b <;> cases db <;> rfl
              go_wp2_with (go_at_call 38; refine (HPos.out _).mono ?_; rintro e wx ⟨rfl, hbx⟩)
              go_roundw
              case rel => exact ⟨j + 1, by omega, by go_num, by rw [HST.out]; simp, trivial⟩
              case measure => simp [intOf]; omega
          · obtain rfl : j = W := by omega
            have hjl2 : ¬ (j : Int) < j := by omega
            have HB := HPE.out
            have h3 := chk_step P hP7 i (by omega)
            have HOn : Hid (onTo P (i + 1) = onTo P i + (P.testBit i).toNat) := (rfl : _ = _)
            have hps := par_step5 (onTo P i) (P.testBit i)
            rw [← HB]
            have hi64 : i ≤ 64 := by omega
            have hpm : P % 2 ^ i < 256 := Nat.lt_of_le_of_lt (Nat.mod_le _ _) (by omega)
            have hsh : (((P.testBit i).toNat : Int)) * 2 ^ i % 256 = (((P.testBit i).toNat * 2 ^ i : Nat) : Int) := by
              have : (((P.testBit i).toNat : Int)) * 2 ^ i = (((P.testBit i).toNat * 2 ^ i : Nat) : Int) := by simp
              rw [this]; omega
            have hor : bits .or .u8 ((P % 2 ^ i : Nat) : Int) (((P.testBit i).toNat * 2 ^ i : Nat) : Int) = ((P % 2 ^ (i + 1) : Nat) : Int) := by rw [u8_or_nat _ _ hpm h3.2.2, h3.1]
            have hO2 : O < 2 := by rw [HOE.out]; exact Nat.mod_lt _ (by decide)
            obtain ⟨O1, hO1⟩ : ∃ O1, O1 = onTo P (i + 1) % 2 := ⟨_, rfl⟩
            have HO1 := hidD hO1
            have hxx : bits .xor .u64 (O : Int) ((P.testBit i).toNat : Int) = (O1 : Int) := by
              rw [hO1, HOE.out, u64_xor_nat _ _ (by omega) (by have := Bool.toNat_le (P.testBit i); omega), hps, HOn.out]
            have hbl := Bool.toNat_le (P.testBit i)
            have c0 : wr.cell? ⟨w.heap.size + 1, 1, none⟩ = some (.int .u8 ((P % 2 ^ i : Nat) : Int)) := (wd_at HRW2.out).2
            have c1 := wd_froz HRW2.out 1
            have HN2 : Hid ((wr.setCell ⟨w.heap.size + 1, 1, none⟩ (.int .u8 ((P % 2 ^ (i + 1) : Nat) : Int))).heap[w.heap.size + 1]? = some (.cells (wdC d (P % 2 ^ (i + 1))) (26 : TypeId) (0, 0))) := wd_setC HRW2.out _
            have HN1 : Hid ((wr.setCell ⟨w.heap.size + 1, 1, none⟩ (.int .u8 ((P % 2 ^ (i + 1) : Nat) : Int))).heap[w.heap.size]? = some (.cells #[.int .u64 0, .int .u8 0] (26 : TypeId) (0, 0))) := (heap_setCell_other _ ⟨w.heap.size + 1, 1, none⟩ w.heap.size _ (by simp)).trans HRW1.out
            have HNB : Hid (Below w.heap.size w (wr.setCell ⟨w.heap.size + 1, 1, none⟩ (.int .u8 ((P % 2 ^ (i + 1) : Nat) : Int)))) := below_setCell HBW.out (Nat.le_succ _) _ _
            clear h3 hps hpm HRW2 HRW1 HBW HOn hO1
            generalize hQ1 : P % 2 ^ (i + 1) = Q1 at *
            have HQ1 := hidD hQ1
            clear hQ1
            generalize P % 2 ^ i = Q0 at *
            generalize (P.testBit i).toNat * 2 ^ i = SH at *
            generalize (P.testBit i).toNat = B1 at *
            go_wp2_with fail
            go_roundw
            case rel => exact ⟨i + 1, O1, by omega, by go_num, rfl, HO1, by rw [HQ1.out]; exact HN2.out, HN1.out, HNB.out⟩
            case measure => simp [intOf]; omega
      · obtain rfl : i = r := by omega
        have hlti : ¬ (i : Int) < i := by omega
        go_upto_region 18 with fail
        go_loopw [9, 13] (fun al k wr => ∃ j Y : Nat, j ≤ W ∧ k = .int .i64 (j : Int) ∧ al = .int .u64 (Y : Int) ∧ Hid (Y = (onTo P i + onTo d j) % 2) ∧ wr = wo) (fun _ k _ => W - (intOf k).toNat)
        case atStart => exact ⟨0, O, Nat.zero_le _, rfl, rfl, HOE, rfl⟩
        case round =>
          obtain ⟨j, Y, hj, rfl, rfl, HY, rfl⟩ := hrel
          by_cases hjl : j < W
          · have hjli : (j : Int) < W := by omega
            have hbit := bit_u64 j hd64
            have hps := par_step5 (onTo P i + onTo d j) (d.testBit j)
            obtain ⟨Y1, hY1⟩ : ∃ Y1, Y1 = (onTo P i + onTo d (j + 1)) % 2 := ⟨_, rfl⟩
            have HY1 := hidD hY1
            have hxx : bits .xor .u64 (Y : Int) ((d.testBit j).toNat : Int) = (Y1 : Int) := by
              rw [hY1, HY.out, u64_xor_nat _ _ (by omega) (by have := Bool.toNat_le (d.testBit j); omega), hps, Nat.add_assoc]; rfl
            have hj64 : j ≤ 64 := by omega
            clear hps hY1
            generalize (d.testBit j).toNat = B1 at *
            go_wp2_with fail
            go_roundw
            case rel => exact ⟨j + 1, Y1, by omega, by go_num, rfl, HY1, trivial⟩
            case measure => simp [intOf]; omega
          · obtain rfl : j = W := by omega
            have hjl2 : ¬ (j : Int) < j := by omega
            have c0 : wr.cell? ⟨w.heap.size + 1, 1, none⟩ = some (.int .u8 ((P : Nat) : Int)) := by rw [(wd_at HRW2.out).2, HPm.out]
            have c1 := wd_froz HRW2.out 1
            have hY : Y < 2 := by rw [HY.out]; exact Nat.mod_lt _ (by decide)
            have h2r : 2 ^ i ≤ 128 := Nat.pow_le_pow_right (n := 2) (by decide) hr.2.1
            have hmul : Y * 2 ^ i ≤ 128 := by
              rcases (show Y = 0 ∨ Y = 1 by omega) with hz | hz <;> rw [hz] <;> omega
            have hsh : (Y : Int) * 2 ^ i % 256 = ((Y * 2 ^ i : Nat) : Int) := by
              have : (Y : Int) * 2 ^ i = ((Y * 2 ^ i : Nat) : Int) := by simp
              rw [this]; omega
            have hor : bits .or .u8 ((P : Nat) : Int) ((Y * 2 ^ i : Nat) : Int) = (encS j i d : Int) := by rw [u8_or_nat _ _ (by omega) (by omega), HFIN.out, HY.out]
            have hi64 : i ≤ 64 := by omega
            have HRD : Hid (wr.heap[w.heap.size + 1]? = some (.cells (wdC d P) (26 : TypeId) (0, 0))) := by have := HRW2.out; rw [HPm.out] at this; exact this
            have HN2 : Hid ((wr.setCell ⟨w.heap.size + 1, 1, none⟩ (.int .u8 (encS j i d : Int))).heap[w.heap.size + 1]? = some (.cells (wdC d (encS j i d)) (26 : TypeId) (0, 0))) := wd_setC HRD.out _
            have HN1 : Hid ((wr.setCell ⟨w.heap.size + 1, 1, none⟩ (.int .u8 (encS j i d : Int))).heap[w.heap.size]? = some (.cells #[.int .u64 0, .int .u8 0] (26 : TypeId) (0, 0))) := (heap_setCell_other _ ⟨w.heap.size + 1, 1, none⟩ w.heap.size _ (by simp)).trans HRW1.out
            have HNB : Hid (∀ cs, Below w.heap.size w ((wr.setCell ⟨w.heap.size + 1, 1, none⟩ (.int .u8 (encS j i d : Int))).setRow w.heap.size cs)) := fun cs => below_setRow (below_setCell HBW.out (Nat.le_succ _) _ _) (Nat.le_refl _) cs
            clear hmul h2r HRW2 HRW1 HBW HFIN HPm HPE HRD
            generalize hE : encS j i d = E at *
            have HE := hidD hE
            clear hE
            clear HY
            generalize Y * 2 ^ i = SH at *
            go_wp2_with (first | (refine wpList_load_row rfl 26 _ rfl (w.heap.size + 1) rfl 26 (wdC d E) (0, 0) _ HN2.out Try.underlying26 rfl HI.out ?_) | (refine wpList_store_row rfl 26 _ _ rfl w.heap.size (wdC d E) (by first | rfl | simp) rfl 26 #[.int .u64 0, .int .u8 0] HN1.out HI.out rfl (wd_one d E) ?_))
            refine bodyPost_ret (v := .tuple #[.agg (wdC d E), .int .i64 0]) ?_ rfl ?_
            · exact res_word (p := 4) (u := 5) (by kernel_rfl) _ _ w.heap.size (wdC d E) rfl (setRow_heap _ _ _ _ _ _ HN1.out) Try.underlying26 HI.out
            · exact ⟨by rw [HE.out], HNB.out _⟩
end Go.Proofs.Ytjmaejdkdpiigaa
