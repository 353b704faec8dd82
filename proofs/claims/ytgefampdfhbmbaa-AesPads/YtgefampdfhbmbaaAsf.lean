/- What the document's Decrypt answers. -/
import Derived.Test.YtgefampdfhbmbaaMg
namespace Go.Proofs.Ytgefampdfhbmbaa
open Go.RowKit
set_option linter.unusedVariables false

theorem Try.zero68 : (Try.prog.info? 68).map (fun i => (i.zero, i.size)) = some (some (.agg (rowZ .u8 256 (fun _ => 0))), 256) := by kernel_rfl
def bkT (k v : Nat) : Int := if usN v < k then (usN v : Int) else 0
theorem bk_step {k v : Nat} (hk : k < 256) (hv : v < 256) : (if v = sbN k then (k : Int) else bkT k v) = bkT (k + 1) v := by
  have h1 := us_sb hk
  have h2 := us_sb hv
  unfold bkT
  by_cases he : v = sbN k
  · subst he
    rw [if_pos rfl, h1.1, if_pos (by omega)]
  · rw [if_neg he]
    have hne : usN v ≠ k := fun h => he (by rw [← h, h2.2.1])
    by_cases hl : usN v < k
    · rw [if_pos hl, if_pos (by omega)]
    · rw [if_neg hl, if_neg (by omega)]
theorem bk_all {v : Nat} (hv : v < 256) : bkT 256 v = (usN v : Int) := by unfold bkT; rw [if_pos (us_sb hv).2.2.1]
theorem bk_zero (v : Nat) : bkT 0 v = 0 := by unfold bkT; rw [if_neg (by omega)]
theorem sbN_lt4 {x : Nat} (h : x < 256) : sbN x < 256 := by
  have := sub_sb (UInt8.ofNat x)
  rw [u8_nat h] at this
  rw [← this]; exact UInt8.toNat_lt _
set_option maxRecDepth 100000 in
theorem refDecrypt_nil (v : Value) (w : World) : Calls Try.prog 19 #[.pointer none, v] w fun e w' => e = .returned (.tuple #[.slice none 0 0, .int .i64 2]) ∧ w' = w := by
  go_enter Try.func19, Try.ntmps19
  go_wp2_with fail
  refine bodyPost_ret (v := .tuple #[.slice none 0 0, .int .i64 2]) (by simp [results, Try.results19, go_sem]) rfl ?_
  exact ⟨rfl, rfl⟩
set_option maxRecDepth 100000 in
theorem refDecrypt_no (l : List UInt8) (hl : l.length ≠ 16) (b : Nat) (v : Value) (w : World) (hv : ByAt w v l) : Calls Try.prog 19 #[.pointer (some ⟨b, 0, none⟩), v] w fun e w' => e = .returned (.tuple #[.slice none 0 0, .int .i64 91]) ∧ w' = w := by
  obtain ⟨a', cap, rfl, hsh⟩ := hv.shape
  clear hsh hv
  have e1 : ((l.length : Int) != 16) = true := by
    have : ¬ ((l.length : Int) = 16) := by omega
    simpa using this
  clear hl
  generalize l.length = LL at *
  go_enter Try.func19, Try.ntmps19
  go_wp2_with fail
  refine bodyPost_ret (v := .tuple #[.slice none 0 0, .int .i64 91]) (by simp [results, Try.results19, go_sem]) rfl ?_
  exact ⟨rfl, rfl⟩
set_option maxRecDepth 100000 in
set_option maxHeartbeats 1600000 in
theorem refDecrypt_any (l : List UInt8) (hl : l.length = 16) (n : Nat) (hn : n ≤ 8) (key : Nat → UInt8) (b : Nat) (v : Value) (w : World) (h : RcAt w b n key) (hv : ByAt w v l) : Calls Try.prog 19 #[.pointer (some ⟨b, 0, none⟩), v] w fun e w' => ∃ vo, e = .returned (.tuple #[vo, .int .i64 0]) ∧ w'.ownsRow w.heap.size 5 1 vo 16 ((toL (deS (n + 6) (rkS n key) (blk l))).map encB) ∧ Below w.heap.size w w' := by
  have HRC : Hid (∀ wr, Below w.heap.size w wr → RcAt wr b n key) := fun wr hb => h.next hb
  have HBLK : Hid (∀ wr, Below w.heap.size w wr → Calls Try.prog 45 #[v] wr fun e w' => e = .returned (.agg (bR (blk l))) ∧ Below wr.heap.size wr w') := fun wr hb => refBlock_any l hl v wr (hv.next hb)
  have HAD : Hid (∀ r, r ≤ n + 6 → ∀ X wr, Below w.heap.size w wr → Calls Try.prog 46 #[.pointer (some ⟨b, 0, none⟩), .agg (bR X), .int .i64 (r : Int)] wr fun e w' => e = .returned (.agg (bR (xoB X (rkS n key r)))) ∧ Below wr.heap.size wr w') := fun r hr X wr hb => refAdd_any n hn key r hr b X wr (h.next hb)
  have HLT := hidD h.lt
  obtain ⟨gb, cb, hbx⟩ := h.bx
  have HBXX := hidD hbx
  obtain ⟨a', cap, rfl, hsh⟩ := hv.shape
  clear hsh hv h hbx
  rw [hl] at *
  generalize blk l = s at *
  clear hl
  have hRb : n + 6 ≤ 14 := by omega
  generalize rkS n key = rk at *
  generalize hRR : n + 6 = R at *
  have HRR := hidD hRR
  clear hRR
  have HAL : Hid (∀ (w' : World) o, Below w'.heap.size w' (w'.alloc o)) := fun w' o => (Below.refl _ _).alloc (Nat.le_refl _) o
  obtain ⟨hz, hsz⟩ := zero_of_info Try.zero50
  obtain ⟨hz65, hsz65⟩ := zero_of_info Try.zero68
  have HSZ50 := hidD hsz
  clear hsz hsz65
  have HRB : Hid (RowZ (w.alloc (.cells (rowZ .u8 256 (fun _ => 0)) (68 : TypeId))) w.heap.size .u8 256 68 (bkT 0)) := (RowZ.new w .u8 256 68 (fun _ => 0)).congr fun i hi => (bk_zero i).symm
  have HBB := hidD (HAL.out w (.cells (rowZ .u8 256 (fun _ => 0)) (68 : TypeId)))
  go_enter Try.func19, Try.ntmps19
  go_wp2_with fail
  generalize w.alloc (.cells (rowZ .u8 256 (fun _ => 0)) (68 : TypeId)) = W1 at *
  obtain ⟨gk, hgk⟩ : ∃ gk, gk = w.heap.size := ⟨_, rfl⟩
  rw [← hgk]
  have HGK := hidD hgk
  rw [← hgk] at HRB
  clear hgk
  go_loopw [7] (fun i wr => ∃ k : Nat, k ≤ 256 ∧ i = .int .i64 k ∧ RowZ wr gk .u8 256 68 (bkT k) ∧ Below w.heap.size w wr) (fun i _ => 256 - (intOf i).toNat)
  case atStart => exact ⟨0, Nat.zero_le _, rfl, HRB.out, HBB.out⟩
  case round =>
    obtain ⟨k, hk, rfl, hrow, hbel⟩ := hrel
    have HBL := hidD hbel
    by_cases hlk : k < 256
    · have hlki : (k : Int) < 256 := by omega
      obtain ⟨d0, d1, d2, d3⟩ := HBXX.out.next hbel
      have c1 := d1 k hlk
      have hsl := sbN_lt4 hlk
      have hsli : ((sbN k : Nat) : Int) < 256 := by omega
      have hca := hrow.cell hsl
      have hfa := hrow.frozen (sbN k)
      have HSR : Hid (RowZ (wr.setCell ⟨gk, sbN k, none⟩ (.int .u8 (k : Int))) gk .u8 256 68 (bkT (k + 1))) := (hrow.set hsl _).congr fun i hi => bk_step hlk hi
      have HSB : Hid (∀ v, Below w.heap.size w (wr.setCell ⟨gk, sbN k, none⟩ v)) := fun v => below_setCell hbel (by rw [HGK.out]; omega) _ _
      clear hrow hbel d1 d2 d3
      generalize bkT k (sbN k) = Z at *
      generalize sbN k = Y at *
      go_wp2_with fail
      go_roundw
      case rel => exact ⟨k + 1, by omega, by go_num, HSR.out, HSB.out _⟩
      case measure => simp [intOf]; omega
    · obtain rfl : k = 256 := by omega
      have HBK1 : Hid (RowZ wr gk .u8 256 68 (fun v => (usN v : Int))) := hrow.congr fun i hi => bk_all hi
      clear hrow hbel
      have h4 : (bR s).size = 16 := rowZ_size _ _ _
      have h0 : (rowZ .u8 16 (fun _ => 0)).size = 16 := rowZ_size _ _ _
      have HONE : Hid ((bR s).all (·.oneCell') = true) := rowZ_one _ _ _
      have HI : Hid ((Try.prog.info? 50).map (·.size) = some (bR s).size) := by rw [h4]; exact HSZ50.out
      have hcR0 : ∀ wA, Below w.heap.size w wA → wA.cell? ⟨b, 1, none⟩ = some (.int .i64 (R : Int)) := fun wA hb => by have := (HRC.out wA hb).r; rw [HRR.out] at this; exact this
      have HCR := hidD hcR0
      clear hcR0
      go_wp2_with (first
        | (go_at_call 45; refine (HBLK.out _ HBL.out).mono ?_; rintro e w2 ⟨rfl, hb2⟩; have HB2 : Hid (Below w.heap.size w w2) := Below.next HBL.out hb2; have HBK2 := hidD (HBK1.out.next hb2); clear hb2)
        | (refine wpList_store_row rfl 50 _ _ rfl w2.heap.size (bR s) rfl rfl 50 (rowZ .u8 16 (fun _ => 0)) (heap_alloc_last _ _) HI.out (by rw [h0, h4]) HONE.out ?_; have HR3 := hidD (setRow_heap _ _ _ (bR s) (50 : TypeId) (0, 0) (heap_alloc_last w2 (.cells (rowZ .u8 16 (fun _ => 0)) (50 : TypeId)))); have HB3 : Hid (Below w.heap.size w ((w2.alloc (.cells (rowZ .u8 16 (fun _ => 0)) (50 : TypeId))).setRow w2.heap.size (bR s))) := below_setRow (Below.next HB2.out (HAL.out _ _)) HB2.out.size _; have HBK3 : Hid (RowZ ((w2.alloc (.cells (rowZ .u8 16 (fun _ => 0)) (50 : TypeId))).setRow w2.heap.size (bR s)) gk .u8 256 68 (fun v => (usN v : Int))) := HBK2.out.below (below_setRow (HAL.out w2 _) (Nat.le_refl _) _) HBK2.out.lt; have HG2 := hidD HB2.out.size; have HGN : Hid (gk < w2.heap.size) := HBK2.out.lt; generalize (w2.alloc (.cells (rowZ .u8 16 (fun _ => 0)) (50 : TypeId))).setRow w2.heap.size (bR s) = w3 at *; have hcR3 := HCR.out _ HB3.out; clear HBK2 HB2; generalize w2.heap.size = gs at *))
      clear HBL HBK1 HI HONE h4 h0 hcR3
      go_loopw [9] (fun i wr => ∃ r : Nat, r ≤ R ∧ i = .int .i64 r ∧ wr.heap[gs]? = some (.cells (bR (deTo R rk s (R - r))) (50 : TypeId) (0, 0)) ∧ RowZ wr gk .u8 256 68 (fun v => (usN v : Int)) ∧ Below w.heap.size w wr) (fun i _ => (intOf i).toNat)
      case atStart => exact ⟨R, Nat.le_refl _, rfl, by rw [Nat.sub_self]; exact HR3.out, HBK3.out, HB3.out⟩
      case round =>
       clear HR3 HBK3 HB3
       obtain ⟨wo, hwo⟩ : ∃ wo, wo = wr := ⟨_, rfl⟩
       subst hwo
       obtain ⟨r, hr, rfl, hgs, hbk, hbel⟩ := hrel
       have HGS := hidD hgs
       have HBK := hidD hbk
       have HBL := hidD hbel
       have hcR := HCR.out _ hbel
       have HL0U : Hid (But gs wo wo) := But.refl _ _
       by_cases hr1 : 1 ≤ r
       · have hr1i : (1 : Int) ≤ (r : Int) := by omega
         obtain ⟨S, hSE⟩ : ∃ S, deTo R rk s (R - r) = S := ⟨_, rfl⟩
         have HSE := hidD hSE
         have HL0 : Hid (wo.heap[gs]? = some (.cells (bR S) (50 : TypeId) (0, 0))) := by rw [hSE] at hgs; exact hgs
         clear hSE hgs hbk hbel HGS
         by_cases hrR : r < R
         · have hrRi : (r : Int) < (R : Int) := by omega
           have HZC0 : Hid ((bR (S)).size = 16) := rowZ_size _ _ _
           have HOC0 : Hid ((bR (S)).all (·.oneCell') = true) := rowZ_one _ _ _
           have HIC0 : Hid ((Try.prog.info? 50).map (·.size) = some (bR (S)).size) := by rw [HZC0.out]; exact HSZ50.out
           have HZC1 : Hid ((bR (xoB S (rk r))).size = 16) := rowZ_size _ _ _
           have HOC1 : Hid ((bR (xoB S (rk r))).all (·.oneCell') = true) := rowZ_one _ _ _
           have HIC1 : Hid ((Try.prog.info? 50).map (·.size) = some (bR (xoB S (rk r))).size) := by rw [HZC1.out]; exact HSZ50.out
           have HZC2 : Hid ((bR (mcB unmM (xoB S (rk r)))).size = 16) := rowZ_size _ _ _
           have HOC2 : Hid ((bR (mcB unmM (xoB S (rk r)))).all (·.oneCell') = true) := rowZ_one _ _ _
           have HIC2 : Hid ((Try.prog.info? 50).map (·.size) = some (bR (mcB unmM (xoB S (rk r)))).size) := by rw [HZC2.out]; exact HSZ50.out
           have HZC3 : Hid ((bR (usB (mcB unmM (xoB S (rk r))))).size = 16) := rowZ_size _ _ _
           have HOC3 : Hid ((bR (usB (mcB unmM (xoB S (rk r))))).all (·.oneCell') = true) := rowZ_one _ _ _
           have HIC3 : Hid ((Try.prog.info? 50).map (·.size) = some (bR (usB (mcB unmM (xoB S (rk r))))).size) := by rw [HZC3.out]; exact HSZ50.out
           have HKA : Hid (∀ wA, Below w.heap.size w wA → Calls Try.prog 46 #[.pointer (some ⟨b, 0, none⟩), .agg (bR (S)), .int .i64 (r : Int)] wA fun e w' => e = .returned (.agg (bR (xoB S (rk r)))) ∧ Below wA.heap.size wA w') := fun wA hb => HAD.out r (by omega) _ wA hb
           have HSF : Hid (∀ wA, Calls Try.prog 36 #[.agg (bR (mcB unmM (xoB S (rk r)))), .int .i64 (-1)] wA fun e w' => e = .returned (.agg (bR (usB (mcB unmM (xoB S (rk r)))))) ∧ Below wA.heap.size wA w') := fun wA => refUnshift_any _ wA
           have HMX : Hid (∀ wA, Calls Try.prog 47 #[.agg (bR (xoB S (rk r))), .bool true] wA fun e w' => e = .returned (.agg (bR (mcB unmM (xoB S (rk r))))) ∧ Below wA.heap.size wA w') := fun wA => refUnmixB_any _ wA
           obtain ⟨X, hX⟩ : ∃ X, X = usB (mcB unmM (xoB S (rk r))) := ⟨_, rfl⟩
           have HDN : Hid (deTo R rk s (R - (r - 1)) = ubB X) := by
             show _ = _
             have h1 : deTo R rk s (R - (r - 1)) = rdD R rk (deTo R rk s (R - r)) (R - (R - r)) := by
               rw [show R - (r - 1) = (R - r) + 1 by omega]; rfl
             rw [h1, HSE.out, show R - (R - r) = r by omega, hX]
             unfold rdD udB
             rw [if_pos hrR]
           have HC3 : Hid (bR (usB (mcB unmM (xoB S (rk r)))) = bR X) := by rw [hX]; rfl
           clear hX
           generalize bR (usB (mcB unmM (xoB S (rk r)))) = C3 at *
           generalize bR (mcB unmM (xoB S (rk r))) = C2 at *
           generalize bR (xoB S (rk r)) = C1 at *
           generalize bR (S) = C0 at *
           go_wp2_with (first
             | (refine wpList_load_row rfl 50 _ rfl gs rfl 50 C0 (0, 0) _ HL0.out Try.underlying50 rfl HIC0.out ?_)
             | (go_at_call 46; refine (HKA.out _ (HBL.out.trans (HL0U.out.bel.mono HG2.out))).mono ?_; rintro e w5 ⟨rfl, hbx⟩; have HSC0 := hidD ((hbx.block _ (row_lt HL0.out)).trans HL0.out); have HUC0 : Hid (But gs wo w5) := HL0U.out.trans (But.of hbx (Nat.le_of_lt (row_lt HL0.out))); clear hbx HL0 HL0U)
             | (refine wpList_store_row rfl 50 _ _ rfl gs C1 rfl rfl 50 C0 HSC0.out HIC1.out (by rw [HZC1.out, HZC0.out]) HOC1.out ?_; have HL1 := hidD (setRow_heap _ _ C0 C1 (50 : TypeId) (0, 0) HSC0.out); have HL1U : Hid (But gs wo (w5.setRow gs C1)) := HUC0.out.setRow _; clear HSC0 HUC0; generalize w5.setRow gs C1 = w5s at *; have hcR5 : w5s.cell? ⟨b, 1, none⟩ = some (.int .i64 (R : Int)) := by { have h1 := (HRC.out w5s (HBL.out.trans (HL1U.out.bel.mono HG2.out))).r; rw [HRR.out] at h1; exact h1 })
             | (refine wpList_load_row rfl 50 _ rfl gs rfl 50 C1 (0, 0) _ HL1.out Try.underlying50 rfl HIC1.out ?_)
             | (go_at_call 47; refine (HMX.out _).mono ?_; rintro e w6 ⟨rfl, hbx⟩; have HSC1 := hidD ((hbx.block _ (row_lt HL1.out)).trans HL1.out); have HUC1 : Hid (But gs wo w6) := HL1U.out.trans (But.of hbx (Nat.le_of_lt (row_lt HL1.out))); clear hbx HL1 HL1U)
             | (refine wpList_store_row rfl 50 _ _ rfl gs C2 rfl rfl 50 C1 HSC1.out HIC2.out (by rw [HZC2.out, HZC1.out]) HOC2.out ?_; have HL2 := hidD (setRow_heap _ _ C1 C2 (50 : TypeId) (0, 0) HSC1.out); have HL2U : Hid (But gs wo (w6.setRow gs C2)) := HUC1.out.setRow _; clear HSC1 HUC1; generalize w6.setRow gs C2 = w6s at *)
             | (refine wpList_load_row rfl 50 _ rfl gs rfl 50 C2 (0, 0) _ HL2.out Try.underlying50 rfl HIC2.out ?_)
             | (go_at_call 36; refine (HSF.out _).mono ?_; rintro e w7 ⟨rfl, hbx⟩; have HSC2 := hidD ((hbx.block _ (row_lt HL2.out)).trans HL2.out); have HUC2 : Hid (But gs wo w7) := HL2U.out.trans (But.of hbx (Nat.le_of_lt (row_lt HL2.out))); clear hbx HL2 HL2U)
             | (refine wpList_store_row rfl 50 _ _ rfl gs C3 rfl rfl 50 C2 HSC2.out HIC3.out (by rw [HZC3.out, HZC2.out]) HOC3.out ?_; have HL3 := hidD (setRow_heap _ _ C2 C3 (50 : TypeId) (0, 0) HSC2.out); have HL3U : Hid (But gs wo (w7.setRow gs C3)) := HUC2.out.setRow _; clear HSC2 HUC2; generalize w7.setRow gs C3 = w7s at *))
           have HRX : Hid (RowZ w7s gs .u8 16 50 (fun i => ((X i).toNat : Int))) := by
             have h1 := HL3.out
             rw [HC3.out] at h1
             exact h1
           clear HL3 hcR
           go_loopw [10] (fun i wr => ∃ k : Nat, k ≤ 16 ∧ i = .int .i64 k ∧ RowZ wr gs .u8 16 50 (fun i => ((if i < k then ubB X i else X i : UInt8).toNat : Int)) ∧ But gs wo wr) (fun i _ => 16 - (intOf i).toNat)
           case atStart => exact ⟨0, Nat.zero_le _, rfl, HRX.out, HL3U.out⟩
           case round =>
             obtain ⟨k, hk, rfl, hrow, hbut⟩ := hrel
             have HBU := hidD hbut
             by_cases hlk : k < 16
             · have hlki : (k : Int) < 16 := by omega
               have hxl := u8_lt (X k)
               have hxli : ((X k).toNat : Int) < 256 := by omega
               have hca : wr.cell? ⟨gs, k, none⟩ = some (.int .u8 ((X k).toNat : Int)) := by
                 have := hrow.cell hlk
                 rw [if_neg (by omega)] at this
                 exact this
               have hcc : wr.cell? ⟨gk, (X k).toNat, none⟩ = some (.int .u8 ((ubB X k).toNat : Int)) := by
                 have h1 := hbut.rest gk (row_lt HBK.out) (by have := HGN.out; omega)
                 rw [World.cell?_of_block h1, HBK.out.cell (k := (X k).toNat) hxl]
                 unfold ubB unsS
                 rw [u8_nat (us_sb hxl).2.2.1]
               have hfa := hrow.frozen k
               have HSR : Hid (RowZ (wr.setCell ⟨gs, k, none⟩ (.int .u8 ((ubB X k).toNat : Int))) gs .u8 16 50 (fun i => ((if i < k + 1 then ubB X i else X i : UInt8).toNat : Int))) := by
                 refine (hrow.set hlk _).congr fun i hi => ?_
                 by_cases he : i = k
                 · subst he; rw [if_pos rfl, if_pos (by omega)]
                 · rw [if_neg he]
                   by_cases h2 : i < k
                   · rw [if_pos h2, if_pos (by omega)]
                   · rw [if_neg h2, if_neg (by omega)]
               have HSB : Hid (∀ v, But gs wo (wr.setCell ⟨gs, k, none⟩ v)) := fun v => hbut.put _ _
               clear hrow hbut
               generalize ((ubB X k).toNat : Int) = Z at *
               generalize (X k).toNat = Y at *
               go_wp2_with fail
               go_roundw
               case rel => exact ⟨k + 1, by omega, by go_num, HSR.out, HSB.out _⟩
               case measure => simp [intOf]; omega
             · obtain rfl : k = 16 := by omega
               have HL1 : Hid (wr.heap[gs]? = some (.cells (bR (ubB X)) (50 : TypeId) (0, 0))) := hrow.congr fun i hi => by rw [if_pos hi]
               have HFB : Hid (RowZ wr gk .u8 256 68 (fun v => (usN v : Int))) := (hbut.rest gk (row_lt HBK.out) (by have := HGN.out; omega)).trans HBK.out
               have HFW : Hid (Below w.heap.size w wr) := HBL.out.trans (hbut.bel.mono HG2.out)
               have hrs : (r : Int) - 1 = ((r - 1 : Nat) : Int) := by omega
               clear hrow hbut
               go_wp2_with fail
               go_roundw
               case rel => exact ⟨r - 1, by omega, by go_num, by rw [HDN.out]; exact HL1.out, HFB.out, HFW.out⟩
               case measure => simp [intOf]; omega
         · have hrRi : ¬ (r : Int) < (R : Int) := by omega
           have hrRd : decide ((r : Int) < (R : Int)) = false := by simpa using hrRi
           have HZC0 : Hid ((bR (S)).size = 16) := rowZ_size _ _ _
           have HOC0 : Hid ((bR (S)).all (·.oneCell') = true) := rowZ_one _ _ _
           have HIC0 : Hid ((Try.prog.info? 50).map (·.size) = some (bR (S)).size) := by rw [HZC0.out]; exact HSZ50.out
           have HZC1 : Hid ((bR (xoB S (rk r))).size = 16) := rowZ_size _ _ _
           have HOC1 : Hid ((bR (xoB S (rk r))).all (·.oneCell') = true) := rowZ_one _ _ _
           have HIC1 : Hid ((Try.prog.info? 50).map (·.size) = some (bR (xoB S (rk r))).size) := by rw [HZC1.out]; exact HSZ50.out
           have HZC3 : Hid ((bR (usB (xoB S (rk r)))).size = 16) := rowZ_size _ _ _
           have HOC3 : Hid ((bR (usB (xoB S (rk r)))).all (·.oneCell') = true) := rowZ_one _ _ _
           have HIC3 : Hid ((Try.prog.info? 50).map (·.size) = some (bR (usB (xoB S (rk r)))).size) := by rw [HZC3.out]; exact HSZ50.out
           have HKA : Hid (∀ wA, Below w.heap.size w wA → Calls Try.prog 46 #[.pointer (some ⟨b, 0, none⟩), .agg (bR (S)), .int .i64 (r : Int)] wA fun e w' => e = .returned (.agg (bR (xoB S (rk r)))) ∧ Below wA.heap.size wA w') := fun wA hb => HAD.out r (by omega) _ wA hb
           have HSF : Hid (∀ wA, Calls Try.prog 36 #[.agg (bR (xoB S (rk r))), .int .i64 (-1)] wA fun e w' => e = .returned (.agg (bR (usB (xoB S (rk r))))) ∧ Below wA.heap.size wA w') := fun wA => refUnshift_any _ wA
           obtain ⟨X, hX⟩ : ∃ X, X = usB (xoB S (rk r)) := ⟨_, rfl⟩
           have HDN : Hid (deTo R rk s (R - (r - 1)) = ubB X) := by
             show _ = _
             have h1 : deTo R rk s (R - (r - 1)) = rdD R rk (deTo R rk s (R - r)) (R - (R - r)) := by
               rw [show R - (r - 1) = (R - r) + 1 by omega]; rfl
             rw [h1, HSE.out, show R - (R - r) = r by omega, hX]
             unfold rdD udB
             rw [if_neg hrR]
           have HC3 : Hid (bR (usB (xoB S (rk r))) = bR X) := by rw [hX]; rfl
           clear hX
           generalize bR (usB (xoB S (rk r))) = C3 at *
           generalize bR (xoB S (rk r)) = C1 at *
           generalize bR (S) = C0 at *
           go_wp2_with (first
             | (refine wpList_load_row rfl 50 _ rfl gs rfl 50 C0 (0, 0) _ HL0.out Try.underlying50 rfl HIC0.out ?_)
             | (go_at_call 46; refine (HKA.out _ (HBL.out.trans (HL0U.out.bel.mono HG2.out))).mono ?_; rintro e w5 ⟨rfl, hbx⟩; have HSC0 := hidD ((hbx.block _ (row_lt HL0.out)).trans HL0.out); have HUC0 : Hid (But gs wo w5) := HL0U.out.trans (But.of hbx (Nat.le_of_lt (row_lt HL0.out))); clear hbx HL0 HL0U)
             | (refine wpList_store_row rfl 50 _ _ rfl gs C1 rfl rfl 50 C0 HSC0.out HIC1.out (by rw [HZC1.out, HZC0.out]) HOC1.out ?_; have HL1 := hidD (setRow_heap _ _ C0 C1 (50 : TypeId) (0, 0) HSC0.out); have HL1U : Hid (But gs wo (w5.setRow gs C1)) := HUC0.out.setRow _; clear HSC0 HUC0; generalize w5.setRow gs C1 = w5s at *; have hcR5 : w5s.cell? ⟨b, 1, none⟩ = some (.int .i64 (R : Int)) := by { have h1 := (HRC.out w5s (HBL.out.trans (HL1U.out.bel.mono HG2.out))).r; rw [HRR.out] at h1; exact h1 })
             | (refine wpList_load_row rfl 50 _ rfl gs rfl 50 C1 (0, 0) _ HL1.out Try.underlying50 rfl HIC1.out ?_)
             | (go_at_call 36; refine (HSF.out _).mono ?_; rintro e w7 ⟨rfl, hbx⟩; have HSC1 := hidD ((hbx.block _ (row_lt HL1.out)).trans HL1.out); have HUC1 : Hid (But gs wo w7) := HL1U.out.trans (But.of hbx (Nat.le_of_lt (row_lt HL1.out))); clear hbx HL1 HL1U)
             | (refine wpList_store_row rfl 50 _ _ rfl gs C3 rfl rfl 50 C1 HSC1.out HIC3.out (by rw [HZC3.out, HZC1.out]) HOC3.out ?_; have HL3 := hidD (setRow_heap _ _ C1 C3 (50 : TypeId) (0, 0) HSC1.out); have HL3U : Hid (But gs wo (w7.setRow gs C3)) := HUC1.out.setRow _; clear HSC1 HUC1; generalize w7.setRow gs C3 = w7s at *))
           have HRX : Hid (RowZ w7s gs .u8 16 50 (fun i => ((X i).toNat : Int))) := by
             have h1 := HL3.out
             rw [HC3.out] at h1
             exact h1
           clear HL3 hcR
           go_loopw [10] (fun i wr => ∃ k : Nat, k ≤ 16 ∧ i = .int .i64 k ∧ RowZ wr gs .u8 16 50 (fun i => ((if i < k then ubB X i else X i : UInt8).toNat : Int)) ∧ But gs wo wr) (fun i _ => 16 - (intOf i).toNat)
           case atStart => exact ⟨0, Nat.zero_le _, rfl, HRX.out, HL3U.out⟩
           case round =>
             obtain ⟨k, hk, rfl, hrow, hbut⟩ := hrel
             have HBU := hidD hbut
             by_cases hlk : k < 16
             · have hlki : (k : Int) < 16 := by omega
               have hxl := u8_lt (X k)
               have hxli : ((X k).toNat : Int) < 256 := by omega
               have hca : wr.cell? ⟨gs, k, none⟩ = some (.int .u8 ((X k).toNat : Int)) := by
                 have := hrow.cell hlk
                 rw [if_neg (by omega)] at this
                 exact this
               have hcc : wr.cell? ⟨gk, (X k).toNat, none⟩ = some (.int .u8 ((ubB X k).toNat : Int)) := by
                 have h1 := hbut.rest gk (row_lt HBK.out) (by have := HGN.out; omega)
                 rw [World.cell?_of_block h1, HBK.out.cell (k := (X k).toNat) hxl]
                 unfold ubB unsS
                 rw [u8_nat (us_sb hxl).2.2.1]
               have hfa := hrow.frozen k
               have HSR : Hid (RowZ (wr.setCell ⟨gs, k, none⟩ (.int .u8 ((ubB X k).toNat : Int))) gs .u8 16 50 (fun i => ((if i < k + 1 then ubB X i else X i : UInt8).toNat : Int))) := by
                 refine (hrow.set hlk _).congr fun i hi => ?_
                 by_cases he : i = k
                 · subst he; rw [if_pos rfl, if_pos (by omega)]
                 · rw [if_neg he]
                   by_cases h2 : i < k
                   · rw [if_pos h2, if_pos (by omega)]
                   · rw [if_neg h2, if_neg (by omega)]
               have HSB : Hid (∀ v, But gs wo (wr.setCell ⟨gs, k, none⟩ v)) := fun v => hbut.put _ _
               clear hrow hbut
               generalize ((ubB X k).toNat : Int) = Z at *
               generalize (X k).toNat = Y at *
               go_wp2_with fail
               go_roundw
               case rel => exact ⟨k + 1, by omega, by go_num, HSR.out, HSB.out _⟩
               case measure => simp [intOf]; omega
             · obtain rfl : k = 16 := by omega
               have HL1 : Hid (wr.heap[gs]? = some (.cells (bR (ubB X)) (50 : TypeId) (0, 0))) := hrow.congr fun i hi => by rw [if_pos hi]
               have HFB : Hid (RowZ wr gk .u8 256 68 (fun v => (usN v : Int))) := (hbut.rest gk (row_lt HBK.out) (by have := HGN.out; omega)).trans HBK.out
               have HFW : Hid (Below w.heap.size w wr) := HBL.out.trans (hbut.bel.mono HG2.out)
               have hrs : (r : Int) - 1 = ((r - 1 : Nat) : Int) := by omega
               clear hrow hbut
               go_wp2_with fail
               go_roundw
               case rel => exact ⟨r - 1, by omega, by go_num, by rw [HDN.out]; exact HL1.out, HFB.out, HFW.out⟩
               case measure => simp [intOf]; omega
       · obtain rfl : r = 0 := by omega
         have hr0 : ¬ (1 : Int) ≤ ((0 : Nat) : Int) := by omega
         have HL0 := HGS
         rw [Nat.sub_zero] at HL0
         have HKA : Hid (∀ wA, Below w.heap.size w wA → Calls Try.prog 46 #[.pointer (some ⟨b, 0, none⟩), .agg (bR (deTo R rk s R)), .int .i64 0] wA fun e w' => e = .returned (.agg (bR (xoB (deTo R rk s R) (rk 0)))) ∧ Below wA.heap.size wA w') := fun wA hb => HAD.out 0 (Nat.zero_le _) _ wA hb
         have HTD : Hid (toL (deS R rk s) = toL (xoB (deTo R rk s R) (rk 0))) := rfl
         have HBY : Hid (∀ wA, wA.heap[gs]? = some (.cells (bR (xoB (deTo R rk s R) (rk 0))) (50 : TypeId) (0, 0)) → ByAt wA (.slice (some ⟨gs, 0, none⟩) 16 16) (toL (xoB (deTo R rk s R) (rk 0)))) := fun wA h => by_block h
         have HTL : Hid ((toL (xoB (deTo R rk s R) (rk 0))).length = 16) := toL_len _
         clear hgs hbk hbel HGS
         have HZC0 : Hid ((bR (deTo R rk s R)).size = 16) := rowZ_size _ _ _
         have HOC0 : Hid ((bR (deTo R rk s R)).all (·.oneCell') = true) := rowZ_one _ _ _
         have HIC0 : Hid ((Try.prog.info? 50).map (·.size) = some (bR (deTo R rk s R)).size) := by rw [HZC0.out]; exact HSZ50.out
         have HZC1 : Hid ((bR (xoB (deTo R rk s R) (rk 0))).size = 16) := rowZ_size _ _ _
         have HOC1 : Hid ((bR (xoB (deTo R rk s R) (rk 0))).all (·.oneCell') = true) := rowZ_one _ _ _
         have HIC1 : Hid ((Try.prog.info? 50).map (·.size) = some (bR (xoB (deTo R rk s R) (rk 0))).size) := by rw [HZC1.out]; exact HSZ50.out
         generalize toL (xoB (deTo R rk s R) (rk 0)) = TL at *
         generalize bR (xoB (deTo R rk s R) (rk 0)) = C1 at *
         generalize bR (deTo R rk s R) = C0 at *
         go_wp2_with (first
           | (refine wpList_load_row rfl 50 _ rfl gs rfl 50 C0 (0, 0) _ HL0.out Try.underlying50 rfl HIC0.out ?_)
           | (go_at_call 46; refine (HKA.out _ (HBL.out.trans (HL0U.out.bel.mono HG2.out))).mono ?_; rintro e w5 ⟨rfl, hbx⟩; have HSC0 := hidD ((hbx.block _ (row_lt HL0.out)).trans HL0.out); have HUC0 : Hid (But gs wo w5) := HL0U.out.trans (But.of hbx (Nat.le_of_lt (row_lt HL0.out))); clear hbx HL0 HL0U)
           | (refine wpList_store_row rfl 50 _ _ rfl gs C1 rfl rfl 50 C0 HSC0.out HIC1.out (by rw [HZC1.out, HZC0.out]) HOC1.out ?_; have HL1 := hidD (setRow_heap _ _ C0 C1 (50 : TypeId) (0, 0) HSC0.out); have HL1U : Hid (But gs wo (w5.setRow gs C1)) := HUC0.out.setRow _; clear HSC0 HUC0; generalize w5.setRow gs C1 = w5s at *)
           | (at_builtin; refine wpList_append_by rfl _ _ rfl w5s.heap.size (.slice (some ⟨w5s.heap.size, 0, none⟩) 0 0) 0 [] rfl (empty_ownB w5s) (.slice (some ⟨gs, 0, none⟩) 16 16) TL rfl ((HBY.out _ HL1.out).next (HAL.out _ _)) (by rw [HTL.out]; omega) (by simp) ?_; intro v8 w8 hown8 hg8; rw [HTL.out, Nat.zero_add, List.nil_append] at hown8; have HO8 := hidD hown8; have HB8 : Hid (Below w5s.heap.size w5s w8) := row_grown (empty_ownB w5s) (HAL.out w5s _) hg8 (by simp); clear hown8 hg8))
         refine bodyPost_ret (v := .tuple #[v8, .int .i64 0]) (by simp [results, Try.results19, go_sem]) rfl ?_
         have hbw : Below w.heap.size w w5s := HBL.out.trans (HL1U.out.bel.mono HG2.out)
         exact ⟨_, rfl, by rw [HTD.out]; exact own_mono HO8.out hbw.size, Below.next hbw HB8.out⟩
end Go.Proofs.Ytgefampdfhbmbaa
