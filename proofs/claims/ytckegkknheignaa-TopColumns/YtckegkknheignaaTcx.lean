/- TopColumns: the main walk. -/
import Derived.Test.YtckegkknheignaaTcn
import Derived.Test.YtckegkknheignaaMk
namespace Go.Proofs.Ytckegkknheignaa
open Go.RowKit
set_option linter.unusedVariables false

theorem wd_xo (a b : Nat → UInt8) (i : Nat) : wdB a i ^^^ wdB b i = wdB (xoB a b) i := by
  unfold wdB; rw [word_xor]; rfl
theorem own_ge {w : World} {B e sz n b : Nat} {v : Value} {xs : List Value} (h : w.ownsRow B e sz v n xs) (hb : b < B) : some b ≠ v.ownBlock := by
  rcases h.2 with ⟨rfl, _⟩ | ⟨g, cap, cur, rfl, hbg, _⟩
  · simp [Value.ownBlock]
  · simp [Value.ownBlock]; omega
theorem to_take (c : Nat → UInt8) (k : Nat) (h : k < 16) : (toL c).take (k + 1) = (toL c).take k ++ [c k] := by
  rw [List.take_add_one]
  congr 1
  unfold toL
  rw [List.getElem?_map, List.getElem?_range h]; rfl
theorem wdB_lt (b : Nat → UInt8) (i : Nat) : wdB b i < 4294967296 := word_lt _
set_option maxRecDepth 100000 in
set_option maxHeartbeats 8000000 in
theorem top_yes (l o : List UInt8) (n : Nat) (hn : n = 4 ∨ n = 6 ∨ n = 8) (hl : l.length = 4 * n) (ho : o.length = 16) (v x : Value) (w : World) (hv : SlAt w v l) (hx : ByAt w x o) : Calls Try.prog 3 #[v, x] w fun e w' => e = .returned (.bool true) ∧ Below w.heap.size w w' := by
  have hn8 : n ≤ 8 := by omega
  have HN := hidD (pNew_any l n hn hl v w hv)
  have HBX : Hid (∀ wA, Below w.heap.size w wA → ByAt wA x o) := fun wA hb => hx.next hb
  have HWD : Hid (∀ wA, Below w.heap.size w wA → Calls Try.prog 7 #[x] wA fun e w' => e = .returned (.agg (wdR (blk o))) ∧ Below wA.heap.size wA w') := fun wA hb => words_any o ho x wA (hx.next hb)
  have HRD : Hid (∀ p wA r, r ≤ n + 6 → AcAt wA w.heap.size p n (blk l) → Calls Try.prog 8 #[.pointer (some ⟨p, 0, none⟩), .int .i64 (r : Int)] wA fun e w' => e = .returned (.agg (wdR (rkS n (blk l) r))) ∧ Below wA.heap.size wA w') := fun p wA r hr h => round_any n _ p hn8 _ r hr wA h
  have HR0 : Hid (∀ p wA, AcAt wA w.heap.size p n (blk l) → Calls Try.prog 8 #[.pointer (some ⟨p, 0, none⟩), .int .i64 0] wA fun e w' => e = .returned (.agg (wdR (rkS n (blk l) 0))) ∧ Below wA.heap.size wA w') := fun p wA h => HRD.out p wA 0 (by omega) h
  have HRO : Hid (∀ p wA, AcAt wA w.heap.size p n (blk l) → Calls Try.prog 9 #[.pointer (some ⟨p, 0, none⟩)] wA fun e w' => e = .returned (.int .i64 ((n + 6 : Nat) : Int)) ∧ Below wA.heap.size wA w') := fun p wA h => pRounds_any n _ p _ wA h
  have HEN : Hid (∀ p wA, AcAt wA w.heap.size p n (blk l) → Below w.heap.size w wA → Calls Try.prog 11 #[.pointer (some ⟨p, 0, none⟩), x] wA fun e w' => ∃ vo, e = .returned (.tuple #[vo, .int .i64 0]) ∧ SlAt w' vo (toL (enS (n + 6) (rkS n (blk l)) (blk o))) ∧ Below wA.heap.size wA w') := fun p wA h hb => pEncrypt_any o ho n _ p hn8 _ x wA h (hx.next hb)
  have HSU := hidD (fun (b : UInt8) w => pSub_any b w)
  have HCO := hidD (fun (b : UInt8) w => pColumn_any b w)
  obtain ⟨hz, hsz⟩ := zero_of_info Try.zero30z
  have HSZ := hidD hsz
  obtain ⟨a1, cap1, rfl, _⟩ := hv.by'.shape
  obtain ⟨a2, cap2, rfl, _⟩ := hx.shape
  have e16 : ((o.length : Int) != 16) = false := by simp [ho]
  have HLL : Hid (((l.length : Int) / 4) + 6 = ((n + 6 : Nat) : Int)) := by show _ = _; omega
  rw [ho] at *
  have HN8 : Hid (n ≤ 8) := hn8
  clear hv hx hsz hl ho hn hn8
  generalize l.length = LL at *
  generalize blk l = key at *
  generalize blk o = b at *
  generalize rkS n key = rk at *
  have HI : Hid (∀ c : Nat → UInt8, (Try.prog.info? 30).map (·.size) = some (wdR c).size) := fun c => by rw [HSZ.out]; unfold wdR; rw [rowZ_size]
  have HS0 : Hid (∀ (c : Nat → UInt8), (rowZ .u32 4 (fun _ => 0)).size = (wdR c).size) := fun c => by unfold wdR; rw [rowZ_size, rowZ_size]
  have HSC : Hid (∀ (d c : Nat → UInt8), (wdR d).size = (wdR c).size) := fun d c => by unfold wdR; rw [rowZ_size, rowZ_size]
  have HONE : Hid (∀ c, (wdR c).all (·.oneCell') = true) := fun c => rowZ_one _ _ _
  generalize hCR : wdR = CR at *
  have HCR : Hid (∀ {w : World} {g : Nat} {c : Nat → UInt8}, w.heap[g]? = some (.cells (CR c) (30 : TypeId) (0, 0)) → RowZ w g .u32 4 30 (fun i => (wdB c i : Int))) := fun h => by rw [← hCR] at h; exact h
  have HRC : Hid (∀ {w : World} {g : Nat} {c : Nat → UInt8}, RowZ w g .u32 4 30 (fun i => (wdB c i : Int)) → w.heap[g]? = some (.cells (CR c) (30 : TypeId) (0, 0))) := fun h => by rw [← hCR]; exact h
  clear hCR
  generalize hC0 : rowZ .u32 4 (fun _ => 0) = C0 at *
  have HC0 : Hid (∀ {w : World} {g : Nat}, w.heap[g]? = some (.cells C0 (30 : TypeId) (0, 0)) → RowZ w g .u32 4 30 (fun _ => 0)) := fun h => by rw [← hC0] at h; exact h
  clear hC0
  go_enter Try.func3, Try.ntmps3
  go_wp2_with (first
    | (go_at_call 4; refine HN.out.mono ?_; rintro e w1 ⟨p, rfl, ha, hb⟩; have HA1 : Hid (AcAt w1 w.heap.size p n key) := ha; have HB1 : Hid (Below w.heap.size w w1) := hb; clear ha hb HN)
    | (go_at_call 7; refine (HWD.out _ HB1.out).mono ?_; rintro e w2 ⟨rfl, hb⟩; have HAW : Hid ((w2.alloc (.cells C0 (30 : TypeId))).heap[w2.heap.size]? = some (.cells C0 (30 : TypeId) (0, 0))) := heap_alloc_last _ _; have HAB : Hid (Below w1.heap.size w1 (w2.alloc (.cells C0 (30 : TypeId)))) := hb.alloc hb.size _; have HG7 : Hid (w1.heap.size ≤ w2.heap.size) := hb.size; clear hb HWD)
    | (refine wpList_store_row rfl 30 _ _ rfl w2.heap.size (CR b) rfl rfl 30 C0 HAW.out (HI.out _) (HS0.out _) (HONE.out _) ?_; have HS3 := hidD (setRow_heap _ _ _ (CR b) _ _ HAW.out); have HB3 := hidD (below_setRow HAB.out HG7.out (CR b)); clear HAW HAB; generalize w2.heap.size = g7 at *; generalize (w2.alloc (.cells C0 (30 : TypeId))).setRow g7 (CR b) = w3 at *)
    | (go_at_call 8; refine (HR0.out p _ (HA1.out.next HB3.out)).mono ?_; rintro e w4 ⟨rfl, hb⟩; have HAW : Hid ((w4.alloc (.cells C0 (30 : TypeId))).heap[w4.heap.size]? = some (.cells C0 (30 : TypeId) (0, 0))) := heap_alloc_last _ _; have hs4 := (hb.block _ (row_lt HS3.out)).trans HS3.out; have HG8 : Hid (g7 < w4.heap.size) := row_lt hs4; have HAS := hidD ((((Below.refl w4.heap.size w4).alloc (Nat.le_refl _) (.cells C0 (30 : TypeId))).block _ (row_lt hs4)).trans hs4); have hb4 := HB3.out.trans (hb.mono HB3.out.size); have HAB : Hid (Below w1.heap.size w1 (w4.alloc (.cells C0 (30 : TypeId)))) := hb4.alloc hb4.size _; clear hb hb4 hs4 HR0 HS3 HB3)
    | (refine wpList_store_row rfl 30 _ _ rfl w4.heap.size (CR (rk 0)) rfl rfl 30 C0 HAW.out (HI.out _) (HS0.out _) (HONE.out _) ?_; have HS5 := hidD (setRow_heap _ _ _ (CR (rk 0)) _ _ HAW.out); have HT5 := hidD ((setRow_other _ _ _ (CR (rk 0)) (Nat.ne_of_lt HG8.out)).trans HAS.out); have HB5 := hidD (below_setRow HAB.out (Nat.le_trans HG7.out (Nat.le_of_lt HG8.out)) (CR (rk 0))); clear HAW HAB HAS; generalize w4.heap.size = g8 at *; generalize (w4.alloc (.cells C0 (30 : TypeId))).setRow g8 (CR (rk 0)) = w5 at *))
  have HG : Hid (w1.heap.size ≤ g7 ∧ g7 < g8) := ⟨HG7.out, HG8.out⟩
  have hT5 := HCR.out HT5.out
  have hS5 := HCR.out HS5.out
  have HT5 := hidD hT5
  have HS5 := hidD hS5
  clear hT5 hS5 HG7 HG8
  generalize hG : w1.heap.size = G at *
  have HGE := hidD hG
  clear hG
  go_loopw [9] (fun i wr => ∃ k : Nat, k ≤ 4 ∧ i = .int .i64 k ∧ RowZ wr g7 .u32 4 30 (fun t => ((if t < k then wdB (xoB b (rk 0)) t else wdB b t : Nat) : Int)) ∧ RowZ wr g8 .u32 4 30 (fun t => (wdB (rk 0) t : Int)) ∧ Below G w1 wr) (fun i _ => 4 - (intOf i).toNat)
  case atStart => exact ⟨0, Nat.zero_le _, rfl, HT5.out.congr fun t _ => by rw [if_neg (by omega)], HS5.out, HB5.out⟩
  case round =>
    obtain ⟨k, hk, rfl, hr7, hr8, hbel⟩ := hrel
    clear HT5 HS5 HB5
    by_cases hlt : k < 4
    · have hlti : (k : Int) < 4 := by omega
      have hc7 : ∀ i : BW wr, i.v.cell? ⟨g7, k, none⟩ = some (.int .u32 (wdB b k : Int)) := fun i => by rw [(hr7.next i.below).cell hlt, if_neg (Nat.lt_irrefl _)]
      have hc8 : ∀ i : BW wr, i.v.cell? ⟨g8, k, none⟩ = some (.int .u32 (wdB (rk 0) k : Int)) := fun i => (hr8.next i.below).cell hlt
      have HTW := hidD hc7
      have HFW : Hid (∀ i : BW wr, i.v.frozen? ⟨g7, k, none⟩ = false) := fun i => (hr7.next i.below).frozen _
      have HXR : Hid (bits .xor .u32 (wdB b k : Int) (wdB (rk 0) k : Int) = (wdB (xoB b (rk 0)) k : Int)) := by show _ = _; rw [u32_xor_nat _ _ (wdB_lt _ _) (wdB_lt _ _), wd_xo]
      have HST : Hid (∀ i : BW wr, RowZ (i.v.setCell ⟨g7, k, none⟩ (.int .u32 (wdB (xoB b (rk 0)) k : Int))) g7 .u32 4 30 (fun t => ((if t < k + 1 then wdB (xoB b (rk 0)) t else wdB b t : Nat) : Int))) := fun i => ((hr7.next i.below).set hlt _).congr fun t ht => by
        by_cases h : t = k
        · subst h; rw [if_pos rfl, if_pos (by omega)]
        · rw [if_neg h]
          by_cases h2 : t < k
          · rw [if_pos h2, if_pos (by omega)]
          · rw [if_neg h2, if_neg (by omega)]
      have HSO : Hid (∀ (i : BW wr) v, RowZ (i.v.setCell ⟨g7, k, none⟩ v) g8 .u32 4 30 (fun t => (wdB (rk 0) t : Int))) := fun i v => (hr8.next i.below).other (by have := HG.out; omega) _ v
      have HSB : Hid (∀ (i : BW wr) v, Below G w1 (i.v.setCell ⟨g7, k, none⟩ v)) := fun i v => below_setCell (hbel.trans (i.below.mono (Nat.le_trans HG.out.1 (Nat.le_of_lt hr7.lt)))) HG.out.1 _ v
      generalize (wdB (xoB b (rk 0)) k : Int) = Z at *
      generalize (wdB b k : Int) = X at *
      generalize (wdB (rk 0) k : Int) = Y at *
      clear hbel hr7 hr8 hz
      go_wp2_with fail
      refine wp_region_put (by simp) (by kernel_rfl) rfl (by kernel_rfl) (by kernel_rfl) (by kernel_rfl) ?_
      simp only [List.dropLast_cons_cons, List.dropLast_singleton, List.getLast_cons_cons, List.getLast_singleton, List.cons_append, List.nil_append, mute]
      repeat (go_big_quiet_step (fail))
      refine wpQuiet_nil ?_
      intro i
      have d1 := HTW.out i
      have f1 := HFW.out i
      rw [HXR.out]
      clear hc7 hc8
      go_wp2_with fail
      go_roundw
      case rel => exact ⟨k + 1, by omega, by go_num, HST.out _, HSO.out _ _, HSB.out _ _⟩
      case measure => simp [intOf]; omega
    · obtain rfl : k = 4 := by omega
      have HR7 : Hid (RowZ wr g7 .u32 4 30 (fun t => (wdB (enTo (n + 6) rk b 0) t : Int))) := hr7.congr fun t ht => by rw [if_pos ht]; rfl
      have HR8 : Hid (∃ K, RowZ wr g8 .u32 4 30 (fun t => (wdB K t : Int))) := ⟨_, hr8⟩
      have HBL := hidD hbel
      clear hr7 hr8 hbel
      generalize hRR : n + 6 = R at *
      have HRR : Hid (6 ≤ R ∧ R ≤ 14) := by show 6 ≤ R ∧ R ≤ 14; have := HN8.out; omega
      clear hRR
      have HAC : Hid (∀ wA, Below G w1 wA → AcAt wA w.heap.size p n key) := fun wA h => HA1.out.next (by rw [HGE.out]; exact h)
      have HGW : Hid (∀ wA, Below G w1 wA → G ≤ wA.heap.size) := fun wA h => by have := h.size; rw [HGE.out] at this; exact this
      obtain ⟨wl, hwl⟩ : ∃ wl : World, wl = wr := ⟨_, rfl⟩
      subst hwl
      go_wp2_with fail
      go_loopw [10] (fun iv wr => ∃ q r : Nat, q + 1 = r ∧ r ≤ R ∧ iv = .int .i64 (r : Int) ∧ RowZ wr g7 .u32 4 30 (fun t => (wdB (enTo R rk b q) t : Int)) ∧ (∃ K, RowZ wr g8 .u32 4 30 (fun t => (wdB K t : Int))) ∧ Below G w1 wr) (fun iv _ => R - (intOf iv).toNat)
      case atStart => exact ⟨0, 1, rfl, by have := HRR.out.1; omega, rfl, HR7.out, HR8.out, HBL.out⟩
      case round =>
        clear HR7 HR8 HBL
        obtain ⟨q, r, hqr, hrR, rfl, hr7, ⟨K0, hr8⟩, hbel⟩ := hrel
        have HQR := hidD hqr
        have HR7 := hidD hr7
        have HR8 := hidD (HRC.out hr8)
        have HBL := hidD hbel
        clear hr7 hr8 hbel hqr
        by_cases hlt : r < R
        · have hlti : (r : Int) < (R : Int) := by omega
          have HRR2 : Hid (r ≤ R) := hrR
          have hr14 : r ≤ 14 := by have := HRR.out.2; omega
          go_wp2_with (first
            | (go_at_call 9; refine (HRO.out p _ (HAC.out _ HBL.out)).mono ?_; rintro e w6 ⟨rfl, hb⟩; have HA7 := hidD (HR7.out.next hb); have HA8 := hidD ((hb.block _ (row_lt HR8.out)).trans HR8.out); have HAB : Hid (Below G w1 w6) := HBL.out.trans (hb.mono (HGW.out _ HBL.out)); clear hb)
            | (go_at_call 8; refine (HRD.out p (w6.alloc (.cells C0 (30 : TypeId))) r HRR2.out (HAC.out _ (HAB.out.alloc (HGW.out _ HAB.out) _))).mono ?_; rintro e w7 ⟨rfl, hb⟩; have HD7 : Hid (RowZ w7 g7 .u32 4 30 (fun t => (wdB (enTo R rk b q) t : Int))) := (HA7.out.next ((Below.refl _ _).alloc (Nat.le_refl _) _)).next hb; have HD8 : Hid (w7.heap[g8]? = some (.cells (CR K0) (30 : TypeId) (0, 0))) := (hb.block _ (Nat.lt_of_lt_of_le (row_lt HA8.out) (by simp))).trans ((((Below.refl w6.heap.size w6).alloc (Nat.le_refl _) (.cells C0 (30 : TypeId))).block _ (row_lt HA8.out)).trans HA8.out); have HDT : Hid (w7.heap[w6.heap.size]? = some (.cells C0 (30 : TypeId) (0, 0))) := (hb.block _ (by simp)).trans (heap_alloc_last _ _); have HDB : Hid (Below G w1 w7) := (HAB.out.alloc (HGW.out _ HAB.out) _).trans (hb.mono (by have := HGW.out _ HAB.out; simp; omega)); have HGT : Hid (g8 < w6.heap.size) := row_lt HA8.out; clear hb HA7 HA8 HAB)
            | (refine wpList_store_row rfl 30 _ _ rfl g8 (CR (rk r)) rfl rfl 30 (CR K0) HD8.out (HI.out _) (HSC.out _ _) (HONE.out _) ?_; have HE8 := hidD (HCR.out (setRow_heap _ _ _ (CR (rk r)) _ _ HD8.out)); have HE7 : Hid (RowZ (w7.setRow g8 (CR (rk r))) g7 .u32 4 30 (fun t => (wdB (enTo R rk b q) t : Int))) := (setRow_other _ _ _ _ (Nat.ne_of_lt HG.out.2)).trans HD7.out; have HET : Hid (RowZ (w7.setRow g8 (CR (rk r))) w6.heap.size .u32 4 30 (fun _ => 0)) := HC0.out ((setRow_other _ _ _ _ (Nat.ne_of_gt HGT.out)).trans HDT.out); have HEB : Hid (Below G w1 (w7.setRow g8 (CR (rk r)))) := below_setRow HDB.out (Nat.le_trans HG.out.1 (Nat.le_of_lt HG.out.2)) _; clear HD7 HD8 HDT HDB HR7 HR8 HBL; generalize w6.heap.size = gt at *; generalize w7.setRow g8 (CR (rk r)) = w8 at *))
          have hgt : g8 < gt := HGT.out
          have HGT := hidD hgt
          clear hgt
          have HSN : Hid (∀ t, t < 4 → wordS (tcB (enTo R rk b q) (rk r) t 4) = wdB (enTo R rk b r) t) := fun t ht => by
            rw [tc_all _ _ _ ht]
            have h1 := HQR.out
            subst h1
            show _ = wdB (xoB (midB R (q + 1) (shB (sbB (enTo R rk b q)))) (rk (q + 1))) t
            rw [midB, if_pos (by omega)]
          generalize hss : enTo R rk b q = S at *
          clear hss
          generalize hs' : enTo R rk b r = S' at *
          have HS' := hidD hs'
          clear hs'
          obtain ⟨wm, hwm⟩ : ∃ wm : World, wm = wr := ⟨_, rfl⟩
          subst hwm
          go_loopw [12] (fun iv wr => ∃ i : Nat, i ≤ 4 ∧ iv = .int .i64 (i : Int) ∧ RowZ wr gt .u32 4 30 (fun t => ((if t < i then wdB S' t else 0 : Nat) : Int)) ∧ RowZ wr g7 .u32 4 30 (fun t => (wdB S t : Int)) ∧ RowZ wr g8 .u32 4 30 (fun t => (wdB (rk r) t : Int)) ∧ Below G w1 wr) (fun iv _ => 4 - (intOf iv).toNat)
          case atStart => exact ⟨0, Nat.zero_le _, rfl, HET.out.congr fun t _ => by rw [if_neg (by omega)]; rfl, HE7.out, HE8.out, HEB.out⟩
          case round =>
            clear HET HE7 HE8 HEB
            obtain ⟨i, hi, rfl, hrt, hr7, hr8, hbel⟩ := hrel
            have HBL := hidD hbel
            have HR7 := hidD hr7
            have HR8 := hidD hr8
            by_cases hi4 : i < 4
            · have hi4i : (i : Int) < 4 := by omega
              have hc8 : wr.cell? ⟨g8, i, none⟩ = some (.int .u32 (wdB (rk r) i : Int)) := hr8.cell hi4
              have hct : wr.cell? ⟨gt, i, none⟩ = some (.int .u32 ((if i < i then wdB S' i else 0 : Nat) : Int)) := hrt.cell hi4
              have hft : wr.frozen? ⟨gt, i, none⟩ = false := hrt.frozen _
              have HT1 : Hid (RowZ (wr.setCell ⟨gt, i, none⟩ (.int .u32 (wdB (rk r) i : Int))) gt .u32 4 30 (fun t => ((if t < i then wdB S' t else if t = i then wordS (tcB S (rk r) i 0) else 0 : Nat) : Int))) := (hrt.set hi4 _).congr fun t ht => by
                by_cases h : t = i
                · subst h; rw [if_pos rfl, if_neg (Nat.lt_irrefl _), if_pos rfl]; rfl
                · rw [if_neg h]
                  by_cases h2 : t < i
                  · rw [if_pos h2, if_pos h2]
                  · rw [if_neg h2, if_neg h2, if_neg h]
              have H71 : Hid (RowZ (wr.setCell ⟨gt, i, none⟩ (.int .u32 (wdB (rk r) i : Int))) g7 .u32 4 30 (fun t => (wdB S t : Int))) := hr7.other (by have := HG.out; have := HGT.out; omega) _ _
              have H81 : Hid (RowZ (wr.setCell ⟨gt, i, none⟩ (.int .u32 (wdB (rk r) i : Int))) g8 .u32 4 30 (fun t => (wdB (rk r) t : Int))) := hr8.other (by have := HGT.out; omega) _ _
              have HB1' : Hid (Below G w1 (wr.setCell ⟨gt, i, none⟩ (.int .u32 (wdB (rk r) i : Int)))) := below_setCell hbel (by have := HG.out; have := HGT.out; omega) _ _
              rw [if_neg (Nat.lt_irrefl _)] at hct
              clear hrt hr7 hr8 hbel HBL HR7 HR8
              generalize (wdB (rk r) i : Int) = Y at *
              go_wp2_with fail
              clear hc8 hct hft
              generalize wr.setCell ⟨gt, i, none⟩ (.int .u32 Y) = w9 at *
              obtain ⟨wk, hwk⟩ : ∃ wk : World, wk = wr := ⟨_, rfl⟩
              subst hwk
              go_loopw [13] (fun jv wr => ∃ j : Nat, j ≤ 4 ∧ jv = .int .i64 (j : Int) ∧ RowZ wr gt .u32 4 30 (fun t => ((if t < i then wdB S' t else if t = i then wordS (tcB S (rk r) i j) else 0 : Nat) : Int)) ∧ RowZ wr g7 .u32 4 30 (fun t => (wdB S t : Int)) ∧ RowZ wr g8 .u32 4 30 (fun t => (wdB (rk r) t : Int)) ∧ Below G w1 wr) (fun jv _ => 4 - (intOf jv).toNat)
              case atStart => exact ⟨0, Nat.zero_le _, rfl, HT1.out, H71.out, H81.out, HB1'.out⟩
              case round =>
                clear HT1 H71 H81 HB1'
                obtain ⟨j, hj, rfl, hrt, hr7, hr8, hbel⟩ := hrel
                by_cases hj4 : j < 4
                · have hj4i : (j : Int) < 4 := by omega
                  have hij : (i : Int) + (j : Int) = ((i + j : Nat) : Int) := by omega
                  have hwr : IntKind.i64.wrap ((i : Int) + (j : Int)) = ((i + j : Nat) : Int) := by rw [IntKind.wrap_i64]; omega
                  have hrm : ((i + j : Nat) : Int) % 4 = (((i + j) % 4 : Nat) : Int) := by omega
                  have hrt2 : Int.tmod ((i + j : Nat) : Int) 4 = (((i + j) % 4 : Nat) : Int) := by rw [Int.tmod_eq_emod_of_nonneg (by omega)]; omega
                  have hm4 : (i + j) % 4 < 4 := by omega
                  have hc7 : wr.cell? ⟨g7, (i + j) % 4, none⟩ = some (.int .u32 (wdB S ((i + j) % 4) : Int)) := hr7.cell hm4
                  have hk8 : (8 : Int) * j = ((8 * j : Nat) : Int) := by omega
                  have hk24 : (24 : Int) - ((8 * j : Nat) : Int) = ((24 - 8 * j : Nat) : Int) := by omega
                  have hk32 : (32 : Int) - ((8 * j : Nat) : Int) = ((32 - 8 * j : Nat) : Int) := by omega
                  have hkl1 : 8 * j ≤ 24 := by omega
                  have hkl2 : 32 - 8 * j ≤ 32 := by omega
                  have hkl3 : 24 - 8 * j ≤ 24 := by omega
                  have hB : (wdB S ((i + j) % 4) : Int) / 2 ^ (24 - 8 * j) % 256 = ((S (4 * ((i + j) % 4) + j)).toNat : Int) := by
                    rw [← word_byte (fun k => S (4 * ((i + j) % 4) + k)) j hj4]; unfold wdB; simp
                  have hcl : colS (S (4 * ((i + j) % 4) + j)) < 4294967296 := by unfold colS; exact word_lt _
                  have hOR : bits .or .u32 ((colS (S (4 * ((i + j) % 4) + j)) : Int) / 2 ^ (8 * j)) ((colS (S (4 * ((i + j) % 4) + j)) : Int) * 2 ^ (32 - 8 * j) % 4294967296) = ((colS (S (4 * ((i + j) % 4) + j)) / 2 ^ (8 * j) ||| colS (S (4 * ((i + j) % 4) + j)) * 2 ^ (32 - 8 * j) % 4294967296 : Nat) : Int) := by
                    rw [show (colS (S (4 * ((i + j) % 4) + j)) : Int) / 2 ^ (8 * j) = ((colS (S (4 * ((i + j) % 4) + j)) / 2 ^ (8 * j) : Nat) : Int) by simp, show (colS (S (4 * ((i + j) % 4) + j)) : Int) * 2 ^ (32 - 8 * j) % 4294967296 = ((colS (S (4 * ((i + j) % 4) + j)) * 2 ^ (32 - 8 * j) % 4294967296 : Nat) : Int) by simp,
                      u32_or_nat _ _ (Nat.lt_of_le_of_lt (Nat.div_le_self _ _) hcl) (Nat.mod_lt _ (by omega))]
                  have hOL : (colS (S (4 * ((i + j) % 4) + j)) / 2 ^ (8 * j) ||| colS (S (4 * ((i + j) % 4) + j)) * 2 ^ (32 - 8 * j) % 4294967296) < 4294967296 := Nat.or_lt_two_pow (n := 32) (Nat.lt_of_le_of_lt (Nat.div_le_self _ _) hcl) (Nat.mod_lt _ (by omega))
                  have hXR : bits .xor .u32 (wordS (tcB S (rk r) i j) : Int) ((colS (S (4 * ((i + j) % 4) + j)) / 2 ^ (8 * j) ||| colS (S (4 * ((i + j) % 4) + j)) * 2 ^ (32 - 8 * j) % 4294967296 : Nat) : Int) = (wordS (tcB S (rk r) i (j + 1)) : Int) := by
                    rw [u32_xor_nat _ _ (word_lt _) hOL, tc_next S (rk r) i j hj4]
                  have HCK := hidD (fun w => HCO.out (S (4 * ((i + j) % 4) + j)) w)
                  have HRT := hidD hrt
                  have HR7 := hidD hr7
                  have HR8 := hidD hr8
                  have HBL := hidD hbel
                  have HTN : Hid (∀ w' : World, RowZ w' gt .u32 4 30 (fun t => ((if t < i then wdB S' t else if t = i then wordS (tcB S (rk r) i j) else 0 : Nat) : Int)) → RowZ (w'.setCell ⟨gt, i, none⟩ (.int .u32 (wordS (tcB S (rk r) i (j + 1)) : Int))) gt .u32 4 30 (fun t => ((if t < i then wdB S' t else if t = i then wordS (tcB S (rk r) i (j + 1)) else 0 : Nat) : Int))) := fun w' h => (h.set hi4 _).congr fun t ht => by
                    by_cases h : t = i
                    · subst h; rw [if_pos rfl, if_neg (Nat.lt_irrefl _), if_pos rfl]
                    · rw [if_neg h]
                      by_cases h2 : t < i
                      · rw [if_pos h2, if_pos h2]
                      · rw [if_neg h2, if_neg h2, if_neg h, if_neg h]
                  have HTC : Hid (∀ w' : World, RowZ w' gt .u32 4 30 (fun t => ((if t < i then wdB S' t else if t = i then wordS (tcB S (rk r) i j) else 0 : Nat) : Int)) → w'.cell? ⟨gt, i, none⟩ = some (.int .u32 (wordS (tcB S (rk r) i j) : Int))) := fun w' h => by rw [h.cell hi4, if_neg (Nat.lt_irrefl _), if_pos rfl]
                  clear hrt hr7 hr8 hbel hOL hcl
                  generalize ((colS (S (4 * ((i + j) % 4) + j)) / 2 ^ (8 * j) ||| colS (S (4 * ((i + j) % 4) + j)) * 2 ^ (32 - 8 * j) % 4294967296 : Nat) : Int) = OO at *
                  generalize hT2 : (wordS (tcB S (rk r) i (j + 1)) : Int) = T2 at *
                  have HT2 := hidD hT2
                  generalize hT1 : (wordS (tcB S (rk r) i j) : Int) = T1 at *
                  clear hT1 hT2
                  generalize (S (4 * ((i + j) % 4) + j)).toNat = SB at *
                  generalize colS (S (4 * ((i + j) % 4) + j)) = CK at *
                  generalize wdB S ((i + j) % 4) = WW at *
                  generalize (i + j) % 4 = m at *
                  generalize i + j = ij at *
                  generalize 24 - 8 * j = n24 at *
                  generalize 32 - 8 * j = n32 at *
                  generalize 8 * j = m8 at *
                  go_wp2_with (go_at_call 10; refine (HCK.out _).mono ?_; rintro e w10 ⟨rfl, hb⟩; have HU := hidD (HRT.out.next hb); have HU7 := hidD (HR7.out.next hb); have HU8 := hidD (HR8.out.next hb); have HUB : Hid (Below G w1 w10) := HBL.out.trans (hb.mono (HGW.out _ HBL.out)); have hct := HTC.out _ HU.out; have hft := HU.out.frozen i; clear hb)
                  go_roundw
                  case rel => exact ⟨j + 1, by omega, by go_num, HTN.out _ HU.out, HU7.out.other (by have := HG.out; have := HGT.out; omega) _ _, HU8.out.other (by have := HGT.out; omega) _ _, below_setCell HUB.out (by have := HG.out; have := HGT.out; omega) _ _⟩
                  case measure => simp [intOf]; omega
                · obtain rfl : j = 4 := by omega
                  go_wp2_with fail
                  go_roundw
                  case rel => exact ⟨i + 1, by omega, by go_num, hrt.congr fun t ht => by
                    by_cases h : t = i
                    · subst h; rw [if_neg (Nat.lt_irrefl _), if_pos rfl, if_pos (by omega), HSN.out _ ht]
                    · by_cases h2 : t < i
                      · rw [if_pos h2, if_pos (by omega)]
                      · rw [if_neg h2, if_neg h, if_neg (by omega)], hr7, hr8, hbel⟩
                  case measure => simp [intOf]; omega
            · obtain rfl : i = 4 := by omega
              have HRT := hidD (HRC.out (c := S') (hrt.congr fun t ht => by rw [if_pos ht]))
              have HR7' := hidD (HRC.out hr7)
              clear hrt hr7 hr8 hbel
              go_wp2_with (first | (refine wpList_load_row rfl 30 _ rfl gt rfl 30 (CR S') (0, 0) _ HRT.out Try.underlying30 rfl (HI.out _) ?_) | (refine wpList_store_row rfl 30 _ _ rfl g7 (CR S') rfl rfl 30 (CR S) HR7'.out (HI.out _) (HSC.out _ _) (HONE.out _) ?_))
              have HZ7 := hidD (HCR.out (setRow_heap _ _ _ (CR S') _ _ HR7'.out))
              have HZ8 : Hid (RowZ (wr.setRow g7 (CR S')) g8 .u32 4 30 (fun t => (wdB (rk r) t : Int))) := (setRow_other _ _ _ _ (Nat.ne_of_gt HG.out.2)).trans HR8.out
              have HZB : Hid (Below G w1 (wr.setRow g7 (CR S'))) := below_setRow HBL.out HG.out.1 _
              generalize wr.setRow g7 (CR S') = wz at *
              go_roundw
              case rel =>
                first
                | exact ⟨r, r + 1, rfl, by omega, by go_num, by rw [HS'.out]; exact HZ7.out, ⟨_, HZ8.out⟩, HZB.out⟩
                | ((repeat apply Exists.intro); refine And.intro ?_ rfl; exact ⟨r, r + 1, rfl, by omega, by go_num, by rw [HS'.out]; exact HZ7.out, ⟨_, HZ8.out⟩, HZB.out⟩)
              case measure => simp [intOf]; omega
        · have hnl : ¬ (r : Int) < (R : Int) := by omega
          have HRE : Hid (r = R) := by show r = R; omega
          have HRL : Hid (R ≤ R) := Nat.le_refl _
          clear hlt hrR
          have HOUT : Hid (∀ i j, i < 4 → j < 4 → enS R rk b (4 * i + j) = subS (enTo R rk b q (4 * ((i + j) % 4) + j)) ^^^ rk R (4 * i + j)) := fun i j hi hj => by
            have h1 := HQR.out.trans HRE.out
            unfold enS
            conv => lhs; rw [← h1]
            show xoB (midB (q + 1) (q + 1) (shB (sbB (enTo (q + 1) rk b q)))) (rk (q + 1)) (4 * i + j) = _
            rw [midB, if_neg (Nat.lt_irrefl _), h1]
            unfold xoB shB sbB
            rw [show (4 * i + j) / 4 = i by omega, show (4 * i + j) % 4 = j by omega]
          go_wp2_with (first
            | (go_at_call 9; refine (HRO.out p _ (HAC.out _ HBL.out)).mono ?_; rintro e w6 ⟨rfl, hb⟩; have HA7 := hidD (HR7.out.next hb); have HA8 := hidD ((hb.block _ (row_lt HR8.out)).trans HR8.out); have HAB : Hid (Below G w1 w6) := HBL.out.trans (hb.mono (HGW.out _ HBL.out)); clear hb HR7 HR8 HBL)
            | (go_at_call 9; refine (HRO.out p _ (HAC.out _ HAB.out)).mono ?_; rintro e w7 ⟨rfl, hb⟩; have HC7 := hidD (HA7.out.next hb); have HC8 := hidD ((hb.block _ (row_lt HA8.out)).trans HA8.out); have HCB : Hid (Below G w1 w7) := HAB.out.trans (hb.mono (HGW.out _ HAB.out)); clear hb HA7 HA8 HAB)
            | (go_at_call 8; refine (HRD.out p w7 R HRL.out (HAC.out _ HCB.out)).mono ?_; rintro e w8 ⟨rfl, hb⟩; have HD7 := hidD (HC7.out.next hb); have HD8 := hidD ((hb.block _ (row_lt HC8.out)).trans HC8.out); have HDB : Hid (Below G w1 w8) := HCB.out.trans (hb.mono (HGW.out _ HCB.out)); clear hb HC7 HC8 HCB)
            | (refine wpList_store_row rfl 30 _ _ rfl g8 (CR (rk R)) rfl rfl 30 (CR K0) HD8.out (HI.out _) (HSC.out _ _) (HONE.out _) ?_; have HE8 := hidD (HCR.out (setRow_heap _ _ _ (CR (rk R)) _ _ HD8.out)); have HE7 : Hid (RowZ (w8.setRow g8 (CR (rk R))) g7 .u32 4 30 (fun t => (wdB (enTo R rk b q) t : Int))) := (setRow_other _ _ _ _ (Nat.ne_of_lt HG.out.2)).trans HD7.out; have HEB : Hid (Below G w1 (w8.setRow g8 (CR (rk R)))) := below_setRow HDB.out (Nat.le_trans HG.out.1 (Nat.le_of_lt HG.out.2)) _; clear HD7 HD8 HDB; generalize w8.setRow g8 (CR (rk R)) = w9 at *))
          generalize enTo R rk b q = S at *
          generalize hOU : enS R rk b = OU at *
          clear hOU
          have HBS : Hid (g8 < w9.heap.size) := HE8.out.lt
          generalize hBB : w9.heap.size = BB at *
          have HBB : Hid (w9.heap.size = BB) := hBB
          clear hBB
          have HGS : Hid (∀ wA, Below BB w9 wA → BB ≤ wA.heap.size) := fun wA h => by have := h.size; rw [HBB.out] at this; exact this
          have HKS : Hid (∀ wA, Below BB w9 wA → RowZ wA g7 .u32 4 30 (fun t => (wdB S t : Int)) ∧ RowZ wA g8 .u32 4 30 (fun t => (wdB (rk R) t : Int)) ∧ Below G w1 wA) := fun wA h => ⟨HE7.out.below h (by have := HG.out; have := HBS.out; omega), HE8.out.below h HBS.out, HEB.out.trans (h.mono (by have := HGW.out _ HEB.out; rw [HBB.out] at this; exact this))⟩
          clear HE7 HE8 HEB
          obtain ⟨wm, hwm⟩ : ∃ wm : World, wm = wr := ⟨_, rfl⟩
          subst hwm
          go_loopw [16, 17] (fun ov iv wr => ∃ i : Nat, i ≤ 4 ∧ iv = .int .i64 (i : Int) ∧ wr.ownsRow BB 5 1 ov (4 * i) (((toL OU).take (4 * i)).map encB) ∧ Below BB w9 wr) (fun _ iv _ => 4 - (intOf iv).toNat)
          case atStart => exact ⟨0, Nat.zero_le _, rfl, World.ownsRow_nil _ _ _ _, Below.refl _ _⟩
          case round =>
            obtain ⟨i, hi, rfl, hown, hbel⟩ := hrel
            have HOW := hidD hown
            have HBE := hidD hbel
            clear hown hbel
            by_cases hi4 : i < 4
            · have hi4i : (i : Int) < 4 := by omega
              obtain ⟨wk, hwk⟩ : ∃ wk : World, wk = wr := ⟨_, rfl⟩
              subst hwk
              go_wp2_with fail
              go_loopw [16, 18] (fun ov jv wr => ∃ j : Nat, j ≤ 4 ∧ jv = .int .i64 (j : Int) ∧ wr.ownsRow BB 5 1 ov (4 * i + j) (((toL OU).take (4 * i + j)).map encB) ∧ Below BB w9 wr) (fun _ jv _ => 4 - (intOf jv).toNat)
              case atStart => exact ⟨0, Nat.zero_le _, rfl, HOW.out, HBE.out⟩
              case round =>
                clear HOW HBE
                obtain ⟨j, hj, rfl, hown, hbel⟩ := hrel
                have HOW := hidD hown
                have HBE := hidD hbel
                clear hown hbel
                by_cases hj4 : j < 4
                · have hj4i : (j : Int) < 4 := by omega
                  obtain ⟨k7, k8, kb⟩ := HKS.out _ HBE.out
                  have HK7 := hidD k7
                  have HK8 := hidD k8
                  clear k7 k8 kb
                  have hij : (i : Int) + (j : Int) = ((i + j : Nat) : Int) := by omega
                  have hwr : IntKind.i64.wrap ((i : Int) + (j : Int)) = ((i + j : Nat) : Int) := by rw [IntKind.wrap_i64]; omega
                  have hrm : ((i + j : Nat) : Int) % 4 = (((i + j) % 4 : Nat) : Int) := by omega
                  have hrt2 : Int.tmod ((i + j : Nat) : Int) 4 = (((i + j) % 4 : Nat) : Int) := by rw [Int.tmod_eq_emod_of_nonneg (by omega)]; omega
                  have hm4 : (i + j) % 4 < 4 := by omega
                  have hc7 : ∀ x : KB wr [g7, g8], x.v.cell? ⟨g7, (i + j) % 4, none⟩ = some (.int .u32 (wdB S ((i + j) % 4) : Int)) := fun x => (x.cell (by simp) _).trans (HK7.out.cell hm4)
                  have hc8 : ∀ x : KB wr [g7, g8], x.v.cell? ⟨g8, i, none⟩ = some (.int .u32 (wdB (rk R) i : Int)) := fun x => (x.cell (by simp) _).trans (HK8.out.cell hi4)
                  have hk8 : (8 : Int) * j = ((8 * j : Nat) : Int) := by omega
                  have hk24 : (24 : Int) - ((8 * j : Nat) : Int) = ((24 - 8 * j : Nat) : Int) := by omega
                  have hkl1 : 8 * j ≤ 24 := by omega
                  have hkl3 : 24 - 8 * j ≤ 24 := by omega
                  have hB : (wdB S ((i + j) % 4) : Int) / 2 ^ (24 - 8 * j) % 256 = ((S (4 * ((i + j) % 4) + j)).toNat : Int) := by
                    rw [← word_byte (fun k => S (4 * ((i + j) % 4) + k)) j hj4]; unfold wdB; simp
                  have hB2 : (wdB (rk R) i : Int) / 2 ^ (24 - 8 * j) % 256 = ((rk R (4 * i + j)).toNat : Int) := by
                    rw [← word_byte (fun k => rk R (4 * i + k)) j hj4]; unfold wdB; simp
                  have HXR : Hid (bits .xor .u8 ((subS (S (4 * ((i + j) % 4) + j))).toNat : Int) ((rk R (4 * i + j)).toNat : Int) = ((OU (4 * i + j)).toNat : Int)) := by
                    show _ = _
                    rw [HOUT.out i j hi4 hj4, UInt8.toNat_xor]; exact u8_xor_nat _ _ (u8_lt _) (u8_lt _)
                  have HTK : Hid ((toL OU).take (4 * i + (j + 1)) = (toL OU).take (4 * i + j) ++ [OU (4 * i + j)]) := to_take OU (4 * i + j) (by omega)
                  have HSK := hidD (fun w => HSU.out (S (4 * ((i + j) % 4) + j)) w)
                  have HXB := hidD (fun w' => by_new w' (OU (4 * i + j)) _ rfl)
                  have HIJ : Hid (4 * i + (j + 1) = 4 * i + j + 1) := rfl
                  rw [HIJ.out] at HTK
                  have HDB : Hid (4 * i + j ≤ 16) := by show _ ≤ _; omega
                  generalize OU (4 * i + j) = xv at *
                  generalize ((subS (S (4 * ((i + j) % 4) + j))).toNat : Int) = SU at *
                  generalize (S (4 * ((i + j) % 4) + j)).toNat = SB at *
                  generalize ((rk R (4 * i + j)).toNat : Int) = RB at *
                  generalize wdB S ((i + j) % 4) = WW at *
                  generalize wdB (rk R) i = W8 at *
                  generalize hI4 : 4 * i + j = I4 at *
                  have HI4 := hidD hI4
                  clear hI4
                  generalize (i + j) % 4 = m at *
                  generalize i + j = ij at *
                  generalize 24 - 8 * j = n24 at *
                  generalize 8 * j = m8 at *
                  go_wp2_with fail
                  refine wp_region_loud0 [true, true, true, true, true, true, true, true, true, true, true, true, true, false, true, true, true, true, true, true, true, true, true, false, false, false, false] [g7, g8] (by kernel_rfl) (by kernel_rfl) (by kernel_rfl) (by kernel_rfl) (by kernel_rfl) (fun _ _ _ _ _ h => h) ?_
                  simp only [qPick, lPick]
                  repeat (go_big_quiet_step (fail))
                  refine wpQuiet_nil ?_
                  simp only [LoudW]
                  clear hc7 hc8
                  have HKD : Hid (∀ w', Below BB w9 w' → ∃ x : KB wr [g7, g8], w' = x.v) := fun w' hb => ⟨⟨w', fun y hy => by
                    obtain ⟨k7, k8, _⟩ := HKS.out _ hb
                    rcases (show y = g7 ∨ y = g8 by simpa using hy) with h | h <;> subst h
                    · exact Eq.trans k7 HK7.out.symm
                    · exact Eq.trans k8 HK8.out.symm⟩, rfl⟩
                  have HBD : Hid (Below BB w9 wr.drew) := HBE.out.drew
                  have HOD := hidD (row_below HOW.out ((Below.refl wr.heap.size wr).drew))
                  clear HOW HBE HK7 HK8
                  generalize wr.drew = wd at *
                  go_wp2_with (go_at_call 5; refine (HSK.out _).mono ?_; rintro e wa ⟨rfl, hb⟩; have HOa := hidD (row_below HOD.out hb); have HBa : Hid (Below BB w9 wa) := HBD.out.trans (hb.mono (HGS.out _ HBD.out)); clear hb)
                  refine ⟨HKD.out _ HBa.out, ?_⟩
                  go_wp2_with fail
                  refine ⟨HKD.out _ HBa.out, ?_⟩
                  rw [HXR.out]
                  go_wp2_with fail
                  have HXW := hidD (HXB.out wa)
                  have HOb := hidD (row_below HOa.out ((Below.refl wa.heap.size wa).alloc (Nat.le_refl _) (.cells #[.int .u8 (xv.toNat : Int)] (5 : TypeId))))
                  have HBb : Hid (Below BB w9 (wa.alloc (.cells #[.int .u8 (xv.toNat : Int)] (5 : TypeId)))) := HBa.out.alloc (HGS.out _ HBa.out) _
                  refine ⟨HKD.out _ HBb.out, ?_⟩
                  generalize wa.heap.size = gx at *
                  generalize wa.alloc (.cells #[.int .u8 (xv.toNat : Int)] (5 : TypeId)) = wb at *
                  go_wp2_with (at_builtin; refine wpList_append_by rfl _ _ rfl BB u16 I4 (((toL OU).take I4).map encB) rfl HOb.out (.slice (some ⟨gx, 0, none⟩) 1 1) [xv] rfl HXW.out (by have := HDB.out; simp; omega) (HGS.out _ HBb.out) ?_; intro v4 w4 hown4 hg4; have HO4 := hidD hown4; have HB4 : Hid (Below BB w9 w4) := row_grown HOb.out HBb.out hg4 (HGS.out _ HBb.out); clear hown4 hg4)
                  refine ⟨HKD.out _ HB4.out, ?_⟩
                  go_wp2_with fail
                  refine ⟨HKD.out _ HB4.out, ?_⟩
                  go_wp2_with fail
                  go_roundw
                  case rel => exact ⟨j + 1, by omega, by go_num, by rw [show 4 * i + (j + 1) = I4 + 1 by rw [← HI4.out]; rfl, HTK.out, List.map_append]; exact HO4.out, HB4.out⟩
                  case measure => simp [intOf]; omega
                · obtain rfl : j = 4 := by omega
                  go_wp2_with fail
                  go_roundw
                  case rel => exact ⟨i + 1, by omega, by go_num, by rw [show 4 * (i + 1) = 4 * i + 4 by omega]; exact HOW.out, HBE.out⟩
                  case measure => simp [intOf]; omega
            · obtain rfl : i = 4 := by omega
              have hby : ByAt wr u16 (toL OU) := row_by (base := BB) (e := 5) (by
                have h1 := HOW.out
                have h2 : (toL OU).length = 16 := to_len OU
                rw [List.take_of_length_le (by omega)] at h1
                rw [h2]; exact h1)
              have HBY := hidD hby
              have HCV := hidD (fun (w' : World) (v' : Value) (h : ByAt w' v' (toL OU)) => conv_by h)
              obtain ⟨a3, c3, hv3, _⟩ := hby.shape
              subst hv3
              clear HOW
              have HBW : Hid (Below w.heap.size w wr) := HB1.out.trans ((HKS.out _ HBE.out).2.2.mono (by have := HB1.out.size; rw [HGE.out] at this; exact this))
              have hl1 : wrap64 ((LL : Int) / 4) = (LL : Int) / 4 := by have h1 := HLL.out; have h2 := HRR.out.2; unfold wrap64; omega
              have hl2 : wrap64 ((LL : Int) / 4 + 6) = (R : Int) := by have h1 := HLL.out; have h2 := HRR.out.2; unfold wrap64; omega
              go_wp2_with (first
                | (go_at_call 11; refine (HEN.out p _ (HAC.out _ (HKS.out _ HBE.out).2.2) HBW.out).mono ?_; rintro e wA ⟨vo, rfl, hx, hb⟩; have hcv1 := HCV.out _ _ hx.by'; have hcv2 := HCV.out _ _ (HBY.out.next hb); obtain ⟨a4, c4, hv4, _⟩ := hx.by'.shape; subst hv4; have HAA : Hid (AcAt wA w.heap.size p n key) := (HAC.out _ (HKS.out _ HBE.out).2.2).next hb; have HBA : Hid (Below w.heap.size w wA) := Below.next HBW.out hb; clear hx hb)
                | (go_at_call 9; refine (HRO.out p _ HAA.out).mono ?_; rintro e wB ⟨rfl, hb⟩; have HBF : Hid (Below w.heap.size w wB) := Below.next HBA.out hb; clear hb))
              go_ret
              exact ⟨rfl, HBF.out⟩
end Go.Proofs.Ytckegkknheignaa
