/- What beginnings answers. -/
import Derived.Test.YtgmbkelmgolkpabDoorSsa
namespace Go.Proofs.YtgmbkelmgolkpabDoor
open Go.RowKit
set_option linter.unusedVariables false

theorem Tryd.under66 : Tryd.prog.underlying 66 = some (.array 128 61) := by kernel_rfl
theorem below_setRow {B g : Nat} {a w : World} (h : Below B a w) (hg : B ≤ g) (cs : Array Value) : Below B a (w.setRow g cs) :=
  h.trans ⟨by simp, by simp, by simp, by simp, fun k hk => setRow_other _ _ _ _ (by omega)⟩
theorem But.row {g : Nat} {a w : World} (h : But g a w) (b : Nat) (hb : a.heap.size ≤ b) (hg : g ≤ a.heap.size) (cs : Array Value) : But g a (w.setRow b cs) :=
  ⟨below_setRow h.bel (Nat.le_trans hg hb) cs, fun i hi hn => (setRow_other _ _ _ _ (by omega)).trans (h.rest i hi hn)⟩
theorem all_take {l : List Int} {f : Int → Bool} {q : Nat} (hq : q ≤ l.length) (h : ∀ j, j < q → f (l.getD j 0) = true) : (l.take q).all f = true := by
  refine all_true fun j hj => ?_
  rw [List.length_take] at hj
  rw [List.getD_eq_getElem?_getD, List.getElem?_take, if_pos (by omega), ← List.getD_eq_getElem?_getD]
  exact h j (by omega)
set_option maxRecDepth 100000 in
set_option maxHeartbeats 6400000 in
theorem beginnings_any {p : Nat} (R : List (Nat × List Int)) (n : Nat) (hR : RuOk R n) (hn : n ≤ 128) (hRl : R.length ≤ 1048576) (T : Nat) (hT : T ≤ 128) (nul : Nat) (vr : Value) (w : World) (hp : p < w.heap.size) (hpt : w.cell? ⟨p, 2, none⟩ = some (.int .i64 (T : Int))) (hpc : w.cell? ⟨p, 4, none⟩ = some vr) (hr : RuAt w vr R) (hnu : SetAt w p 5 nul) : Calls Tryd.prog 49 #[.pointer (some ⟨p, 0, none⟩)] w fun e w' => ∃ X, e = .returned (.agg (ssC X)) ∧ (∀ x, X x < Top) ∧ BgIs R nul T X ∧ Below w.heap.size w w' := by
  have HRU := hidD hr
  obtain ⟨ar, cr, rfl, hrc⟩ := hr
  have HRC := hidD hrc
  have HRO := hidD hR
  obtain ⟨hz, hsz⟩ := zero_of_info Tryd.zero66
  have hi66 : ∀ S, (Tryd.prog.info? 66).map (·.size) = some (ssC S).size := fun S => by rw [hsz, ss_size]
  have HI66 := hidD hi66
  obtain ⟨hz76, hsz76⟩ := zero_of_info Tryd.zero76
  have HC0 := hidD hnu.c0
  have HC1 := hidD hnu.c1
  have HNT := hidD hnu.top
  have HGP := hidD hp
  have HPC := hidD hpc
  clear hrc hR hi66 hnu hpc
  have HBL0 : Hid (∀ o1 o2, Below w.heap.size w ((w.alloc o1).alloc o2)) := fun o1 o2 => ((Below.refl _ _).alloc (Nat.le_refl _) o1).alloc (by simp) o2
  have HR0 : Hid (CsAt ((w.alloc (.cells (ssC fun _ => 0) (66 : TypeId))).alloc (.cells (ssC fun _ => 0) (66 : TypeId))) w.heap.size (ssC fun _ => 0) 66) := heap_alloc2_old _ _ _
  have HS0 : Hid (CsAt ((w.alloc (.cells (ssC fun _ => 0) (66 : TypeId))).alloc (.cells (ssC fun _ => 0) (66 : TypeId))) (w.heap.size + 1) (ssC fun _ => 0) 66) := heap_alloc2_new _ _ _
  have HBI0 : Hid (biS 0 = fun _ => 0) := by show _ = _; funext x; unfold biS; rw [if_neg (by omega)]
  have hpt0 : ((w.alloc (.cells (ssC fun _ => 0) (66 : TypeId))).alloc (.cells (ssC fun _ => 0) (66 : TypeId))).cell? ⟨p, 2, none⟩ = some (.int .i64 (T : Int)) := ((HBL0.out _ _).cell (p := ⟨p, 2, none⟩) hp).trans hpt
  clear hpt
  generalize hRn : R.length = rn at *
  have HRN := hidD hRn
  clear hRn
  have HONE := hidD ss_one
  have HSZ := hidD ss_size
  generalize hZZ : (ssC fun _ => 0) = ZZ at *
  have HZZ := hidD hZZ
  clear hZZ
  go_enter Tryd.func49, Tryd.ntmps49
  go_wp2_with fail
  go_step3
  go_wp2_with fail
  have HB0 : Hid (Below w.heap.size w ((w.alloc (.cells ZZ (66 : TypeId))).alloc (.cells ZZ (66 : TypeId)))) := HBL0.out _ _
  generalize hw1 : ((w.alloc (.cells ZZ (66 : TypeId))).alloc (.cells ZZ (66 : TypeId))) = w1 at *
  clear hw1
  generalize hgg : w.heap.size = g at *
  have HGG := hidD hgg
  clear hgg hpt0
  have HGW : Hid (g + 1 ≤ w1.heap.size) := Nat.le_of_lt HS0.out.lt
  go_loopw [14] (fun i wr => ∃ k : Nat, k ≤ T ∧ i = .int .i64 k ∧ CsAt wr (g + 1) (ssC (biS k)) 66 ∧ But (g + 1) w1 wr) (fun i _ => T - (intOf i).toNat)
  case atStart => exact ⟨0, Nat.zero_le _, rfl, by rw [HBI0.out, HZZ.out]; exact HS0.out, But.refl _ _⟩
  case round =>
    obtain ⟨k, hk, rfl, hcs, hbut⟩ := hrel
    have HBU := hidD hbut
    by_cases hlt : k < T
    · have hlti : (k : Int) < T := by omega
      have hk128 : (k : Int) < 128 := by omega
      have hAD := setAdd_cs (biS k k) (g + 1) (k * 2) k (by omega) wr hcs (ss_in (by omega) (bi_top (by omega) k))
      rw [bi_self, Nat.zero_or, ss_set (by omega) (two_top (by omega)), bi_next] at hAD
      have HAD := hidD hAD
      clear hAD hcs hbut
      go_wp2_with (go_at_call 51; refine HAD.out.mono ?_; rintro e w6 ⟨rfl, hc6, hb6⟩; have HC6 := hidD hc6; have HBU6 := hidD (HBU.out.trans hb6); clear hc6 hb6)
      go_roundw
      case rel => exact ⟨k + 1, by omega, by go_num, HC6.out, HBU6.out⟩
      case measure => simp [intOf]; omega
    · obtain rfl : T = k := by omega
      have HCT := hidD hcs
      clear hcs hbut
      have HIT : Hid (∀ j x, bpIt R nul (biS T) j x < Top) := fun j => by
        induction j with
        | zero => exact fun x => bi_top (by omega) x
        | succ j ih => exact fun x => bp_top ih _ x
      have HINX : Hid (∀ j, bpIt R nul (biS T) (j + 1) = bpTo R nul (bpIt R nul (biS T) j) rn) := fun j => by
        show bpTo R nul (bpIt R nul (biS T) j) R.length = _
        rw [HRN.out]
      go_wp2_with fail
      go_step3
      go_wp2_with fail
      go_loopw [5] (fun _ wr => ∃ j : Nat, CsAt wr (g + 1) (ssC (bpIt R nul (biS T) j)) 66 ∧ But (g + 1) w1 wr) (fun _ wr => msS (rdX wr (g + 1)) 128)
      case atStart => exact ⟨0, HCT.out, HBU.out⟩
      case round =>
        obtain ⟨j, hcs, hbut⟩ := hrel
        obtain ⟨wo, hwo⟩ : ∃ wo, wo = wr := ⟨_, rfl⟩
        subst hwo
        have HCS := hidD hcs
        have HBO := hidD hbut
        have HXT := hidD (HIT.out j)
        have HXN := hidD (HINX.out j)
        generalize hX : bpIt R nul (biS T) j = X at *
        have HX := hidD hX
        clear hX
        have HLO : Hid (wo.heap[g + 1]? = some (.cells (ssC X) 66 (0, 0))) := hcs
        have HLA : Hid ((wo.alloc (.cells ZZ (66 : TypeId))).heap[wo.heap.size]? = some (.cells ZZ (66 : TypeId) (0, 0))) := heap_alloc_new _ _
        have HZS : Hid (ZZ.size = 256) := by show _ = _; rw [← HZZ.out]; exact ss_size _
        clear hcs hbut
        go_wp2_with (first | (refine wpList_load_row rfl 66 _ rfl (g + 1) rfl 66 (ssC X) (0, 0) _ HLO.out Tryd.under66 rfl (HI66.out X) ?_) | (refine wpList_store_row rfl 66 _ _ rfl wo.heap.size (ssC X) rfl rfl 66 ZZ HLA.out (HI66.out X) (by rw [HSZ.out, HZS.out]) (HONE.out X) ?_))
        go_step3
        go_wp2_with (first | (refine wpList_load_row rfl 66 _ rfl (g + 1) rfl 66 (ssC X) (0, 0) _ HLO.out Tryd.under66 rfl (HI66.out X) ?_) | (refine wpList_store_row rfl 66 _ _ rfl wo.heap.size (ssC X) rfl rfl 66 ZZ HLA.out (HI66.out X) (by rw [HSZ.out, HZS.out]) (HONE.out X) ?_))
        simp only [Act.put]
        have HBN : Hid (Below wo.heap.size wo ((wo.alloc (.cells ZZ (66 : TypeId))).setRow wo.heap.size (ssC X))) := below_setRow ((Below.refl _ _).alloc (Nat.le_refl _) _) (Nat.le_refl _) _
        have HCB : Hid (CsAt ((wo.alloc (.cells ZZ (66 : TypeId))).setRow wo.heap.size (ssC X)) wo.heap.size (ssC X) 66) := setRow_heap _ _ ZZ (ssC X) 66 (0, 0) HLA.out
        have HBI : Hid (g + 1 ≠ wo.heap.size) := by have := HCS.out.lt; show g + 1 ≠ _; omega
        generalize hw4 : ((wo.alloc (.cells ZZ (66 : TypeId))).setRow wo.heap.size (ssC X)) = w4 at *
        clear hw4
        generalize hbk : wo.heap.size = bk at *
        have HBK := hidD hbk
        clear hbk
        have HC4 : Hid (CsAt w4 (g + 1) (ssC (bpTo R nul X 0)) 66) := HCS.out.next (by rw [HBK.out]; exact HBN.out)
        have HB4 : Hid (But (g + 1) w1 w4) := HBO.out.next (by rw [HBK.out]; exact HBN.out) HGW.out
        have f4 : w4.cell? ⟨p, 4, none⟩ = some (.slice ar rn cr) := (HB4.out.cell (by have := HGW.out; omega) (by omega)).trans ((HB0.out.cell (p := ⟨p, 4, none⟩) HGP.out).trans HPC.out)
        go_step3
        go_wp2_with fail
        clear f4
        go_loopw [28] (fun i wr => ∃ k : Nat, k ≤ rn ∧ i = .int .i64 k ∧ CsAt wr (g + 1) (ssC (bpTo R nul X k)) 66 ∧ CsAt wr bk (ssC X) 66 ∧ But (g + 1) w1 wr) (fun i _ => rn - (intOf i).toNat)
        case atStart => exact ⟨0, Nat.zero_le _, rfl, HC4.out, HCB.out, HB4.out⟩
        case round =>
          obtain ⟨k, hk, rfl, hcs, hcb, hbut⟩ := hrel
          have HCK := hidD hcs
          have HCBK := hidD hcb
          have HBUK := hidD hbut
          have HYT : Hid (∀ x, bpTo R nul X k x < Top) := fun x => bp_top HXT.out k x
          by_cases hlt : k < rn
          · have hlti : (k : Int) < rn := by omega
            obtain ⟨gr, orr, rv, har, hgr, hc1, hc2, hil⟩ := HRC.out k hlt
            obtain ⟨hleft, hrl, hrs⟩ := HRO.out k (by rw [HRN.out]; exact hlt)
            have HRS := hidD hrs
            subst har
            have hcellw : ∀ o', wr.cell? ⟨gr, o', none⟩ = w.cell? ⟨gr, o', none⟩ := fun o' => (hbut.cell (by have := HGW.out; omega) (by omega)).trans (HB0.out.cell (p := ⟨gr, o', none⟩) hgr)
            have f0 : wr.cell? ⟨gr, orr + k * 2, none⟩ = some (.int .i64 ((R.getD k (0, [])).1 : Int)) := (hcellw _).trans hc1
            have f1 : wr.cell? ⟨gr, orr + k * 2 + 1, none⟩ = some rv := (hcellw _).trans hc2
            obtain ⟨a2, c2, hrv, hrc1, hrc2, hrcell⟩ := hil
            subst hrv
            have HRCL := hidD hrcell
            have HNK : Hid (bpTo R nul X (k + 1) = bqTo nul (R.getD k (0, [])).1 (R.getD k (0, [])).2 (bpTo R nul X k) (R.getD k (0, [])).2.length) := rfl
            have hl128 : (R.getD k (0, [])).1 < 128 := by omega
            obtain ⟨wp, hwp⟩ : ∃ wp, wp = wr := ⟨_, rfl⟩
            subst hwp
            generalize hLF : (R.getD k (0, [])).1 = LF at *
            generalize hRR : (R.getD k (0, [])).2 = RR at *
            clear hLF hRR hcs hcb hbut hc1 hc2 hcellw hrs hrcell
            generalize hY : bpTo R nul X k = Y at *
            clear hY
            have HBQ : Hid (∀ q x, bqTo nul LF RR Y q x < Top) := fun q x => bq_top HYT.out q x
            have HBZ : Hid (bqTo nul LF RR Y 0 = Y) := rfl
            have HBN1 : Hid (∀ q, bqTo nul LF RR Y (q + 1) = if (RR.take q).all (fun x => nul.testBit x.toNat) then upd (bqTo nul LF RR Y q) LF (bqTo nul LF RR Y q LF ||| bqTo nul LF RR Y q (RR.getD q 0).toNat) else bqTo nul LF RR Y q) := fun q => rfl
            have HBST : Hid (∀ q, q < RR.length → nul.testBit (RR.getD q 0).toNat = false → bqTo nul LF RR Y RR.length = bqTo nul LF RR Y (q + 1)) := fun q hq h => bq_stop hq h _ (by omega)
            have HALT : Hid (∀ q, q ≤ RR.length → (∀ j, j < q → nul.testBit (RR.getD j 0).toNat = true) → (RR.take q).all (fun x => nul.testBit x.toNat) = true) := fun q hq h => all_take (f := fun x => nul.testBit x.toNat) hq h
            generalize hmm : RR.length = m at *
            have HMM := hidD hmm
            clear hmm
            go_wp2_with fail
            have HB5 : Hid (Below wp.heap.size wp (((wp.alloc (.cells #[.int .i64 0, .slice none 0 0] (76 : TypeId))).setCell ⟨wp.heap.size, 0, none⟩ (.int .i64 (LF : Int))).setCell ⟨wp.heap.size, 1, none⟩ (.slice a2 m c2))) := (((Below.refl _ _).alloc (Nat.le_refl _) _).setCell (p := ⟨wp.heap.size, 0, none⟩) (Nat.le_refl _) _).setCell (p := ⟨wp.heap.size, 1, none⟩) (Nat.le_refl _) _
            have HC5 : Hid (CsAt (((wp.alloc (.cells #[.int .i64 0, .slice none 0 0] (76 : TypeId))).setCell ⟨wp.heap.size, 0, none⟩ (.int .i64 (LF : Int))).setCell ⟨wp.heap.size, 1, none⟩ (.slice a2 m c2)) wp.heap.size #[.int .i64 (LF : Int), .slice a2 m c2] 76) := by
              have h0 : CsAt (wp.alloc (.cells #[.int .i64 0, .slice none 0 0] (76 : TypeId))) wp.heap.size #[.int .i64 0, .slice none 0 0] 76 := heap_alloc_new _ _
              exact (h0.put 0 _).put 1 _
            have HNE5 : Hid (wp.heap.size ≠ g + 1 ∧ wp.heap.size ≠ bk) := by have := HCK.out.lt; have := HCBK.out.lt; exact ⟨by omega, by omega⟩
            generalize hw5 : (((wp.alloc (.cells #[.int .i64 0, .slice none 0 0] (76 : TypeId))).setCell ⟨wp.heap.size, 0, none⟩ (.int .i64 (LF : Int))).setCell ⟨wp.heap.size, 1, none⟩ (.slice a2 m c2)) = w5 at *
            clear hw5 f0 f1
            have HG5 : Hid (g + 1 ≤ w5.heap.size) := by have := HB5.out.size; have := HCK.out.lt; show _ ≤ _; omega
            have HCK5 := hidD (HCK.out.next HB5.out)
            have HCB5 := hidD (HCBK.out.next HB5.out)
            have HBU5 := hidD (HBUK.out.next HB5.out HGW.out)
            generalize hb7 : wp.heap.size = b7 at *
            have HB7 := hidD hb7
            clear hb7
            go_loopw [35] (fun i wr => ∃ q : Nat, q ≤ m ∧ i = .int .i64 q ∧ (∀ t, t < q → nul.testBit (RR.getD t 0).toNat = true) ∧ CsAt wr (g + 1) (ssC (bqTo nul LF RR Y q)) 66 ∧ CsAt wr bk (ssC X) 66 ∧ But (g + 1) w1 wr ∧ But (g + 1) w5 wr) (fun i _ => m - (intOf i).toNat)
            case atStart => exact ⟨0, Nat.zero_le _, rfl, fun t ht => absurd ht (by omega), by rw [HBZ.out]; exact HCK5.out, HCB5.out, HBU5.out, But.refl _ _⟩
            case round =>
              obtain ⟨q, hq, rfl, hall, hcs, hcb, hb1, hb5⟩ := hrel
              have HAQ := hidD hall
              have HQC := hidD hcs
              have HQB := hidD hcb
              have HQ1 := hidD hb1
              have HQ5 := hidD hb5
              clear hall
              by_cases hqt : q < m
              · have hqti : (q : Int) < m := by omega
                obtain ⟨s, hs, hsn⟩ := HRS.out q hqt
                obtain ⟨gs, os, rfl, hgs, hcs2⟩ := HRCL.out q hqt
                rw [hs] at hcs2
                rw [HGG.out] at hgs
                have f4 : wr.cell? ⟨gs, os + q, none⟩ = some (.int .i64 (s : Int)) := (hb1.cell (by have := HGW.out; omega) (by omega)).trans ((HB0.out.cell (p := ⟨gs, os + q, none⟩) hgs).trans hcs2)
                have HQN := hidD (HBN1.out q)
                rw [if_pos (HALT.out q (by omega) HAQ.out), hs, Int.toNat_natCast] at HQN
                have HTB : Hid (nul.testBit (RR.getD q 0).toNat = nul.testBit s) := by show _ = _; rw [hs, Int.toNat_natCast]
                have HSTP := hidD (HBST.out q hqt)
                have hs128 : (s : Int) < 128 := by omega
                have hl128i : (LF : Int) < 128 := by omega
                have HZT := hidD (HBQ.out q)
                have hc7 : CsAt wr b7 #[.int .i64 (LF : Int), .slice (some ⟨gs, os, none⟩) m c2] 76 := (hb5.rest b7 HC5.out.lt HNE5.out.1).trans HC5.out
                have k0 : ∀ i : KB wr [g + 1, b7], i.v.cell? ⟨b7, 0, none⟩ = some (.int .i64 (LF : Int)) := fun i => (i.cell (b := b7) (by simp) _).trans (hc7.cell 0)
                have hz2 := ss_in (S := bqTo nul LF RR Y q) (x := s) (by omega) (HZT.out s)
                have k1 : ∀ i : KB wr [g + 1, b7], i.v.cell? ⟨g + 1, s * 2, none⟩ = some (.int .u64 (lw (bqTo nul LF RR Y q s) : Int)) := fun i => (i.cell (b := g + 1) (by simp) _).trans ((hcs.cell _).trans hz2.c0)
                have k2 : ∀ i : KB wr [g + 1, b7], i.v.cell? ⟨g + 1, s * 2 + 1, none⟩ = some (.int .u64 (hw (bqTo nul LF RR Y q s) : Int)) := fun i => (i.cell (b := g + 1) (by simp) _).trans ((hcs.cell _).trans hz2.c1)
                have HJ := hidD (setJoin_any (bqTo nul LF RR Y q LF) (bqTo nul LF RR Y q s) (g + 1) (LF * 2) (HZT.out s) wr.drew (show CsAt wr.drew (g + 1) _ 66 from hcs) (ss_in (by omega) (HZT.out LF)))
                rw [ss_set (by omega) (or_top (HZT.out LF) (HZT.out s)), ← HQN.out] at HJ
                unfold setV at HJ
                have HHAS := hidD (fun w' => setHas_any nul HNT.out s (by omega) w')
                unfold setV at HHAS
                clear hcs hcb hb1 hb5 hcs2 hs hc7 hz2
                generalize hZ : bqTo nul LF RR Y q = Z at *
                clear hZ
                generalize lw (Z s) = z0 at *
                generalize hw (Z s) = z1 at *
                generalize hn0 : lw nul = n0 at *
                generalize hn1 : hw nul = n1 at *
                clear hn0 hn1
                go_wp2_with fail
                refine wp_region_seg [0, 0, 0, 0, 0, 0, 99] 0 6 [g + 1, b7] (by kernel_rfl) (by kernel_rfl) (by kernel_rfl) (by kernel_rfl) (by kernel_rfl) (by kernel_rfl) (by kernel_rfl) (by kernel_rfl) (fun _ _ _ _ _ h => h) ?_
                simp only [SegW, pk, Nat.reduceMul, Nat.reduceBEq, cond_true, cond_false]
                repeat (go_big_quiet_step (fail))
                refine wpQuiet_nil ?_
                have HBD : Hid (Below wr.heap.size wr wr.drew) := (Below.refl _ _).drew
                cases hb : nul.testBit s with
                | true =>
                  rw [hb] at HHAS HTB
                  clear hb
                  go_wp2_with (first
                    | (go_at_call 37; refine HJ.out.mono ?_; rintro e w6 ⟨rfl, hc6, hb6⟩; have HC6 := hidD hc6; have HX1 := hidD ((HQ1.out.next HBD.out HGW.out).trans hb6); have HX5 := hidD ((HQ5.out.next HBD.out HG5.out).trans hb6); have HXB : Hid (CsAt w6 bk (ssC X) 66) := (hb6.rest bk HQB.out.lt (fun e => HBI.out e.symm)).trans HQB.out; have f7 : w6.cell? ⟨p, 5, none⟩ = some (.int .u64 (n0 : Int)) := (HX1.out.cell (by have := HGW.out; omega) (by omega)).trans ((HB0.out.cell (p := ⟨p, 5, none⟩) HGP.out).trans HC0.out); have f8 : w6.cell? ⟨p, 6, none⟩ = some (.int .u64 (n1 : Int)) := (HX1.out.cell (by have := HGW.out; omega) (by omega)).trans ((HB0.out.cell (p := ⟨p, 6, none⟩) HGP.out).trans HC1.out); clear hc6 hb6)
                    | (go_at_call 34; refine (HHAS.out _).mono ?_; rintro e w8 ⟨rfl, hb8⟩; have HC8 := hidD (HC6.out.next hb8); have HY1 := hidD (HX1.out.next hb8 HGW.out); have HY5 := hidD (HX5.out.next hb8 HG5.out); have HYB := hidD (HXB.out.next hb8); clear hb8))
                  go_roundw
                  case rel => exact ⟨q + 1, by omega, by go_num, fun t ht => by
                    by_cases h : t = q
                    · rw [h]; exact HTB.out
                    · exact HAQ.out t (by omega), HC8.out, HYB.out, HY1.out, HY5.out⟩
                  case measure => simp [intOf]; omega
                | false =>
                  rw [hb] at HHAS HTB
                  have HEND := hidD (HSTP.out HTB.out)
                  clear hb
                  go_wp2_with (first
                    | (go_at_call 37; refine HJ.out.mono ?_; rintro e w6 ⟨rfl, hc6, hb6⟩; have HC6 := hidD hc6; have HX1 := hidD ((HQ1.out.next HBD.out HGW.out).trans hb6); have HXB : Hid (CsAt w6 bk (ssC X) 66) := (hb6.rest bk HQB.out.lt (fun e => HBI.out e.symm)).trans HQB.out; have f7 : w6.cell? ⟨p, 5, none⟩ = some (.int .u64 (n0 : Int)) := (HX1.out.cell (by have := HGW.out; omega) (by omega)).trans ((HB0.out.cell (p := ⟨p, 5, none⟩) HGP.out).trans HC0.out); have f8 : w6.cell? ⟨p, 6, none⟩ = some (.int .u64 (n1 : Int)) := (HX1.out.cell (by have := HGW.out; omega) (by omega)).trans ((HB0.out.cell (p := ⟨p, 6, none⟩) HGP.out).trans HC1.out); clear hc6 hb6)
                    | (go_at_call 34; refine (HHAS.out _).mono ?_; rintro e w8 ⟨rfl, hb8⟩; have HC8 := hidD (HC6.out.next hb8); have HY1 := hidD (HX1.out.next hb8 HGW.out); have HYB := hidD (HXB.out.next hb8); clear hb8))
                  go_roundw
                  case rel => exact ⟨k + 1, by omega, by go_num, by rw [HNK.out, HEND.out]; exact HC8.out, HYB.out, HY1.out⟩
                  case measure => simp [intOf]; omega
              · obtain rfl : m = q := by omega
                clear hcs hcb hb1 hb5
                go_wp2_with fail
                go_roundw
                case rel => exact ⟨k + 1, by omega, by go_num, by rw [HNK.out]; exact HQC.out, HQB.out, HQ1.out⟩
                case measure => simp [intOf]; omega
          · obtain rfl : rn = k := by omega
            obtain ⟨r, hrun, hriff⟩ := eqSets (ss_ws (fun x _ => HYT.out x)) (ss_ws (S := X) (fun x _ => HXT.out x)) wr
            rw [ws_eq] at hriff
            have HLY : Hid (wr.heap[g + 1]? = some (.cells (ssC (bpTo R nul X rn)) 66 (0, 0))) := hcs
            have HLB : Hid (wr.heap[bk]? = some (.cells (ssC X) 66 (0, 0))) := hcb
            have HLR : Hid (wr.heap[g]? = some (.cells ZZ 66 (0, 0))) := (hbut.rest g HR0.out.lt (by omega)).trans HR0.out
            have HIF := hidD hriff
            have HGEX : Hid (∀ x, X x ≤ bpTo R nul X rn x) := fun x => bp_ge R nul X x rn
            have HIE : Hid (bpIt R nul (biS T) (j + 1) = bpTo R nul X rn) := HXN.out
            have HMY : Hid (msS (rdX wr (g + 1)) 128 = msS (bpTo R nul X rn) 128) := ms_congr 128 fun x hx => rdX_of hcs hx
            have HMX : Hid (msS (rdX wo (g + 1)) 128 = msS X 128) := ms_congr 128 fun x hx => rdX_of HCS.out hx
            have HZS : Hid (ZZ.size = 256) := by show _ = _; rw [← HZZ.out]; exact ss_size _
            have HFIX : Hid ((∀ x, x < 128 → bpTo R nul X rn x = X x) → BgIs R nul T X) := fun h => ⟨j, HX.out.symm, by rw [HRN.out]; exact h⟩
            have HEXT : Hid ((∀ x, x < 128 → bpTo R nul X rn x = X x) → ssC (bpTo R nul X rn) = ssC X) := fun h => ss_ext h
            clear hcs hcb hbut hriff
            generalize hYY : bpTo R nul X rn = Y at *
            have HYY := hidD hYY
            clear hYY
            generalize hCY : ssC Y = CY at *
            generalize hCX : ssC X = CX at *
            have hiY : (Tryd.prog.info? 66).map (·.size) = some CY.size := by rw [← hCY]; exact HI66.out Y
            have hiX : (Tryd.prog.info? 66).map (·.size) = some CX.size := by rw [← hCX]; exact HI66.out X
            have HONY : Hid (CY.all (·.oneCell') = true) := by show _ = _; rw [← hCY]; exact HONE.out Y
            have HSY : Hid (CY.size = 256) := by show _ = _; rw [← hCY]; exact HSZ.out Y
            have HCY := hidD hCY
            have HCX := hidD hCX
            clear hCY hCX
            cases r with
            | true =>
              have hall := HIF.out.1 rfl
              have HFX := hidD (HFIX.out hall)
              have HEE := hidD (HEXT.out hall)
              clear hall
              go_wp2_with (first | (refine wpList_load_row rfl 66 _ rfl (g + 1) rfl 66 CY (0, 0) _ HLY.out Tryd.under66 rfl hiY ?_) | (refine wpList_load_row rfl 66 _ rfl bk rfl 66 CX (0, 0) _ HLB.out Tryd.under66 rfl hiX ?_) | (refine wpList_store_row rfl 66 _ _ rfl g CY rfl rfl 66 ZZ HLR.out hiY (by rw [HSY.out, HZS.out]) HONY.out ?_))
              rw [Exit.noGoto_ret]
              simp only [Act.put]
              refine bodyPost_ret (results_cell_row (P := Tryd.prog) (p := 2) (ty := 66) (by kernel_rfl) _ _ g 66 CY (0, 0) _ rfl (setRow_heap _ _ ZZ CY 66 (0, 0) HLR.out) Tryd.under66 rfl hiY) rfl ?_
              exact ⟨X, by rw [HCX.out, HEE.out], HXT.out, HFX.out, by rw [HGG.out]; exact below_setRow (HB0.out.trans (HBUK.out.bel.mono (Nat.le_succ _))) (Nat.le_refl _) _⟩
            | false =>
              have HLT : Hid (msS Y 128 < msS X 128) := by
                refine ms_lt 128 (fun x _ => HGEX.out x) (fun x _ => HYT.out x) ?_
                refine Classical.byContradiction fun hno => ?_
                have := HIF.out.2 fun x hx => Classical.byContradiction fun hne => hno ⟨x, hx, fun e => hne e.symm⟩
                cases this
              go_wp2_with (first | (refine wpList_load_row rfl 66 _ rfl (g + 1) rfl 66 CY (0, 0) _ HLY.out Tryd.under66 rfl hiY ?_) | (refine wpList_load_row rfl 66 _ rfl bk rfl 66 CX (0, 0) _ HLB.out Tryd.under66 rfl hiX ?_))
              rw [Exit.noGoto_normal]
              go_roundw
              case rel =>
                (repeat apply Exists.intro)
                refine And.intro ?_ ?_
                rotate_left
                · rfl
                · exact ⟨j + 1, by rw [HIE.out, HCY.out]; exact HCK.out, HBUK.out⟩
              case measure =>
                have h1 := HLT.out
                have h3 := HMY.out
                have h4 := HMX.out
                simp only [h3, h4]
                exact h1
end Go.Proofs.YtgmbkelmgolkpabDoor
