/- What tryRules answers. -/
import Derived.Test.YtgmbkelmgolkpabDoorRqc
namespace Go.Proofs.YtgmbkelmgolkpabDoor
open Go.RowKit Go.Maps
set_option linter.unusedVariables false

set_option maxRecDepth 100000 in
set_option maxHeartbeats 6400000 in
theorem tryRules_any {p : Nat} (R : List (Nat × List Int)) (n : Nat) (hR : RuOk R n) (hRl : R.length ≤ 1048576) (T : Nat) (hTb : T ≤ 128) (st : Nat) (l : List Int) (hll : l.length ≤ 1099511627776) (v vr : Value) (w : World) (hp : p < w.heap.size) (hpt : w.cell? ⟨p, 2, none⟩ = some (.int .i64 (T : Int))) (hps : w.cell? ⟨p, 3, none⟩ = some (.int .i64 (st : Int))) (hpc : w.cell? ⟨p, 4, none⟩ = some vr) (hr : RuAt w vr R) (hl : IlAt w v l) : Calls Tryd.prog 42 #[.pointer (some ⟨p, 0, none⟩), v] w fun e w' => e = .returned (.int .i64 (tryE T R st l)) ∧ Below w.heap.size w w' := by
  have HIN := hidD (inner_any R n hR hRl T hTb vr w hp hpt hpc hr)
  have HRU := hidD hr
  obtain ⟨ar, cr, rfl, hrc⟩ := hr
  have HRC := hidD hrc
  obtain ⟨al, cl, rfl, hlc1, hlc2, hlc⟩ := hl
  have HLC := hidD hlc
  have HPC := hidD hpc
  have HPS := hidD hps
  have HGP := hidD hp
  have HTE : Hid (tryE T R st l = if fitsS T R st l then (if bgTo R l l.length then 3 else 0) else 1) := rfl
  have HFT := hidD (fits_true (T := T) (R := R) (st := st) (l := l))
  have HFF := hidD (fun k => fits_false (T := T) (R := R) (st := st) (l := l) (k := k))
  have HLG := hidD (fun j hj => ll_get T R j hj R.length)
  have HLL := hidD (ll_len T R R.length)
  have HP0 : Hid (pnTo T R st l 0 = [(st : Int)]) := rfl
  have HPN : Hid (∀ k, pnTo T R st l (k + 1) = (pnTo T R st l k).dropLast ++ inS T (rgN R l k).2) := fun _ => rfl
  have HSN : Hid (∀ k, szTo R l (k + 1) = szTo R l k + (((rgN R l k).2.length : Int) - 1)) := fun _ => rfl
  have HS0 : Hid (szTo R l 0 = 1) := rfl
  have HBN : Hid (∀ k, bgTo R l (k + 1) = (bgTo R l k || decide (1048576 < szTo R l (k + 1)))) := fun _ => rfl
  have HB0 : Hid (bgTo R l 0 = false) := rfl
  have HSB := hidD (fun k => sz_bound (R := R) (l := l) (fun k => rg_len hR l k) k)
  have HFI : Hid (∀ k, fitS T R st l k = (decide (0 ≤ l.getD k 0) && decide (l.getD k 0 < (R.length : Int)) && decide (1 ≤ (pnTo T R st l k).length) && decide ((pnTo T R st l k).getD ((pnTo T R st l k).length - 1) 0 = ((rgN R l k).1 : Int)))) := fun _ => rfl
  have HRGL := hidD (fun k => rg_len hR l k)
  have HRG : Hid (∀ k, rgN R l k = R.getD (l.getD k 0).toNat (0, [])) := fun _ => rfl
  have HAL : Hid (∀ (w' : World) o, Below w'.heap.size w' (w'.alloc o)) := fun w' o => (Below.refl _ _).alloc (Nat.le_refl _) o
  clear hrc hlc hpt hps hpc hR
  generalize hRn : R.length = rn at *
  have HRN := hidD hRn
  clear hRn
  generalize hLn : l.length = ln at *
  have HLN := hidD hLn
  clear hLn
  go_enter Tryd.func42, Tryd.ntmps42
  go_wp2_with (go_at_call 56; refine HIN.out.mono ?_; rintro e w2 ⟨gi, ivs, rfl, hci, hivi, hgi, hb2⟩; have HCI := hidD hci; have HIVI := hidD hivi; have HGI := hidD hgi; have HB2 := hidD hb2; have f3 : w2.cell? ⟨p, 3, none⟩ = some (.int .i64 (st : Int)) := (hb2.cell (p := ⟨p, 3, none⟩) HGP.out).trans HPS.out; clear hci hivi hgi hb2)
  clear f3
  have HBQ : Hid (Below w2.heap.size w2 ((w2.alloc (.cells #[.int .i64 (st : Int)] (3 : TypeId))).alloc (.cells #[.slice (some ⟨w2.heap.size, 0, none⟩) 1 1] (27 : TypeId)))) := ((Below.refl _ _).alloc (Nat.le_refl _) _).alloc (by simp) _
  have HC3 : Hid (CsAt ((w2.alloc (.cells #[.int .i64 (st : Int)] (3 : TypeId))).alloc (.cells #[.slice (some ⟨w2.heap.size, 0, none⟩) 1 1] (27 : TypeId))) w2.heap.size #[.int .i64 (st : Int)] 3) := heap_alloc2_old _ _ _
  have HC4 : Hid (CsAt ((w2.alloc (.cells #[.int .i64 (st : Int)] (3 : TypeId))).alloc (.cells #[.slice (some ⟨w2.heap.size, 0, none⟩) 1 1] (27 : TypeId))) (w2.heap.size + 1) #[.slice (some ⟨w2.heap.size, 0, none⟩) 1 1] 27) := heap_alloc2_new _ _ _
  generalize hw3 : ((w2.alloc (.cells #[.int .i64 (st : Int)] (3 : TypeId))).alloc (.cells #[.slice (some ⟨w2.heap.size, 0, none⟩) 1 1] (27 : TypeId))) = w3 at *
  clear hw3
  generalize hb2 : w2.heap.size = B2 at *
  have HB2E := hidD hb2
  clear hb2
  have HIR0 : Hid (IrAt w3 w3.heap.size (.slice (some ⟨B2, 0, none⟩) 1 1) [(st : Int)]) := ⟨some ⟨B2, 0, none⟩, 1, rfl, Nat.le_refl _, ⟨by omega, nofun⟩, fun k hk => by
    have hk1 : k < 1 := hk
    obtain rfl : k = 0 := by omega
    exact ⟨B2, 0, _, rfl, HC3.out.lt, HC3.out, rfl⟩⟩
  have HIV0 : Hid (IvAt w3 w3.heap.size [.slice (some ⟨B2, 0, none⟩) 1 1] [[(st : Int)]]) := (IvAt.nil w3 _).push HIR0.out
  have HOW0 : Hid (w3.ownsRow B2 27 1 (.slice (some ⟨B2 + 1, 0, none⟩) 1 1) 1 [.slice (some ⟨B2, 0, none⟩) 1 1]) := full_of_cs HC4.out (Nat.le_succ _) rfl (by decide)
  go_loopw [6, 7, 8, 24] (fun W z g i wr => ∃ (k : Nat) (WL : List (List Int)) (vs : List Value), k ≤ ln ∧ i = .int .i64 k ∧ z = .int .i64 (szTo R l k) ∧ g = .bool (bgTo R l k) ∧ wr.ownsRow B2 27 1 W WL.length vs ∧ IvAt wr wr.heap.size vs WL ∧ WL.flatten = pnTo T R st l k ∧ (∀ r ∈ WL, 1 ≤ r.length) ∧ WL.length ≤ k + 1 ∧ (∀ j, j < k → fitS T R st l j = true) ∧ Below B2 w2 wr) (fun _ _ _ i _ => ln - (intOf i).toNat)
  case atStart => exact ⟨0, [[(st : Int)]], _, Nat.zero_le _, rfl, by rw [HS0.out], by rw [HB0.out], HOW0.out, HIV0.out, by rw [HP0.out]; rfl, fun r hr => by rw [List.mem_singleton] at hr; subst hr; exact Nat.le_refl _, Nat.le_refl _, fun j hj => absurd hj (by omega), HBQ.out⟩
  case round =>
    obtain ⟨k, WL, vs, hk, rfl, rfl, rfl, hown, hiv, hfl, hne, hwl, hall, hbel⟩ := hrel
    have HOW := hidD hown
    have HIV := hidD hiv
    have HFL := hidD hfl
    have HNE := hidD hne
    have HWL := hidD hwl
    have HAL2 := hidD hall
    have HBW := hidD hbel
    have HWW : Hid (Below w.heap.size w wr) := HB2.out.trans (hbel.mono (by have := HB2.out.size; have := HB2E.out; omega))
    have HSK := hidD (HSB.out k)
    have HSK1 := hidD (HSB.out (k + 1))
    obtain ⟨aW, cW, hW⟩ := row_shape hown
    subst hW
    by_cases hlt : k < ln
    · have hlti : (k : Int) < ln := by omega
      obtain ⟨g0, o0, rfl, hg0, f0⟩ := HLC.out k hlt
      have f1 : wr.cell? ⟨g0, o0 + k, none⟩ = some (.int .i64 (l.getD k 0)) := (HWW.out.cell (p := ⟨g0, o0 + k, none⟩) hg0).trans f0
      have f2 : wr.cell? ⟨p, 4, none⟩ = some (.slice ar rn cr) := (HWW.out.cell (p := ⟨p, 4, none⟩) HGP.out).trans HPC.out
      have HFK := hidD (HFI.out k)
      have HBAD := hidD (HFF.out k hlt)
      have HRGK := hidD (HRG.out k)
      have HPNK := hidD (HPN.out k)
      have HSNK := hidD (HSN.out k)
      have HBNK := hidD (HBN.out k)
      have HST : Hid (fitS T R st l k = true → ∀ j, j < k + 1 → fitS T R st l j = true) := fun h j hj => by
        by_cases hjk : j = k
        · rw [hjk]; exact h
        · exact HAL2.out j (by omega)
      clear f0 hown hiv hfl hne hwl hall hbel
      generalize l.getD k 0 = x at *
      generalize hzk : szTo R l k = zk at *
      clear hzk
      generalize hgk : bgTo R l k = gk at *
      clear hgk
      generalize hwn : WL.length = wn at *
      have HWN := hidD hwn
      clear hwn
      by_cases hx0 : x < 0
      · have HBADX : Hid (fitsS T R st l = false) := HBAD.out (by rw [HFK.out, decide_eq_false (show ¬ 0 ≤ x by omega)]; rfl)
        have hx0d : decide (x < 0) = true := decide_eq_true hx0
        go_wp2
        refine bodyPost_ret (v := .int .i64 1) (by simp [results, Tryd.results42, go_sem]) rfl ?_
        exact ⟨by rw [HTE.out, HBADX.out, if_neg (by decide)], HWW.out⟩
      · by_cases hxr : (rn : Int) ≤ x
        · have HBADX : Hid (fitsS T R st l = false) := HBAD.out (by rw [HFK.out, decide_eq_false (show ¬ x < (rn : Int) by omega), Bool.and_false]; rfl)
          have hx0d : decide (x < 0) = false := decide_eq_false hx0
          have hxrd : decide ((rn : Int) ≤ x) = true := decide_eq_true hxr
          go_wp2
          refine bodyPost_ret (v := .int .i64 1) (by simp [results, Tryd.results42, go_sem]) rfl ?_
          exact ⟨by rw [HTE.out, HBADX.out, if_neg (by decide)], HWW.out⟩
        · have hx0d : decide (x < 0) = false := decide_eq_false hx0
          have hxrd : decide ((rn : Int) ≤ x) = false := decide_eq_false hxr
          by_cases hw0 : wn = 0
          · have HBADX : Hid (fitsS T R st l = false) := HBAD.out (by
              rw [HFK.out, ← HFL.out, List.eq_nil_of_length_eq_zero (show WL.length = 0 by rw [HWN.out]; exact hw0)]
              simp)
            subst hw0
            go_wp2
            refine bodyPost_ret (v := .int .i64 1) (by simp [results, Tryd.results42, go_sem]) rfl ?_
            exact ⟨by rw [HTE.out, HBADX.out, if_neg (by decide)], HWW.out⟩
          · obtain ⟨xn, rfl⟩ : ∃ xn : Nat, x = (xn : Int) := ⟨x.toNat, by omega⟩
            obtain ⟨WI, XI, sy, hWLe⟩ := last_two (W := WL) (by rw [HWN.out]; omega) HNE.out
            have hwnt : WL.length = WI.length + 1 := by rw [hWLe, List.length_append]; rfl
            obtain ⟨gr, orr, rv, har, hgr, hc1, hc2, hil⟩ := HRC.out xn (by omega)
            obtain ⟨a2, c2, hrv, _⟩ := hil
            subst har
            subst hrv
            rw [Int.toNat_natCast] at HRGK
            rw [← HRGK.out] at hc1 hc2
            obtain ⟨u0, hu0, hir0⟩ := HIV.out.2 WI.length (by rw [hwnt]; omega)
            rw [hWLe, List.getD_eq_getElem?_getD, List.getElem?_append_right (Nat.le_refl _), Nat.sub_self] at hir0
            have hir0 : IrAt wr wr.heap.size u0 (XI ++ [sy]) := hir0
            obtain ⟨aX, cX, rfl⟩ := hir0.shape
            have hcapX : cX ≤ 9223372036854775807 := by
              obtain ⟨_, _, e, _, h, _⟩ := hir0
              cases e; exact h.1
            have hXl : (XI ++ [sy]).length = XI.length + 1 := by rw [List.length_append]; rfl
            obtain ⟨gX, oX, rfl, hgX, fX, hcX⟩ := hir0.cell (k := XI.length) (by rw [hXl]; omega)
            have hsy : (XI ++ [sy]).getD XI.length 0 = sy := by rw [List.getD_eq_getElem?_getD, List.getElem?_append_right (Nat.le_refl _), Nat.sub_self]; rfl
            rw [hsy] at fX
            have hOWc := HOW.out
            rcases hOWc.2 with ⟨_, hn0⟩ | ⟨gW, capW, curW, hWv, hWb, hWg, hWn, hWm, _, _⟩
            · exact absurd hn0 (by omega)
            cases hWv
            have fW := HOW.out.cells (g := gW) rfl WI.length _ hu0
            rw [Addr.add_lit, Nat.zero_add] at fW
            have HLESS := hidD (row_less HOW.out (m := WI.length) (by have := HWN.out; omega) (by simp))
            have HIVT := hidD (HIV.out.take WI.length)
            rw [hWLe, List.take_left] at HIVT
            have HIRT := hidD (hir0.less XI.length (by rw [hXl]; omega))
            rw [List.take_left] at HIRT
            have HPLA : Hid (pnTo T R st l k = (WI.flatten ++ XI) ++ [sy]) := by show _ = _; rw [← HFL.out, hWLe, List.flatten_append, List.flatten_singleton, List.append_assoc]
            have HLAST : Hid ((pnTo T R st l k).getD ((pnTo T R st l k).length - 1) 0 = sy ∧ 1 ≤ (pnTo T R st l k).length ∧ (pnTo T R st l k).dropLast = WI.flatten ++ XI) := by
              rw [HPLA.out]
              have hl : ((WI.flatten ++ XI) ++ [sy]).length = (WI.flatten ++ XI).length + 1 := by rw [List.length_append]; rfl
              refine ⟨?_, by omega, List.dropLast_concat⟩
              rw [hl, Nat.add_sub_cancel, List.getD_eq_getElem?_getD, List.getElem?_append_right (Nat.le_refl _), Nat.sub_self]; rfl
            have HWNE : Hid (∀ r ∈ WI, 1 ≤ r.length) := fun r hr => HNE.out r (by rw [hWLe]; exact List.mem_append_left _ hr)
            rw [HLAST.out.1, decide_eq_true HLAST.out.2.1, decide_eq_true (show 0 ≤ (xn : Int) by omega), decide_eq_true (show (xn : Int) < (rn : Int) by omega)] at HFK
            rw [HLAST.out.2.2] at HPNK
            have hGI2 : gi < B2 := by have := HCI.out.lt; have := HB2E.out; omega
            have HCIR : Hid (CsAt wr gi ivs.toArray 27) := (HBW.out.block gi hGI2).trans HCI.out
            obtain ⟨uI, huI, hirI⟩ := HIVI.out.2 xn (by have := HLL.out; omega)
            rw [HLG.out xn (by omega), if_pos (by omega), ← HRGK.out, ] at hirI
            have HIRI : Hid (IrAt wr B2 uI (inS T (rgN R l k).2)) := hirI.below HBW.out (Nat.le_refl _)
            have r0 : wr.cell? ⟨gr, orr + xn * 2, none⟩ = some (.int .i64 ((rgN R l k).1 : Int)) := (HWW.out.cell (p := ⟨gr, orr + xn * 2, none⟩) hgr).trans hc1
            have r1 : wr.cell? ⟨gr, orr + xn * 2 + 1, none⟩ = some (.slice a2 (rgN R l k).2.length c2) := (HWW.out.cell (p := ⟨gr, orr + xn * 2 + 1, none⟩) hgr).trans hc2
            have HWIL : Hid (WI.length + 1 = wn) := by show _ = _; rw [← hwnt]; exact HWN.out
            have hm2b : (rgN R l k).2.length ≤ 1048576 := HRGL.out k
            have HPF1 := hidD (pf_len WI XI)
            have HPF2 := hidD (pf_len (pfS WI XI) (inS T (rgN R l k).2))
            have HPA := hidD (pf_all (c := inS T (rgN R l k).2) (pf_all (c := XI) HWNE.out))
            have HPFL : Hid ((pfS (pfS WI XI) (inS T (rgN R l k).2)).flatten = pnTo T R st l (k + 1)) := by show _ = _; rw [pf_flat, pf_flat, HPNK.out]
            clear hc1 hc2 hWg hWLe hwnt hsy hu0 hirI hir0 hOWc hGI2
            generalize (rgN R l k).1 = LF at *
            generalize hRR : (rgN R l k).2 = RR at *
            clear hRR
            generalize hRl2 : RR.length = m2 at *
            clear hRl2
            generalize inS T RR = IN at *
            generalize hmX : (XI ++ [sy]).length = mX at *
            generalize hl1 : XI.length = l1 at *
            generalize htp : WI.length = top at *
            have HTP := hidD htp
            have HL1 := hidD hl1
            have hwt : (wn : Int) - 1 = (top : Int) := by have := HWIL.out; omega
            have hmt : (mX : Int) - 1 = (l1 : Int) := by omega
            have htw : (top : Int) < (wn : Int) := by omega
            have hlm : (l1 : Int) < (mX : Int) := by omega
            have hwn1 : ¬ (wn : Int) = 0 := by omega
            have hwnb : ((wn : Int) == 0) = false := beq_eq_false_iff_ne.2 hwn1
            have hxni : (xn : Int) < (rn : Int) := by omega
            have hs104 : ∀ w, (Instr.sliceAt 104 (.slice (some ⟨gW, 0, none⟩) wn cW) none (some (.int .i64 (top : Int))) none).run Tryd.prog w = .ok (.slice (some ⟨gW, 0, none⟩) top cW) w := fun w => sliceH104 gW 0 wn cW top (by omega) (by omega) w
            have hs27 : ∀ w, (Instr.sliceAt 27 (.slice (some ⟨gX, oX, none⟩) mX cX) none (some (.int .i64 (l1 : Int))) none).run Tryd.prog w = .ok (.slice (some ⟨gX, oX, none⟩) l1 cX) w := fun w => sliceH27 gX oX mX cX l1 (by omega) (by omega) w
            have k0 : ∀ i : KB wr [gW, gX, p, gr], i.v.cell? ⟨gW, top, none⟩ = some (.slice (some ⟨gX, oX, none⟩) mX cX) := fun i => (i.cell (b := gW) (by simp) _).trans fW
            have k1 : ∀ i : KB wr [gW, gX, p, gr], i.v.cell? ⟨gX, oX + l1, none⟩ = some (.int .i64 sy) := fun i => (i.cell (b := gX) (by simp) _).trans fX
            have k2 : ∀ i : KB wr [gW, gX, p, gr], i.v.cell? ⟨p, 4, none⟩ = some (.slice (some ⟨gr, orr, none⟩) rn cr) := fun i => (i.cell (b := p) (by simp) _).trans f2
            have k3 : ∀ i : KB wr [gW, gX, p, gr], i.v.cell? ⟨gr, orr + xn * 2, none⟩ = some (.int .i64 (LF : Int)) := fun i => (i.cell (b := gr) (by simp) _).trans r0
            clear hmX hl1 htp hw0 hx0 hxr
            have hbnd : wn ≤ 1099511627777 := by have := HWL.out; omega
            have hmXb : (mX : Int) ≤ 9223372036854775807 := by omega
            have hl1b : (l1 : Int) ≤ 9223372036854775806 := by omega
            have hrxd : decide (rn ≤ xn) = false := decide_eq_false (by omega)
            have hlc : l1 ≤ cX := by omega
            have hc0 : ¬ cX = 0 := by omega
            have htc : top ≤ cW := by omega
            have hcw0 : ¬ cW = 0 := by omega
            clear hWn hcX hcapX
            go_wp2_with fail
            refine wp_region_seg [0, 0, 0, 0, 0, 0, 0, 0, 0, 0, 0, 0, 0, 0, 0, 0] 0 16 [gW, gX, p, gr] (by kernel_rfl) (by kernel_rfl) (by kernel_rfl) (by kernel_rfl) (by kernel_rfl) (by kernel_rfl) (by kernel_rfl) (by kernel_rfl) (fun _ _ _ _ _ h => h) ?_
            simp only [SegW, pk, Nat.reduceMul, Nat.reduceBEq, cond_true, cond_false]
            repeat (go_big_quiet_step (fail))
            refine wpQuiet_nil ?_
            clear k0 k1 k2 k3
            have hwq : ∃ wq, wq = wr.drew := ⟨_, rfl⟩
            obtain ⟨wq, hwq⟩ := hwq
            have HLQ : Hid (wq.ownsRow B2 27 1 (.slice (some ⟨gW, 0, none⟩) top cW) top (vs.take top)) := by rw [hwq]; exact HLESS.out
            have HVQ : Hid (IvAt wq wq.heap.size (vs.take top) WI) := by rw [hwq]; exact HIVT.out
            have HIQ : Hid (IrAt wq wq.heap.size (.slice (some ⟨gX, oX, none⟩) l1 cX) XI) := by rw [hwq]; exact HIRT.out
            have HCQ : Hid (CsAt wq gi ivs.toArray 27) := by rw [hwq]; exact HCIR.out
            have HNQ : Hid (IrAt wq B2 uI IN) := by rw [hwq]; exact HIRI.out
            have HBQ2 : Hid (Below B2 w2 wq) := by rw [hwq]; exact HBW.out.drew
            have HWQ : Hid (Below w.heap.size w wq) := by rw [hwq]; exact HWW.out.drew
            have q0 : wq.cell? ⟨gW, top, none⟩ = some (.slice (some ⟨gX, oX, none⟩) mX cX) := by rw [hwq]; exact fW
            have HBL : Hid (B2 ≤ wq.heap.size) := by have := HBQ2.out.size; have := HB2E.out; show _ ≤ _; omega
            rw [← hwq]
            have HR1 : Hid (w.cell? ⟨gr, orr + xn * 2 + 1, none⟩ = some (.slice a2 m2 c2)) := (HWW.out.cell (p := ⟨gr, orr + xn * 2 + 1, none⟩) hgr).symm.trans r1
            have HGR := hidD hgr
            clear hwq fW fX f1 f2 r0 r1
            by_cases hsl : sy = (LF : Int)
            · rw [decide_eq_true hsl] at HFK
              have HFIT : Hid (fitS T R st l k = true) := by show _ = _; rw [HFK.out]; rfl
              subst hsl
              have HUI : Hid (ivs.toArray[xn]? = some uI) := by show _ = _; rw [List.getElem?_toArray]; exact huI
              clear huI
              have hGI2 : gi < B2 := by have := HCI.out.lt; have := HB2E.out; omega
              have HKK : Hid (∀ w', Below B2 wq w' → ∃ i : KB wq [gi], w' = i.v) := fun w' hb => ⟨⟨w', fun y hy => by rw [List.mem_singleton] at hy; subst hy; exact hb.block y hGI2⟩, rfl⟩
              have k0 : ∀ i : KB wq [gi], i.v.cell? ⟨gi, xn, none⟩ = some uI := fun i => (i.cell (b := gi) (by simp) _).trans ((HCQ.out.cell xn).trans HUI.out)
              have HDQ : Hid (Below B2 wq wq.drew) := (Below.refl _ _).drew
              have HPU := hidD (push_any (base := B2) (W := WI) (c := XI) wq.drew (by have := HWIL.out; have := HTP.out; omega) (by rw [HTP.out]; exact HLQ.out) HVQ.out HIQ.out HBL.out)
              clear hGI2
              have HPU2 : Hid (∀ w' v5 vs5, Below B2 wq w' → Kept 27 wq.drew w' → w'.ownsRow B2 27 1 v5 (pfS WI XI).length vs5 → IvAt w' w'.heap.size vs5 (pfS WI XI) → Calls Tryd.prog 57 #[v5, uI] w' fun e w'' => ∃ v' vs', e = .returned v' ∧ w''.ownsRow B2 27 1 v' (pfS (pfS WI XI) IN).length vs' ∧ IvAt w'' w''.heap.size vs' (pfS (pfS WI XI) IN) ∧ Below B2 w' w'' ∧ Kept 27 w' w'') := fun w' v5 vs5 hb hk ho hv => push_any (base := B2) (W := pfS WI XI) (c := IN) w' (by have := HPF1.out; have := HWIL.out; omega) ho hv ((HNQ.out.below hb (Nat.le_refl _)).mono (Nat.le_trans HBL.out hb.size)) (Nat.le_trans HBL.out hb.size)
              go_wp2_with fail
              refine wp_region_seg [0, 0, 0, 0, 1, 0, 0, 0, 0, 99, 99] 1 9 [gi] (by kernel_rfl) (by kernel_rfl) (by kernel_rfl) (by kernel_rfl) (by kernel_rfl) (by kernel_rfl) (by kernel_rfl) (by kernel_rfl) (fun _ _ _ _ _ h => h) ?_
              simp only [SegW, pk, Nat.reduceMul, Nat.reduceAdd, Nat.reduceBEq, cond_true, cond_false]
              repeat (go_big_quiet_step (fail))
              refine wpQuiet_nil ?_
              go_wp2_with (go_at_call 57; refine HPU.out.mono ?_; rintro e w5 ⟨v5, vs5, rfl, ho5, hv5, hb5, hk5⟩; have HO5 := hidD ho5; have HV5 := hidD hv5; have HB5 : Hid (Below B2 wq w5) := HDQ.out.trans hb5; have HK5 := hidD hk5; clear ho5 hv5 hb5 hk5)
              refine ⟨HKK.out _ HB5.out, ?_⟩
              repeat (go_big_quiet_step (fail))
              refine wpQuiet_nil ?_
              have HBL2 : Hid (w.heap.size ≤ B2) := by have := HB2.out.size; have := HB2E.out; show _ ≤ _; omega
              have hz1 : -1099511627776 ≤ zk := by have := HSK.out.1; omega
              have hz2 : zk ≤ 1152921504606846977 := by have := HSK.out.2; omega
              cases gk with
              | true =>
                go_wp2_with (go_at_call 57; refine (HPU2.out _ _ _ HB5.out HK5.out HO5.out HV5.out).mono ?_; rintro e w6 ⟨v6, vs6, rfl, ho6, hv6, hb6, hk6⟩; have HO6 := hidD ho6; have HV6 := hidD hv6; have HBW6 := hidD (HBQ2.out.trans (HB5.out.trans hb6)); have HWW6 : Hid (Below w.heap.size w w6) := HWQ.out.trans ((HB5.out.trans hb6).mono HBL2.out); have f8 : w6.cell? ⟨p, 4, none⟩ = some (.slice (some ⟨gr, orr, none⟩) rn cr) := (HWW6.out.cell (p := ⟨p, 4, none⟩) HGP.out).trans HPC.out; have f9 : w6.cell? ⟨gr, orr + xn * 2 + 1, none⟩ = some (.slice a2 m2 c2) := (HWW6.out.cell (p := ⟨gr, orr + xn * 2 + 1, none⟩) HGR.out).trans HR1.out; clear ho6 hv6 hb6 hk6)
                go_roundw
                case rel =>
                  refine ⟨k + 1, pfS (pfS WI XI) IN, vs6, by omega, by go_num, ?_, ?_, HO6.out, HV6.out, HPFL.out, HPA.out, ?_, HST.out HFIT.out, HBW6.out⟩
                  · rw [HSNK.out]
                  · rw [HBNK.out, HSNK.out]; rfl
                  · have h1 := HPF1.out; have h2 := HPF2.out; have h3 := HWIL.out; have h4 := HWL.out; have h5 := HTP.out; omega
                case measure => simp [intOf]; omega
              | false =>
                go_wp2_with (go_at_call 57; refine (HPU2.out _ _ _ HB5.out HK5.out HO5.out HV5.out).mono ?_; rintro e w6 ⟨v6, vs6, rfl, ho6, hv6, hb6, hk6⟩; have HO6 := hidD ho6; have HV6 := hidD hv6; have HBW6 := hidD (HBQ2.out.trans (HB5.out.trans hb6)); have HWW6 : Hid (Below w.heap.size w w6) := HWQ.out.trans ((HB5.out.trans hb6).mono HBL2.out); have f8 : w6.cell? ⟨p, 4, none⟩ = some (.slice (some ⟨gr, orr, none⟩) rn cr) := (HWW6.out.cell (p := ⟨p, 4, none⟩) HGP.out).trans HPC.out; have f9 : w6.cell? ⟨gr, orr + xn * 2 + 1, none⟩ = some (.slice a2 m2 c2) := (HWW6.out.cell (p := ⟨gr, orr + xn * 2 + 1, none⟩) HGR.out).trans HR1.out; clear ho6 hv6 hb6 hk6)
                go_roundw
                case rel =>
                  refine ⟨k + 1, pfS (pfS WI XI) IN, vs6, by omega, by go_num, ?_, ?_, HO6.out, HV6.out, HPFL.out, HPA.out, ?_, HST.out HFIT.out, HBW6.out⟩
                  · rw [HSNK.out]
                  · rw [HBNK.out, HSNK.out]; simp
                  · have h1 := HPF1.out; have h2 := HPF2.out; have h3 := HWIL.out; have h4 := HWL.out; have h5 := HTP.out; omega
                case measure => simp [intOf]; omega
            · rw [decide_eq_false hsl, Bool.and_false] at HFK
              have HBADX : Hid (fitsS T R st l = false) := HBAD.out HFK.out
              have hslb : (sy == (LF : Int)) = false := beq_eq_false_iff_ne.2 hsl
              go_wp2_with fail
              refine bodyPost_ret (v := .int .i64 1) (by simp [results, Tryd.results42, go_sem]) rfl ?_
              exact ⟨by rw [HTE.out, HBADX.out, if_neg (by decide)], HWQ.out⟩
    · obtain rfl : ln = k := by omega
      have HTT := hidD (HFT.out HAL2.out)
      clear hown hiv hfl hne hwl hall hbel
      cases hg : bgTo R l ln with
      | true =>
        have HRS : Hid (tryE T R st l = 3) := by show _ = _; rw [HTE.out, HTT.out, if_pos rfl, hg, if_pos rfl]
        clear hg
        go_wp2
        refine bodyPost_ret (v := .int .i64 3) (by simp [results, Tryd.results42, go_sem]) rfl ?_
        exact ⟨by rw [HRS.out], HWW.out⟩
      | false =>
        have HRS : Hid (tryE T R st l = 0) := by show _ = _; rw [HTE.out, HTT.out, if_pos rfl, hg, if_neg (by decide)]
        clear hg
        go_wp2
        refine bodyPost_ret (v := .int .i64 0) (by simp [results, Tryd.results42, go_sem]) rfl ?_
        exact ⟨by rw [HRS.out], HWW.out⟩
end Go.Proofs.YtgmbkelmgolkpabDoor
