/- What followers answers. -/
import Derived.Test.YtgmbkelmgolkpabDoorGmh
import Derived.Test.YtgmbkelmgolkpabDoorSsb
namespace Go.Proofs.YtgmbkelmgolkpabDoor
open Go.RowKit
set_option linter.unusedVariables false

set_option maxRecDepth 100000 in
set_option maxHeartbeats 6400000 in
theorem followers_any {p : Nat} (R : List (Nat × List Int)) (n : Nat) (hR : RuOk R n) (hn : n ≤ 128) (hRl : R.length ≤ 1048576) (T : Nat) (hT : T ≤ 128) (hT1 : 1 ≤ T) (st : Nat) (hst : st < 128) (nul : Nat) (bg : Nat → Nat) (vr : Value) (an : Option Addr) (cn : Nat) (w : World) (hp : p < w.heap.size) (hpn : w.cell? ⟨p, 0, none⟩ = some (.slice an n cn)) (hpt : w.cell? ⟨p, 2, none⟩ = some (.int .i64 (T : Int))) (hps : w.cell? ⟨p, 3, none⟩ = some (.int .i64 (st : Int))) (hpc : w.cell? ⟨p, 4, none⟩ = some vr) (hr : RuAt w vr R) (hnu : SetAt w p 5 nul) (hbt : ∀ x, bg x < Top) (hbg : ∀ x, x < 128 → SetAt w p (7 + x * 2) (bg x)) : Calls Tryd.prog 50 #[.pointer (some ⟨p, 0, none⟩)] w fun e w' => ∃ X, e = .returned (.agg (ssC X)) ∧ (∀ x, X x < Top) ∧ FoIs R n T st nul bg X ∧ Below w.heap.size w w' := by
  have HRU := hidD hr
  have HRO := hidD hR
  obtain ⟨hz, hsz⟩ := zero_of_info Tryd.zero66
  obtain ⟨hz61, hsz61⟩ := zero_of_info Tryd.zero61
  have hi66 : ∀ S, (Tryd.prog.info? 66).map (·.size) = some (ssC S).size := fun S => by rw [hsz, ss_size]
  have HI66 := hidD hi66
  obtain ⟨hz76, hsz76⟩ := zero_of_info Tryd.zero76
  have HC0 := hidD hnu.c0
  have HC1 := hidD hnu.c1
  have HNT := hidD hnu.top
  have HBG := hidD hbg
  have HBT := hidD hbt
  have HGP := hidD hp
  have HPC := hidD hpc
  have HPT := hidD hpt
  have HPS := hidD hps
  have HUP := hidD (fun w' => upTo_any n hn w')
  have HBA : Hid (∀ o, Below w.heap.size w (w.alloc o)) := fun o => (Below.refl _ _).alloc (Nat.le_refl _) o
  have HRE : Hid (∀ w', Below w.heap.size w w' → Calls Tryd.prog 33 #[.pointer (some ⟨p, 0, none⟩), setV (utS n)] w' fun e w'' => ∃ X, e = .returned (setV X) ∧ X < Top ∧ ReIs R (utS n) (2 ^ st) X ∧ Below w'.heap.size w' w'') := fun w' hb => reached_any R n hR hn hRl st hst (utS n) (ut_top n hn) vr w' (Nat.lt_of_lt_of_le hp hb.size) ((hb.cell (p := ⟨p, 3, none⟩) hp).trans hps) ((hb.cell (p := ⟨p, 4, none⟩) hp).trans hpc) (hr.next hb)
  obtain ⟨ar, cr, rfl, hrc⟩ := hr
  have HRC := hidD hrc
  unfold setV at HUP HRE
  clear hrc hR hi66 hnu hpc hbg hbt hpt hps
  have HR0 : Hid (CsAt (w.alloc (.cells (ssC fun _ => 0) (66 : TypeId))) w.heap.size (ssC fun _ => 0) 66) := heap_alloc_new _ _
  have hpn0 : (w.alloc (.cells (ssC fun _ => 0) (66 : TypeId))).cell? ⟨p, 0, none⟩ = some (.slice an n cn) := ((HBA.out _).cell (p := ⟨p, 0, none⟩) hp).trans hpn
  clear hpn
  generalize hRn : R.length = rn at *
  have HRN := hidD hRn
  clear hRn
  have HONE := hidD ss_one
  have HSZ := hidD ss_size
  have HSI : Hid (∀ M, M < Top → SetIn (setC zc 0 M) 0 M) := fun M hM => setC_same (by decide) hM
  generalize hZZ : (ssC fun _ => 0) = ZZ at *
  have HZZ := hidD hZZ
  clear hZZ
  generalize hu0 : lw (utS n) = u0 at *
  generalize hu1 : hw (utS n) = u1 at *
  clear hu0 hu1
  have HBS := hidD (HBA.out (.cells ZZ (66 : TypeId)))
  go_enter Tryd.func50, Tryd.ntmps50
  go_wp2_with fail
  go_step3
  go_wp2_with (first
    | (go_at_call 32; refine (HUP.out _).mono ?_; rintro e w2 ⟨rfl, hb2⟩; have HB2 := hidD (Below.next HBS.out hb2); have HR2 := hidD (HR0.out.next hb2); clear hb2)
    | (go_at_call 33; refine (HRE.out _ HB2.out).mono ?_; rintro e w3 ⟨RE, rfl, hre, hrei, hb3⟩; have HRI := hidD hrei; have HRT := hidD hre; have HB3 := hidD (Below.next HB2.out hb3); have HR3 := hidD (HR2.out.next hb3); clear hb3 hre hrei))
  have HBQ : Hid (Below w3.heap.size w3 (((w3.alloc (.cells #[.int .u64 0, .int .u64 0] (61 : TypeId))).setCell ⟨w3.heap.size, 0, none⟩ (.int .u64 (lw RE : Int))).setCell ⟨w3.heap.size, 1, none⟩ (.int .u64 (hw RE : Int)))) := (((Below.refl _ _).alloc (Nat.le_refl _) _).setCell (p := ⟨w3.heap.size, 0, none⟩) (Nat.le_refl _) _).setCell (p := ⟨w3.heap.size, 1, none⟩) (Nat.le_refl _) _
  have HBN : Hid (Below w3.heap.size w3 ((((w3.alloc (.cells #[.int .u64 0, .int .u64 0] (61 : TypeId))).setCell ⟨w3.heap.size, 0, none⟩ (.int .u64 (lw RE : Int))).setCell ⟨w3.heap.size, 1, none⟩ (.int .u64 (hw RE : Int))).alloc (.cells ZZ (66 : TypeId)))) := HBQ.out.alloc HBQ.out.size _
  have HS4 : Hid (CsAt ((((w3.alloc (.cells #[.int .u64 0, .int .u64 0] (61 : TypeId))).setCell ⟨w3.heap.size, 0, none⟩ (.int .u64 (lw RE : Int))).setCell ⟨w3.heap.size, 1, none⟩ (.int .u64 (hw RE : Int))).alloc (.cells ZZ (66 : TypeId))) w3.heap.size (setC zc 0 RE) 61) := by
    have h0 : CsAt (w3.alloc (.cells #[.int .u64 0, .int .u64 0] (61 : TypeId))) w3.heap.size zc 61 := heap_alloc_new _ _
    have h1 : CsAt (((w3.alloc (.cells #[.int .u64 0, .int .u64 0] (61 : TypeId))).setCell ⟨w3.heap.size, 0, none⟩ (.int .u64 (lw RE : Int))).setCell ⟨w3.heap.size, 1, none⟩ (.int .u64 (hw RE : Int))) w3.heap.size (setC zc 0 RE) 61 := (h0.put 0 _).put 1 _
    exact h1.next ((Below.refl _ _).alloc (Nat.le_refl _) _)
  have HSZ4 : Hid ((((w3.alloc (.cells #[.int .u64 0, .int .u64 0] (61 : TypeId))).setCell ⟨w3.heap.size, 0, none⟩ (.int .u64 (lw RE : Int))).setCell ⟨w3.heap.size, 1, none⟩ (.int .u64 (hw RE : Int))).heap.size = w3.heap.size + 1) := by show _ = _; simp
  have HG4 : Hid (CsAt ((((w3.alloc (.cells #[.int .u64 0, .int .u64 0] (61 : TypeId))).setCell ⟨w3.heap.size, 0, none⟩ (.int .u64 (lw RE : Int))).setCell ⟨w3.heap.size, 1, none⟩ (.int .u64 (hw RE : Int))).alloc (.cells ZZ (66 : TypeId))) (w3.heap.size + 1) ZZ 66) := by
    have h0 := heap_alloc_new (((w3.alloc (.cells #[.int .u64 0, .int .u64 0] (61 : TypeId))).setCell ⟨w3.heap.size, 0, none⟩ (.int .u64 (lw RE : Int))).setCell ⟨w3.heap.size, 1, none⟩ (.int .u64 (hw RE : Int))) (.cells ZZ (66 : TypeId))
    rw [HSZ4.out] at h0
    exact h0
  generalize hw4 : ((((w3.alloc (.cells #[.int .u64 0, .int .u64 0] (61 : TypeId))).setCell ⟨w3.heap.size, 0, none⟩ (.int .u64 (lw RE : Int))).setCell ⟨w3.heap.size, 1, none⟩ (.int .u64 (hw RE : Int))).alloc (.cells ZZ (66 : TypeId))) = w4 at *
  clear hw4
  have HB4 := hidD (Below.next HB3.out HBN.out)
  have HR4 := hidD (HR3.out.next HBN.out)
  have HLE3 : Hid (w.heap.size < w3.heap.size) := HR3.out.lt
  clear HBQ HBN HSZ4 HB3 HR3
  generalize hb3 : w3.heap.size = b3 at *
  clear hb3
  generalize hgg : w.heap.size = g at *
  have HGG := hidD hgg
  clear hgg
  obtain ⟨t1, ht1⟩ : ∃ t1 : Nat, T = t1 + 1 := ⟨T - 1, by omega⟩
  have hwt : IntKind.i64.wrap ((T : Int) - 1) = (t1 : Int) := by rw [IntKind.wrap_i64]; omega
  have k2 : ∀ i : KB w4 [p], i.v.cell? ⟨p, 2, none⟩ = some (.int .i64 (T : Int)) := fun i => (i.cell (b := p) (by simp) _).trans ((HB4.out.cell (p := ⟨p, 2, none⟩) HGP.out).trans HPT.out)
  have k3 : ∀ i : KB w4 [p], i.v.cell? ⟨p, 3, none⟩ = some (.int .i64 (st : Int)) := fun i => (i.cell (b := p) (by simp) _).trans ((HB4.out.cell (p := ⟨p, 3, none⟩) HGP.out).trans HPS.out)
  have hsti : (st : Int) < 128 := by omega
  have HAD := hidD (setAdd_cs 0 (b3 + 1) (st * 2) t1 (by omega) w4.drew (show CsAt w4.drew (b3 + 1) (ssC fun _ => 0) 66 by rw [HZZ.out]; exact HG4.out) (ss_in (S := fun _ => 0) hst (by decide)))
  rw [Nat.zero_or, ss_set hst (two_top (by omega)), show upd (fun _ => 0) st (2 ^ t1) = foI st T by unfold foI; rw [ht1]; rfl] at HAD
  have HT1 := hidD ht1
  clear ht1 hst
  refine wp_region_seg [0, 0, 0, 0, 0, 0, 0, 0, 0, 0, 99] 0 10 [p] (by kernel_rfl) (by kernel_rfl) (by kernel_rfl) (by kernel_rfl) (by kernel_rfl) (by kernel_rfl) (by kernel_rfl) (by kernel_rfl) (fun _ _ _ _ _ h => h) ?_
  simp only [SegW, pk, Nat.reduceMul, Nat.reduceBEq, cond_true, cond_false]
  repeat (go_big_quiet_step (fail))
  refine wpQuiet_nil ?_
  go_wp2_with (go_at_call 51; refine HAD.out.mono ?_; rintro e w5 ⟨rfl, hc5, hb5⟩; have HC5 := hidD hc5; have HB5 : Hid (But (b3 + 1) w4 w5) := (But.of (Below.drew (Below.refl _ _)) (Nat.le_of_lt HG4.out.lt)).trans hb5; clear hc5 hb5)
  have HGW : Hid (b3 + 1 ≤ w4.heap.size) := Nat.le_of_lt HG4.out.lt
  have HIT : Hid (∀ j x, fpIt R RE T nul bg (foI st T) j x < Top) := fun j => by
    induction j with
    | zero => exact fun x => fi_top hT x
    | succ j ih => exact fun x => fp_top HBT.out ih _ x
  have HINX : Hid (∀ j, fpIt R RE T nul bg (foI st T) (j + 1) = fpTo R RE T nul bg (fpIt R RE T nul bg (foI st T) j) rn) := fun j => by
    show fpTo R RE T nul bg (fpIt R RE T nul bg (foI st T) j) R.length = _
    rw [HRN.out]
  clear k2 k3 hwt
  go_step3
  go_wp2_with fail
  go_loopw [5] (fun _ wr => ∃ j : Nat, CsAt wr (b3 + 1) (ssC (fpIt R RE T nul bg (foI st T) j)) 66 ∧ But (b3 + 1) w4 wr) (fun _ wr => msS (rdX wr (b3 + 1)) 128)
  case atStart => exact ⟨0, HC5.out, HB5.out⟩
  case round =>
    obtain ⟨j, hcs, hbut⟩ := hrel
    obtain ⟨wo, hwo⟩ : ∃ wo, wo = wr := ⟨_, rfl⟩
    subst hwo
    have HCS := hidD hcs
    have HBO := hidD hbut
    have HXT := hidD (HIT.out j)
    have HXN := hidD (HINX.out j)
    generalize hX : fpIt R RE T nul bg (foI st T) j = X at *
    have HX := hidD hX
    clear hX
    have HLO : Hid (wo.heap[b3 + 1]? = some (.cells (ssC X) 66 (0, 0))) := hcs
    have HLA : Hid ((wo.alloc (.cells ZZ (66 : TypeId))).heap[wo.heap.size]? = some (.cells ZZ (66 : TypeId) (0, 0))) := heap_alloc_new _ _
    have HZS : Hid (ZZ.size = 256) := by show _ = _; rw [← HZZ.out]; exact ss_size _
    clear hcs hbut
    have HBN : Hid (Below wo.heap.size wo ((wo.alloc (.cells ZZ (66 : TypeId))).setRow wo.heap.size (ssC X))) := below_setRow ((Below.refl _ _).alloc (Nat.le_refl _) _) (Nat.le_refl _) _
    have HCB : Hid (CsAt ((wo.alloc (.cells ZZ (66 : TypeId))).setRow wo.heap.size (ssC X)) wo.heap.size (ssC X) 66) := setRow_heap _ _ ZZ (ssC X) 66 (0, 0) HLA.out
    have HBI : Hid (b3 + 1 ≠ wo.heap.size) := by have := HCS.out.lt; show b3 + 1 ≠ _; omega
    have HC4 : Hid (CsAt ((wo.alloc (.cells ZZ (66 : TypeId))).setRow wo.heap.size (ssC X)) (b3 + 1) (ssC (fpTo R RE T nul bg X 0)) 66) := HCS.out.next HBN.out
    have HB4K : Hid (But (b3 + 1) w4 ((wo.alloc (.cells ZZ (66 : TypeId))).setRow wo.heap.size (ssC X))) := HBO.out.next HBN.out HGW.out
    have f4 : ((wo.alloc (.cells ZZ (66 : TypeId))).setRow wo.heap.size (ssC X)).cell? ⟨p, 4, none⟩ = some (.slice ar rn cr) := (HB4K.out.cell (by have := HGW.out; have := HLE3.out; omega) (by have := HLE3.out; omega)).trans ((HB4.out.cell (p := ⟨p, 4, none⟩) HGP.out).trans HPC.out)
    go_wp2_with (first | (refine wpList_load_row rfl 66 _ rfl (b3 + 1) rfl 66 (ssC X) (0, 0) _ HLO.out Tryd.under66 rfl (HI66.out X) ?_) | (refine wpList_store_row rfl 66 _ _ rfl wo.heap.size (ssC X) rfl rfl 66 ZZ HLA.out (HI66.out X) (by rw [HSZ.out, HZS.out]) (HONE.out X) ?_))
    clear f4
    generalize hw6 : ((wo.alloc (.cells ZZ (66 : TypeId))).setRow wo.heap.size (ssC X)) = w6 at *
    clear hw6
    generalize hbk : wo.heap.size = bk at *
    have HBK := hidD hbk
    clear hbk
    go_loopw [36] (fun i wr => ∃ k : Nat, k ≤ rn ∧ i = .int .i64 k ∧ CsAt wr (b3 + 1) (ssC (fpTo R RE T nul bg X k)) 66 ∧ CsAt wr bk (ssC X) 66 ∧ But (b3 + 1) w4 wr) (fun i _ => rn - (intOf i).toNat)
    case atStart => exact ⟨0, Nat.zero_le _, rfl, HC4.out, HCB.out, HB4K.out⟩
    case round =>
      obtain ⟨k, hk, rfl, hcs, hcb, hbut⟩ := hrel
      have HCK := hidD hcs
      have HCBK := hidD hcb
      have HBUK := hidD hbut
      have HYT : Hid (∀ x, fpTo R RE T nul bg X k x < Top) := fun x => fp_top HBT.out HXT.out k x
      by_cases hlt : k < rn
      · have hlti : (k : Int) < rn := by omega
        obtain ⟨gr, orr, rv, har, hgr, hc1, hc2, hil⟩ := HRC.out k hlt
        obtain ⟨hleft, hrl, hrs⟩ := HRO.out k (by rw [HRN.out]; exact hlt)
        have HRS := hidD hrs
        subst har
        have hcellw : ∀ o', wr.cell? ⟨gr, o', none⟩ = w.cell? ⟨gr, o', none⟩ := fun o' => (hbut.cell (by have := HGW.out; have := HLE3.out; omega) (by have := HLE3.out; omega)).trans (HB4.out.cell (p := ⟨gr, o', none⟩) hgr)
        have f0 : wr.cell? ⟨gr, orr + k * 2, none⟩ = some (.int .i64 ((R.getD k (0, [])).1 : Int)) := (hcellw _).trans hc1
        have f1 : wr.cell? ⟨gr, orr + k * 2 + 1, none⟩ = some rv := (hcellw _).trans hc2
        obtain ⟨a2, c2, hrv, hrc1, hrc2, hrcell⟩ := hil
        subst hrv
        have HRCL := hidD hrcell
        have HNK : Hid (fpTo R RE T nul bg X (k + 1) = if RE.testBit (R.getD k (0, [])).1 then (fqL T nul bg (fpTo R RE T nul bg X k) (fpTo R RE T nul bg X k (R.getD k (0, [])).1) (R.getD k (0, [])).2).1 else fpTo R RE T nul bg X k) := rfl
        have hl128 : (R.getD k (0, [])).1 < 128 := by omega
        have HHR := hidD (fun w' => setHas_any RE HRT.out (R.getD k (0, [])).1 hl128 w')
        have HSRE := hidD (HSI.out RE HRT.out)
        unfold setV at HHR
        obtain ⟨wp, hwp⟩ : ∃ wp, wp = wr := ⟨_, rfl⟩
        subst hwp
        generalize hLF : (R.getD k (0, [])).1 = LF at *
        generalize hRR : (R.getD k (0, [])).2 = RR at *
        clear hLF hRR hcs hcb hbut hc1 hc2 hcellw hrs hrcell
        generalize hY : fpTo R RE T nul bg X k = Y at *
        clear hY
        generalize hmm : RR.length = m at *
        have HMM := hidD hmm
        clear hmm
        have HB5R : Hid (Below wp.heap.size wp (((wp.alloc (.cells #[.int .i64 0, .slice none 0 0] (76 : TypeId))).setCell ⟨wp.heap.size, 0, none⟩ (.int .i64 (LF : Int))).setCell ⟨wp.heap.size, 1, none⟩ (.slice a2 m c2))) := (((Below.refl _ _).alloc (Nat.le_refl _) _).setCell (p := ⟨wp.heap.size, 0, none⟩) (Nat.le_refl _) _).setCell (p := ⟨wp.heap.size, 1, none⟩) (Nat.le_refl _) _
        have HC5R : Hid (CsAt (((wp.alloc (.cells #[.int .i64 0, .slice none 0 0] (76 : TypeId))).setCell ⟨wp.heap.size, 0, none⟩ (.int .i64 (LF : Int))).setCell ⟨wp.heap.size, 1, none⟩ (.slice a2 m c2)) wp.heap.size #[.int .i64 (LF : Int), .slice a2 m c2] 76) := by
          have h0 : CsAt (wp.alloc (.cells #[.int .i64 0, .slice none 0 0] (76 : TypeId))) wp.heap.size #[.int .i64 0, .slice none 0 0] 76 := heap_alloc_new _ _
          exact (h0.put 0 _).put 1 _
        have HS5 : Hid (CsAt (((wp.alloc (.cells #[.int .i64 0, .slice none 0 0] (76 : TypeId))).setCell ⟨wp.heap.size, 0, none⟩ (.int .i64 (LF : Int))).setCell ⟨wp.heap.size, 1, none⟩ (.slice a2 m c2)) b3 (setC zc 0 RE) 61) := CsAt.next (show CsAt wp b3 (setC zc 0 RE) 61 from (HBUK.out.rest b3 HS4.out.lt (by omega)).trans HS4.out) HB5R.out
        have r0 : (((wp.alloc (.cells #[.int .i64 0, .slice none 0 0] (76 : TypeId))).setCell ⟨wp.heap.size, 0, none⟩ (.int .i64 (LF : Int))).setCell ⟨wp.heap.size, 1, none⟩ (.slice a2 m c2)).cell? ⟨b3, 0, none⟩ = some (.int .u64 (lw RE : Int)) := (HS5.out.cell 0).trans HSRE.out.c0
        have r1 : (((wp.alloc (.cells #[.int .i64 0, .slice none 0 0] (76 : TypeId))).setCell ⟨wp.heap.size, 0, none⟩ (.int .i64 (LF : Int))).setCell ⟨wp.heap.size, 1, none⟩ (.slice a2 m c2)).cell? ⟨b3, 1, none⟩ = some (.int .u64 (hw RE : Int)) := (HS5.out.cell 1).trans HSRE.out.c1
        have f2 : (((wp.alloc (.cells #[.int .i64 0, .slice none 0 0] (76 : TypeId))).setCell ⟨wp.heap.size, 0, none⟩ (.int .i64 (LF : Int))).setCell ⟨wp.heap.size, 1, none⟩ (.slice a2 m c2)).cell? ⟨wp.heap.size, 0, none⟩ = some (.int .i64 (LF : Int)) := HC5R.out.cell 0
        have HNE5 : Hid (wp.heap.size ≠ b3 + 1 ∧ wp.heap.size ≠ bk) := by have := HCK.out.lt; have := HCBK.out.lt; exact ⟨by omega, by omega⟩
        have HCK5 := hidD (HCK.out.next HB5R.out)
        have HCB5 := hidD (HCBK.out.next HB5R.out)
        have HBU5 := hidD (HBUK.out.next HB5R.out HGW.out)
        have HH5 := hidD (HHR.out (((wp.alloc (.cells #[.int .i64 0, .slice none 0 0] (76 : TypeId))).setCell ⟨wp.heap.size, 0, none⟩ (.int .i64 (LF : Int))).setCell ⟨wp.heap.size, 1, none⟩ (.slice a2 m c2)))
        have HYL := hidD (HYT.out LF)
        generalize hre0 : lw RE = e0 at *
        generalize hre1 : hw RE = e1 at *
        clear hre0 hre1
        cases hb : RE.testBit LF with
        | false =>
          rw [hb] at HH5 HNK
          rw [if_neg (by decide)] at HNK
          clear hb
          go_wp2_with (go_at_call 34; refine HH5.out.mono ?_; rintro e w8 ⟨rfl, hb8⟩; have HC8 := hidD (HCK5.out.next hb8); have HCB8 := hidD (HCB5.out.next hb8); have HBU8 := hidD (HBU5.out.next hb8 HGW.out); clear hb8)
          go_roundw
          case rel => exact ⟨k + 1, by omega, by go_num, by rw [HNK.out]; exact HC8.out, HCB8.out, HBU8.out⟩
          case measure => simp [intOf]; omega
        | true =>
          rw [hb] at HH5 HNK
          rw [if_pos rfl] at HNK
          clear hb
          have hlfi : (LF : Int) < 128 := by omega
          have hY2 := ss_in (S := Y) hl128 (HYT.out LF)
          have HYI := hidD hY2
          clear hY2
          generalize hy0 : lw (Y LF) = y0 at *
          generalize hy1 : hw (Y LF) = y1 at *
          go_wp2_with (go_at_call 34; refine HH5.out.mono ?_; rintro e w8 ⟨rfl, hb8⟩; have HC8 := hidD (HCK5.out.next hb8); have HCB8 := hidD (HCB5.out.next hb8); have HBU8 := hidD (HBU5.out.next hb8 HGW.out); have HR8 := hidD (HC5R.out.next hb8); have q0 : w8.cell? ⟨wp.heap.size, 0, none⟩ = some (.int .i64 (LF : Int)) := HR8.out.cell 0; have q1 : w8.cell? ⟨b3 + 1, LF * 2, none⟩ = some (.int .u64 (y0 : Int)) := (HC8.out.cell _).trans (by rw [← hy0]; exact HYI.out.c0); have q2 : w8.cell? ⟨b3 + 1, LF * 2 + 1, none⟩ = some (.int .u64 (y1 : Int)) := (HC8.out.cell _).trans (by rw [← hy1]; exact HYI.out.c1); have HBT8 : Hid (Below w8.heap.size w8 (((w8.alloc (.cells #[.int .u64 0, .int .u64 0] (61 : TypeId))).setCell ⟨w8.heap.size, 0, none⟩ (.int .u64 (y0 : Int))).setCell ⟨w8.heap.size, 1, none⟩ (.int .u64 (y1 : Int)))) := (((Below.refl _ _).alloc (Nat.le_refl _) _).setCell (p := ⟨w8.heap.size, 0, none⟩) (Nat.le_refl _) _).setCell (p := ⟨w8.heap.size, 1, none⟩) (Nat.le_refl _) _; have q3 : (((w8.alloc (.cells #[.int .u64 0, .int .u64 0] (61 : TypeId))).setCell ⟨w8.heap.size, 0, none⟩ (.int .u64 (y0 : Int))).setCell ⟨w8.heap.size, 1, none⟩ (.int .u64 (y1 : Int))).cell? ⟨wp.heap.size, 1, none⟩ = some (.slice a2 m c2) := (HBT8.out.cell (p := ⟨wp.heap.size, 1, none⟩) HR8.out.lt).trans (HR8.out.cell 1); clear hb8 r0 r1 f2)
          have HNXC : Hid (CsAt (((w8.alloc (.cells #[.int .u64 0, .int .u64 0] (61 : TypeId))).setCell ⟨w8.heap.size, 0, none⟩ (.int .u64 (y0 : Int))).setCell ⟨w8.heap.size, 1, none⟩ (.int .u64 (y1 : Int))) w8.heap.size (setC zc 0 (Y LF)) 61) := by
            have h0 : CsAt (w8.alloc (.cells #[.int .u64 0, .int .u64 0] (61 : TypeId))) w8.heap.size zc 61 := heap_alloc_new _ _
            have h1 : CsAt (((w8.alloc (.cells #[.int .u64 0, .int .u64 0] (61 : TypeId))).setCell ⟨w8.heap.size, 0, none⟩ (.int .u64 (y0 : Int))).setCell ⟨w8.heap.size, 1, none⟩ (.int .u64 (y1 : Int))) w8.heap.size ((zc.setIfInBounds 0 (.int .u64 (y0 : Int))).setIfInBounds 1 (.int .u64 (y1 : Int))) 61 := (h0.put 0 _).put 1 _
            rw [← hy0, ← hy1] at h1 ⊢
            exact h1
          have HBSZ : Hid (w8.heap.size < (((w8.alloc (.cells #[.int .u64 0, .int .u64 0] (61 : TypeId))).setCell ⟨w8.heap.size, 0, none⟩ (.int .u64 (y0 : Int))).setCell ⟨w8.heap.size, 1, none⟩ (.int .u64 (y1 : Int))).heap.size) := HNXC.out.lt
          clear q0 q1 q2 q3
          have HG8 : Hid (b3 + 1 ≤ w8.heap.size) := Nat.le_of_lt HC8.out.lt
          have HCW := hidD (HC8.out.next HBT8.out)
          have HBW : Hid (But (b3 + 1) w8 (((w8.alloc (.cells #[.int .u64 0, .int .u64 0] (61 : TypeId))).setCell ⟨w8.heap.size, 0, none⟩ (.int .u64 (y0 : Int))).setCell ⟨w8.heap.size, 1, none⟩ (.int .u64 (y1 : Int)))) := But.of HBT8.out HG8.out
          have HRB7 : Hid (wp.heap.size < w8.heap.size) := HR8.out.lt
          generalize hw9 : (((w8.alloc (.cells #[.int .u64 0, .int .u64 0] (61 : TypeId))).setCell ⟨w8.heap.size, 0, none⟩ (.int .u64 (y0 : Int))).setCell ⟨w8.heap.size, 1, none⟩ (.int .u64 (y1 : Int))) = w9 at *
          clear hw9 hy0 hy1
          generalize hb8 : w8.heap.size = b8 at *
          have HB8E := hidD hb8
          clear hb8
          generalize hb7 : wp.heap.size = b7 at *
          clear hb7
          have HFT : Hid (∀ r, (∀ x, (fqL T nul bg Y (Y LF) r).1 x < Top) ∧ (fqL T nul bg Y (Y LF) r).2 < Top) := fun r => fq_top HBT.out HYT.out (HYT.out LF) r
          have HDR : Hid (∀ d, d < RR.length → RR.drop d = RR.getD d 0 :: RR.drop (d + 1)) := fun d hd => drop_one hd
          have HD0 : Hid (RR.drop 0 = RR) := rfl
          have HDM : Hid (RR.drop m = []) := by show _ = _; rw [← HMM.out]; exact List.drop_length
          have HFC : Hid (∀ (x : Int) (r : List Int), fqL T nul bg Y (Y LF) (x :: r) = (if T ≤ x.toNat then upd (fqL T nul bg Y (Y LF) r).1 x.toNat ((fqL T nul bg Y (Y LF) r).1 x.toNat ||| (fqL T nul bg Y (Y LF) r).2) else (fqL T nul bg Y (Y LF) r).1, (if nul.testBit x.toNat then (fqL T nul bg Y (Y LF) r).2 else 0) ||| bg x.toNat)) := fun _ _ => rfl
          have HFN : Hid (fqL T nul bg Y (Y LF) [] = (Y, Y LF)) := rfl
          have HST : Hid (∀ A B, B < Top → setC (setC zc 0 A) 0 B = setC zc 0 B) := fun A B hB => setC_twice _ 0 A B (by decide) hB
          have HBNE : Hid (b8 ≠ b3 + 1) := by have := HC8.out.lt; have := HB8E.out; show _ ≠ _; omega
          go_loopw [9] (fun i wr => ∃ (c : Nat) (z : Int), c ≤ m ∧ i = .int .i64 z ∧ z = (c : Int) - 1 ∧ CsAt wr (b3 + 1) (ssC (fqL T nul bg Y (Y LF) (RR.drop c)).1) 66 ∧ CsAt wr b8 (setC zc 0 (fqL T nul bg Y (Y LF) (RR.drop c)).2) 61 ∧ But (b3 + 1) w8 wr) (fun i _ => (intOf i + 1).toNat)
          case atStart => exact ⟨m, (m : Int) - 1, Nat.le_refl _, rfl, rfl, by rw [HDM.out, HFN.out]; exact HCW.out, by rw [HDM.out, HFN.out]; exact HNXC.out, HBW.out⟩
          case round =>
            obtain ⟨c, z, hc, rfl, hz', hcs, hnx, hb8⟩ := hrel
            have HQC := hidD hcs
            have HQN := hidD hnx
            have HQ8 := hidD hb8
            have HPW : Hid (∀ o, wr.cell? ⟨p, o, none⟩ = w.cell? ⟨p, o, none⟩) := fun o => (hb8.cell (by have := HG8.out; have := HB8E.out; have := HLE3.out; have := HGP.out; omega) (by have := HLE3.out; omega)).trans ((HBU8.out.cell (by have := HGW.out; have := HLE3.out; omega) (by have := HLE3.out; omega)).trans (HB4.out.cell (p := ⟨p, o, none⟩) HGP.out))
            cases c with
            | zero =>
              obtain rfl : z = -1 := by omega
              rw [HD0.out] at HQC
              have HBE : Hid (But (b3 + 1) w4 wr) := HBU8.out.trans hb8
              have HCE : Hid (CsAt wr bk (ssC X) 66) := (hb8.rest bk HCB8.out.lt (fun e => HBI.out e.symm)).trans HCB8.out
              clear hcs hnx hb8 hz'
              go_wp2_with fail
              go_roundw
              case rel => exact ⟨k + 1, by omega, by go_num, by rw [HNK.out]; exact HQC.out, HCE.out, HBE.out⟩
              case measure => simp [intOf]; omega
            | succ d =>
              obtain rfl : z = (d : Int) := by omega
              clear hz'
              have hdm : (d : Int) < m := by omega
              obtain ⟨s, hs, hsn⟩ := HRS.out d (by omega)
              obtain ⟨gs, os, rfl, hgs, hcs2⟩ := HRCL.out d (by omega)
              rw [hs] at hcs2
              rw [HGG.out] at hgs
              have hc7 : CsAt wr b7 #[.int .i64 (LF : Int), .slice (some ⟨gs, os, none⟩) m c2] 76 := (hb8.rest b7 HR8.out.lt HNE5.out.1).trans HR8.out
              have f1 : wr.cell? ⟨b7, 1, none⟩ = some (.slice (some ⟨gs, os, none⟩) m c2) := hc7.cell 1
              have f4 : wr.cell? ⟨gs, os + d, none⟩ = some (.int .i64 (s : Int)) := (hb8.cell (by have := HG8.out; have := HB8E.out; have := HLE3.out; omega) (by have := HLE3.out; omega)).trans ((HBU8.out.cell (by have := HGW.out; have := HLE3.out; omega) (by have := HLE3.out; omega)).trans ((HB4.out.cell (p := ⟨gs, os + d, none⟩) hgs).trans hcs2))
              have f5 : wr.cell? ⟨p, 2, none⟩ = some (.int .i64 (T : Int)) := (HPW.out 2).trans HPT.out
              have HSTEP := hidD (HFC.out (RR.getD d 0) (RR.drop (d + 1)))
              rw [← HDR.out d (by have := HMM.out; omega), hs, Int.toNat_natCast] at HSTEP
              have HTT := hidD (HFT.out (RR.drop (d + 1)))
              have hs128 : (s : Int) < 128 := by omega
              have hsb : s < 128 := by omega
              have hBGS := HBG.out s hsb
              have HG0 := hidD hBGS.c0
              have HG1 := hidD hBGS.c1
              clear hcs hnx hb8 hcs2 hs hc7 hBGS
              generalize hS : (fqL T nul bg Y (Y LF) (RR.drop (d + 1))).1 = S at *
              generalize hN : (fqL T nul bg Y (Y LF) (RR.drop (d + 1))).2 = N at *
              clear hS hN
              have HJ1 := hidD (fun w' (hw' : CsAt w' (b3 + 1) (ssC S) 66) => setJoin_any (S s) N (b3 + 1) (s * 2) HTT.out.2 w' hw' (ss_in hsb (HTT.out.1 s)))
              rw [ss_set hsb (or_top (HTT.out.1 s) HTT.out.2)] at HJ1
              have HJ2 := hidD (fun M (hM : M < Top) w' (hw' : CsAt w' b8 (setC zc 0 M) 61) => setJoin_any M (bg s) b8 0 (HBT.out s) w' hw' (HSI.out M hM))
              have HJ3 : Hid (∀ M, M < Top → ∀ w', CsAt w' b8 (setC zc 0 M) 61 → Calls Tryd.prog 37 #[.pointer (some ⟨b8, 0, none⟩), setV (bg s)] w' fun e w'' => e = .returned (.tuple #[]) ∧ CsAt w'' b8 (setC zc 0 (M ||| bg s)) 61 ∧ But b8 w' w'') := fun M hM w' hw' => by
                have := HJ2.out M hM w' hw'
                rw [HST.out _ _ (or_top hM (HBT.out s))] at this
                exact this
              have HHAS := hidD (fun w' => setHas_any nul HNT.out s hsb w')
              have HN0 := hidD (HSI.out N HTT.out.2).c0
              have HN1 := hidD (HSI.out N HTT.out.2).c1
              unfold setV at HJ1 HJ3 HHAS
              clear HJ2
              generalize hx0 : lw N = x0 at *
              generalize hx1 : hw N = x1 at *
              generalize hg0 : lw (bg s) = g0 at *
              generalize hg1 : hw (bg s) = g1 at *
              generalize hn0 : lw nul = n0 at *
              generalize hn1 : hw nul = n1 at *
              clear hx0 hx1 hg0 hg1 hn0 hn1
              have HG8B : Hid (b3 + 1 ≤ w8.heap.size) := by have := HG8.out; have := HB8E.out; show _ ≤ _; omega
              have HPNE : Hid (p ≠ b8) := by have := HG8.out; have := HB8E.out; have := HLE3.out; have := HGP.out; show _ ≠ _; omega
              have HPLW : Hid (p < wr.heap.size) := by have := HQC.out.lt; have := HLE3.out; have := HGP.out; show _ < _; omega
              by_cases hTs : T ≤ s
              · have hTsi : (T : Int) ≤ (s : Int) := by omega
                rw [if_pos hTs] at HSTEP
                generalize hSX : upd S s (S s ||| N) = SX at *
                clear hTs
                have k0 : ∀ i : KB wr [b8], i.v.cell? ⟨b8, 0, none⟩ = some (.int .u64 (x0 : Int)) := fun i => (i.cell (b := b8) (by simp) _).trans ((HQN.out.cell 0).trans HN0.out)
                have k1 : ∀ i : KB wr [b8], i.v.cell? ⟨b8, 1, none⟩ = some (.int .u64 (x1 : Int)) := fun i => (i.cell (b := b8) (by simp) _).trans ((HQN.out.cell 1).trans HN1.out)
                have HBD : Hid (Below wr.heap.size wr wr.drew) := (Below.refl _ _).drew
                go_wp2_with fail
                refine wp_region_seg [0, 0, 0, 99] 0 3 [b8] (by kernel_rfl) (by kernel_rfl) (by kernel_rfl) (by kernel_rfl) (by kernel_rfl) (by kernel_rfl) (by kernel_rfl) (by kernel_rfl) (fun _ _ _ _ _ h => h) ?_
                simp only [SegW, pk, Nat.reduceMul, Nat.reduceBEq, cond_true, cond_false]
                repeat (go_big_quiet_step (fail))
                refine wpQuiet_nil ?_
                clear k0 k1
                cases hb : nul.testBit s with
                | true =>
                  rw [hb] at HHAS HSTEP
                  rw [if_pos rfl] at HSTEP
                  clear hb
                  go_upto_region 16 with (go_at_call 37; refine (HJ1.out wr.drew HQC.out).mono ?_; rintro e w10 ⟨rfl, hc10, hb10⟩; have HC10 := hidD hc10; have HB10 := hidD ((HQ8.out.next HBD.out HG8B.out).trans hb10); have HN10 : Hid (CsAt w10 b8 (setC zc 0 N) 61) := (hb10.rest b8 HQN.out.lt HBNE.out).trans HQN.out; have HP10 : Hid (∀ o, w10.cell? ⟨p, o, none⟩ = w.cell? ⟨p, o, none⟩) := fun o => (hb10.cell HPLW.out (by have := HLE3.out; have := HGP.out; omega)).trans (HPW.out o); have HPL10 : Hid (p < w10.heap.size) := Nat.lt_of_lt_of_le HPLW.out hb10.bel.size; have m0 : w10.cell? ⟨p, 5, none⟩ = some (.int .u64 (n0 : Int)) := (HP10.out _).trans HC0.out; have m1 : w10.cell? ⟨p, 6, none⟩ = some (.int .u64 (n1 : Int)) := (HP10.out _).trans HC1.out; clear hc10 hb10)
                  go_wp2_with (first
                    | (go_at_call 34; refine (HHAS.out _).mono ?_; rintro e w11 ⟨rfl, hb11⟩; have HC11 := hidD (HC10.out.next hb11); have HN11 := hidD (HN10.out.next hb11); have HB11 := hidD (HB10.out.next hb11 HG8B.out); have HP11 : Hid (∀ o, w11.cell? ⟨p, o, none⟩ = w.cell? ⟨p, o, none⟩) := fun o => (hb11.cell (p := ⟨p, o, none⟩) HPL10.out).trans (HP10.out o); have b0 : w11.cell? ⟨p, 7 + s * 2, none⟩ = some (.int .u64 (g0 : Int)) := (HP11.out _).trans HG0.out; have b1 : w11.cell? ⟨p, 7 + s * 2 + 1, none⟩ = some (.int .u64 (g1 : Int)) := (HP11.out _).trans HG1.out; clear hb11)
                    | (go_at_call 37; refine (HJ3.out N HTT.out.2 _ HN11.out).mono ?_; rintro e w13 ⟨rfl, hc13, hb13⟩; have HN13 := hidD hc13; have HC13 : Hid (CsAt w13 (b3 + 1) (ssC SX) 66) := (hb13.rest (b3 + 1) HC11.out.lt (fun e => HBNE.out e.symm)).trans HC11.out; have HB13 := hidD (HB11.out.far HG8B.out (Nat.le_of_eq HB8E.out) hb13); clear hc13 hb13))
                  go_roundw
                  case rel => exact ⟨d, (d : Int) - 1, by omega, by go_num, rfl, by rw [HSTEP.out]; exact HC13.out, by rw [HSTEP.out]; exact HN13.out, HB13.out⟩
                  case measure => simp [intOf]
                | false =>
                  rw [hb] at HHAS HSTEP
                  rw [if_neg (by decide)] at HSTEP
                  clear hb
                  go_upto_region 16 with (go_at_call 37; refine (HJ1.out wr.drew HQC.out).mono ?_; rintro e w10 ⟨rfl, hc10, hb10⟩; have HC10 := hidD hc10; have HB10 := hidD ((HQ8.out.next HBD.out HG8B.out).trans hb10); have HN10 : Hid (CsAt w10 b8 (setC zc 0 N) 61) := (hb10.rest b8 HQN.out.lt HBNE.out).trans HQN.out; have HP10 : Hid (∀ o, w10.cell? ⟨p, o, none⟩ = w.cell? ⟨p, o, none⟩) := fun o => (hb10.cell HPLW.out (by have := HLE3.out; have := HGP.out; omega)).trans (HPW.out o); have HPL10 : Hid (p < w10.heap.size) := Nat.lt_of_lt_of_le HPLW.out hb10.bel.size; have m0 : w10.cell? ⟨p, 5, none⟩ = some (.int .u64 (n0 : Int)) := (HP10.out _).trans HC0.out; have m1 : w10.cell? ⟨p, 6, none⟩ = some (.int .u64 (n1 : Int)) := (HP10.out _).trans HC1.out; clear hc10 hb10)
                  go_wp2_with (first
                    | (go_at_call 34; refine (HHAS.out _).mono ?_; rintro e w11 ⟨rfl, hb11⟩; have HC11 := hidD (HC10.out.next hb11); have HN11 := hidD (HN10.out.next hb11); have HB11 := hidD (HB10.out.next hb11 HG8B.out); have HP11 : Hid (∀ o, w11.cell? ⟨p, o, none⟩ = w.cell? ⟨p, o, none⟩) := fun o => (hb11.cell (p := ⟨p, o, none⟩) HPL10.out).trans (HP10.out o); have z0 : w11.cell? ⟨b8, 0, none⟩ = some (.int .u64 (x0 : Int)) := (HN11.out.cell 0).trans HN0.out; have z1 : w11.cell? ⟨b8, 1, none⟩ = some (.int .u64 (x1 : Int)) := (HN11.out.cell 1).trans HN1.out; have z2 := HN11.out.frz 0; have z3 := HN11.out.frz 1; have HB12 : Hid (But b8 w11 ((w11.setCell ⟨b8, 0, none⟩ (.int .u64 0)).setCell ⟨b8, 1, none⟩ (.int .u64 0))) := ((But.refl b8 w11).put 0 _).put 1 _; have HN12 : Hid (CsAt ((w11.setCell ⟨b8, 0, none⟩ (.int .u64 0)).setCell ⟨b8, 1, none⟩ (.int .u64 0)) b8 (setC zc 0 0) 61) := by { have := (HN11.out.put 0 (.int .u64 0)).put 1 (.int .u64 0); rw [← HST.out N 0 (by decide)]; exact this }; have HPL11 : Hid (p < w11.heap.size) := Nat.lt_of_lt_of_le HPL10.out hb11.size; have b0 : ((w11.setCell ⟨b8, 0, none⟩ (.int .u64 0)).setCell ⟨b8, 1, none⟩ (.int .u64 0)).cell? ⟨p, 7 + s * 2, none⟩ = some (.int .u64 (g0 : Int)) := (HB12.out.cell HPL11.out HPNE.out).trans ((HP11.out _).trans HG0.out); have b1 : ((w11.setCell ⟨b8, 0, none⟩ (.int .u64 0)).setCell ⟨b8, 1, none⟩ (.int .u64 0)).cell? ⟨p, 7 + s * 2 + 1, none⟩ = some (.int .u64 (g1 : Int)) := (HB12.out.cell HPL11.out HPNE.out).trans ((HP11.out _).trans HG1.out); have HC12 : Hid (CsAt ((w11.setCell ⟨b8, 0, none⟩ (.int .u64 0)).setCell ⟨b8, 1, none⟩ (.int .u64 0)) (b3 + 1) (ssC SX) 66) := (HB12.out.rest (b3 + 1) HC11.out.lt (fun e => HBNE.out e.symm)).trans HC11.out; have HB12X : Hid (But (b3 + 1) w8 ((w11.setCell ⟨b8, 0, none⟩ (.int .u64 0)).setCell ⟨b8, 1, none⟩ (.int .u64 0))) := HB11.out.far HG8B.out (Nat.le_of_eq HB8E.out) HB12.out; clear hb11)
                    | (go_at_call 37; refine (HJ3.out 0 (by decide) _ HN12.out).mono ?_; rintro e w13 ⟨rfl, hc13, hb13⟩; have HN13 := hidD hc13; have HC13 : Hid (CsAt w13 (b3 + 1) (ssC SX) 66) := (hb13.rest (b3 + 1) HC12.out.lt (fun e => HBNE.out e.symm)).trans HC12.out; have HB13 := hidD (HB12X.out.far HG8B.out (Nat.le_of_eq HB8E.out) hb13); clear hc13 hb13))
                  go_roundw
                  case rel => exact ⟨d, (d : Int) - 1, by omega, by go_num, rfl, by rw [HSTEP.out]; exact HC13.out, by rw [HSTEP.out]; exact HN13.out, HB13.out⟩
                  case measure => simp [intOf]
              · have hTsi : ¬ (T : Int) ≤ (s : Int) := by omega
                rw [if_neg hTs] at HSTEP
                clear hTs
                obtain ⟨SX, hSX⟩ : ∃ SX, SX = S := ⟨_, rfl⟩
                subst hSX
                have HC10 := hidD HQC.out
                have HN10 := hidD HQN.out
                have HB10 := hidD HQ8.out
                have HP10 := hidD HPW.out
                have HPL10 := hidD HPLW.out
                have m0 : wr.cell? ⟨p, 5, none⟩ = some (.int .u64 (n0 : Int)) := (HP10.out _).trans HC0.out
                have m1 : wr.cell? ⟨p, 6, none⟩ = some (.int .u64 (n1 : Int)) := (HP10.out _).trans HC1.out
                cases hb : nul.testBit s with
                | true =>
                  rw [hb] at HHAS HSTEP
                  rw [if_pos rfl] at HSTEP
                  clear hb
                  go_wp2_with (first
                    | (go_at_call 34; refine (HHAS.out _).mono ?_; rintro e w11 ⟨rfl, hb11⟩; have HC11 := hidD (HC10.out.next hb11); have HN11 := hidD (HN10.out.next hb11); have HB11 := hidD (HB10.out.next hb11 HG8B.out); have HP11 : Hid (∀ o, w11.cell? ⟨p, o, none⟩ = w.cell? ⟨p, o, none⟩) := fun o => (hb11.cell (p := ⟨p, o, none⟩) HPL10.out).trans (HP10.out o); have b0 : w11.cell? ⟨p, 7 + s * 2, none⟩ = some (.int .u64 (g0 : Int)) := (HP11.out _).trans HG0.out; have b1 : w11.cell? ⟨p, 7 + s * 2 + 1, none⟩ = some (.int .u64 (g1 : Int)) := (HP11.out _).trans HG1.out; clear hb11)
                    | (go_at_call 37; refine (HJ3.out N HTT.out.2 _ HN11.out).mono ?_; rintro e w13 ⟨rfl, hc13, hb13⟩; have HN13 := hidD hc13; have HC13 : Hid (CsAt w13 (b3 + 1) (ssC SX) 66) := (hb13.rest (b3 + 1) HC11.out.lt (fun e => HBNE.out e.symm)).trans HC11.out; have HB13 := hidD (HB11.out.far HG8B.out (Nat.le_of_eq HB8E.out) hb13); clear hc13 hb13))
                  go_roundw
                  case rel => exact ⟨d, (d : Int) - 1, by omega, by go_num, rfl, by rw [HSTEP.out]; exact HC13.out, by rw [HSTEP.out]; exact HN13.out, HB13.out⟩
                  case measure => simp [intOf]
                | false =>
                  rw [hb] at HHAS HSTEP
                  rw [if_neg (by decide)] at HSTEP
                  clear hb
                  go_wp2_with (first
                    | (go_at_call 34; refine (HHAS.out _).mono ?_; rintro e w11 ⟨rfl, hb11⟩; have HC11 := hidD (HC10.out.next hb11); have HN11 := hidD (HN10.out.next hb11); have HB11 := hidD (HB10.out.next hb11 HG8B.out); have HP11 : Hid (∀ o, w11.cell? ⟨p, o, none⟩ = w.cell? ⟨p, o, none⟩) := fun o => (hb11.cell (p := ⟨p, o, none⟩) HPL10.out).trans (HP10.out o); have z0 : w11.cell? ⟨b8, 0, none⟩ = some (.int .u64 (x0 : Int)) := (HN11.out.cell 0).trans HN0.out; have z1 : w11.cell? ⟨b8, 1, none⟩ = some (.int .u64 (x1 : Int)) := (HN11.out.cell 1).trans HN1.out; have z2 := HN11.out.frz 0; have z3 := HN11.out.frz 1; have HB12 : Hid (But b8 w11 ((w11.setCell ⟨b8, 0, none⟩ (.int .u64 0)).setCell ⟨b8, 1, none⟩ (.int .u64 0))) := ((But.refl b8 w11).put 0 _).put 1 _; have HN12 : Hid (CsAt ((w11.setCell ⟨b8, 0, none⟩ (.int .u64 0)).setCell ⟨b8, 1, none⟩ (.int .u64 0)) b8 (setC zc 0 0) 61) := by { have := (HN11.out.put 0 (.int .u64 0)).put 1 (.int .u64 0); rw [← HST.out N 0 (by decide)]; exact this }; have HPL11 : Hid (p < w11.heap.size) := Nat.lt_of_lt_of_le HPL10.out hb11.size; have b0 : ((w11.setCell ⟨b8, 0, none⟩ (.int .u64 0)).setCell ⟨b8, 1, none⟩ (.int .u64 0)).cell? ⟨p, 7 + s * 2, none⟩ = some (.int .u64 (g0 : Int)) := (HB12.out.cell HPL11.out HPNE.out).trans ((HP11.out _).trans HG0.out); have b1 : ((w11.setCell ⟨b8, 0, none⟩ (.int .u64 0)).setCell ⟨b8, 1, none⟩ (.int .u64 0)).cell? ⟨p, 7 + s * 2 + 1, none⟩ = some (.int .u64 (g1 : Int)) := (HB12.out.cell HPL11.out HPNE.out).trans ((HP11.out _).trans HG1.out); have HC12 : Hid (CsAt ((w11.setCell ⟨b8, 0, none⟩ (.int .u64 0)).setCell ⟨b8, 1, none⟩ (.int .u64 0)) (b3 + 1) (ssC SX) 66) := (HB12.out.rest (b3 + 1) HC11.out.lt (fun e => HBNE.out e.symm)).trans HC11.out; have HB12X : Hid (But (b3 + 1) w8 ((w11.setCell ⟨b8, 0, none⟩ (.int .u64 0)).setCell ⟨b8, 1, none⟩ (.int .u64 0))) := HB11.out.far HG8B.out (Nat.le_of_eq HB8E.out) HB12.out; clear hb11)
                    | (go_at_call 37; refine (HJ3.out 0 (by decide) _ HN12.out).mono ?_; rintro e w13 ⟨rfl, hc13, hb13⟩; have HN13 := hidD hc13; have HC13 : Hid (CsAt w13 (b3 + 1) (ssC SX) 66) := (hb13.rest (b3 + 1) HC12.out.lt (fun e => HBNE.out e.symm)).trans HC12.out; have HB13 := hidD (HB12X.out.far HG8B.out (Nat.le_of_eq HB8E.out) hb13); clear hc13 hb13))
                  go_roundw
                  case rel => exact ⟨d, (d : Int) - 1, by omega, by go_num, rfl, by rw [HSTEP.out]; exact HC13.out, by rw [HSTEP.out]; exact HN13.out, HB13.out⟩
                  case measure => simp [intOf]
      · obtain rfl : rn = k := by omega
        obtain ⟨r, hrun, hriff⟩ := eqSets (ss_ws (fun x _ => HYT.out x)) (ss_ws (S := X) (fun x _ => HXT.out x)) wr
        rw [ws_eq] at hriff
        have HLY : Hid (wr.heap[b3 + 1]? = some (.cells (ssC (fpTo R RE T nul bg X rn)) 66 (0, 0))) := hcs
        have HLB : Hid (wr.heap[bk]? = some (.cells (ssC X) 66 (0, 0))) := hcb
        have HLR : Hid (wr.heap[g]? = some (.cells ZZ 66 (0, 0))) := (hbut.rest g HR4.out.lt (by have := HLE3.out; omega)).trans HR4.out
        have HIF := hidD hriff
        have HGEX : Hid (∀ x, X x ≤ fpTo R RE T nul bg X rn x) := fun x => fp_ge R RE T nul bg X x rn
        have HIE : Hid (fpIt R RE T nul bg (foI st T) (j + 1) = fpTo R RE T nul bg X rn) := HXN.out
        have HMY : Hid (msS (rdX wr (b3 + 1)) 128 = msS (fpTo R RE T nul bg X rn) 128) := ms_congr 128 fun x hx => rdX_of hcs hx
        have HMX : Hid (msS (rdX wo (b3 + 1)) 128 = msS X 128) := ms_congr 128 fun x hx => rdX_of HCS.out hx
        have HZS : Hid (ZZ.size = 256) := by show _ = _; rw [← HZZ.out]; exact ss_size _
        have HFIX : Hid ((∀ x, x < 128 → fpTo R RE T nul bg X rn x = X x) → FoIs R n T st nul bg X) := fun h => ⟨RE, j, HRI.out, HX.out.symm, by rw [HRN.out]; exact h⟩
        have HEXT : Hid ((∀ x, x < 128 → fpTo R RE T nul bg X rn x = X x) → ssC (fpTo R RE T nul bg X rn) = ssC X) := fun h => ss_ext h
        clear hcs hcb hbut hriff
        generalize hYY : fpTo R RE T nul bg X rn = Y at *
        have HYY := hidD hYY
        clear hYY
        generalize hCY : ssC Y = CY at *
        generalize hCX : ssC X = CX at *
        have hiY : (Tryd.prog.info? 66).map (·.size) = some CY.size := by rw [← hCY]; exact HI66.out Y
        have hiX : (Tryd.prog.info? 66).map (·.size) = some CX.size := by rw [← hCX]; exact HI66.out X
        have HONY : Hid (CY.all (·.oneCell') = true) := by show _ = _; rw [← hCY]; exact HONE.out Y
        have HSY : Hid (CY.size = 256) := by show _ = _; rw [← hCY]; exact HSZ.out Y
        have HCY := hidD hCY
        have HCX := hidD hCX
        clear hCY hCX
        cases r with
        | true =>
          have hall := HIF.out.1 rfl
          have HFX := hidD (HFIX.out hall)
          have HEE := hidD (HEXT.out hall)
          clear hall
          go_wp2_with (first | (refine wpList_load_row rfl 66 _ rfl (b3 + 1) rfl 66 CY (0, 0) _ HLY.out Tryd.under66 rfl hiY ?_) | (refine wpList_load_row rfl 66 _ rfl bk rfl 66 CX (0, 0) _ HLB.out Tryd.under66 rfl hiX ?_) | (refine wpList_store_row rfl 66 _ _ rfl g CY rfl rfl 66 ZZ HLR.out hiY (by rw [HSY.out, HZS.out]) HONY.out ?_))
          refine bodyPost_ret (results_cell_row (P := Tryd.prog) (p := 2) (ty := 66) (by kernel_rfl) _ _ g 66 CY (0, 0) _ rfl (setRow_heap _ _ ZZ CY 66 (0, 0) HLR.out) Tryd.under66 rfl hiY) rfl ?_
          exact ⟨X, by rw [HCX.out, HEE.out], HXT.out, HFX.out, by rw [HGG.out]; exact below_setRow (HB4.out.trans (HBUK.out.bel.mono (by have := HLE3.out; omega))) (Nat.le_refl _) _⟩
        | false =>
          have HLT : Hid (msS Y 128 < msS X 128) := by
            refine ms_lt 128 (fun x _ => HGEX.out x) (fun x _ => HYT.out x) ?_
            refine Classical.byContradiction fun hno => ?_
            have := HIF.out.2 fun x hx => Classical.byContradiction fun hne => hno ⟨x, hx, fun e => hne e.symm⟩
            cases this
          go_wp2_with (first | (refine wpList_load_row rfl 66 _ rfl (b3 + 1) rfl 66 CY (0, 0) _ HLY.out Tryd.under66 rfl hiY ?_) | (refine wpList_load_row rfl 66 _ rfl bk rfl 66 CX (0, 0) _ HLB.out Tryd.under66 rfl hiX ?_))
          try rw [Exit.noGoto_normal]
          go_roundw
          case rel => exact ⟨j + 1, by rw [HIE.out, HCY.out]; exact HCK.out, HBUK.out⟩
          case measure =>
            have h1 := HLT.out
            have h3 := HMY.out
            have h4 := HMX.out
            simp only [h3, h4]
            exact h1
end Go.Proofs.YtgmbkelmgolkpabDoor
