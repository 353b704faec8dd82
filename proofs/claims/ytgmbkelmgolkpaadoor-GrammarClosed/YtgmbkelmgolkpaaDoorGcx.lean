/- The law GrammarClosed, its walk. -/
import Derived.Test.YtgmbkelmgolkpaaDoorGc
import Derived.Test.YtgmbkelmgolkpaaDoorGa
namespace Go.Proofs.YtgmbkelmgolkpaaDoor
open Go.RowKit Go.Maps
set_option linter.unusedVariables false

set_option maxRecDepth 100000 in
set_option maxHeartbeats 800000 in
theorem closed_bad (x : Tx) (hx : x.length ≤ maxLen) (hE : (prR x).2 ≠ 0) (mx : Int) (w : World) (h00 : 0 < w.heap.size) (hm : w.cell? ⟨0, 0, none⟩ = some (.int .i64 mx)) : Calls Tryd.prog 8 #[encT x] w fun e w' => e = .returned (.bool true) ∧ Below w.heap.size w w' := by
  have HAL := hidD (alive_any mx w h00 hm)
  have HPA := hidD (fun w' (hb : Below w.heap.size w w') => parse_any x hx mx w' (Nat.lt_of_lt_of_le h00 hb.size) ((hb.cell (p := ⟨0, 0, none⟩) h00).trans hm))
  have HPI : Hid (∀ w1 w2 e, PrIs x w1 w2 e → e = .returned (.tuple #[.pointer none, .int .i64 (prR x).1, .int .i64 (prR x).2]) ∧ Below w1.heap.size w1 w2) := fun w1 w2 e h => ⟨h.1 hE, h.2.2⟩
  clear hm
  unfold encT at *
  generalize (prR x).1 = n1 at *
  generalize (prR x).2 = e1 at *
  generalize bA x = b at *
  have hEd : decide (e1 = 0) = false := decide_eq_false hE
  go_enter Tryd.func8, Tryd.ntmps8
  go_wp2_with first
    | (go_at_call 9; refine (HPA.out _ HB1.out).mono ?_; intro e w2 h2; obtain ⟨rfl, hb⟩ := HPI.out _ _ _ h2; have HB2 := hidD (Below.next HB1.out hb); clear h2 hb)
    | (go_at_call 12; refine HAL.out.mono ?_; rintro e w1 ⟨rfl, hb⟩; have HB1 := hidD hb; clear hb)
  all_goals (go_ret; exact ⟨rfl, HB2.out⟩)
set_option maxRecDepth 100000 in
set_option maxHeartbeats 1600000 in
theorem closed_ok (x : Tx) (hx : x.length ≤ maxLen) (hE : (prR x).2 = 0) (mx : Int) (w : World) (h00 : 0 < w.heap.size) (hm : w.cell? ⟨0, 0, none⟩ = some (.int .i64 mx)) : Calls Tryd.prog 8 #[encT x] w fun e w' => e = .returned (.bool true) ∧ Below w.heap.size w w' := by
  have HAL := hidD (alive_any mx w h00 hm)
  have HPA := hidD (fun w' (hb : Below w.heap.size w w') => parse_any x hx mx w' (Nat.lt_of_lt_of_le h00 hb.size) ((hb.cell (p := ⟨0, 0, none⟩) h00).trans hm))
  have HPI : Hid (∀ w1 w2 e, PrIs x w1 w2 e → ∃ (p : Nat) (R : List (Nat × List Int)) (G : Gs), e = .returned (.tuple #[.pointer (some ⟨p, 0, none⟩), .int .i64 0, .int .i64 0]) ∧ Below w1.heap.size w1 w2 ∧ R.length ≤ 128 ∧ (∀ w', Below w2.heap.size w2 w' → Calls Tryd.prog 32 #[.pointer (some ⟨p, 0, none⟩)] w' fun e w'' => ∃ u, e = .returned u ∧ RuAt w'' u R ∧ Below w'.heap.size w' w'') ∧ (∀ w', Below w2.heap.size w2 w' → Calls Tryd.prog 25 #[.pointer (some ⟨p, 0, none⟩)] w' fun e w'' => ∃ E X us u, e = .returned u ∧ Cl w' p R G E X us ∧ IlAt w'' u us ∧ Below w'.heap.size w' w'')) := fun w1 w2 e h => by
    obtain ⟨p, nul, bg, fo, he, _, hg⟩ := h.2.1 hE
    refine ⟨p, _, gsOf _ _ _ nul bg fo, he, h.2.2, hg.len, fun w' hb => (hg.next hb).rules, fun w' hb => (useless_any (hg.next hb)).mono fun e w'' ⟨E, X, u, e1, e2, e3, e4, e5⟩ => ⟨E, X, _, u, e1, cl_of (hg.next hb) (fun k hk => left_other hE hk) e3, e4, e5⟩⟩
  clear hm hE
  unfold encT at *
  generalize bA x = b at *
  go_enter Tryd.func8, Tryd.ntmps8
  go_upto_region 7 with first
    | (go_at_call 25; refine (HUS.out _ HB23.out).mono ?_; rintro e w4 ⟨E, X, us, u4, rfl, hcl, hil, hb⟩; have HC4 := hidD (hcl.next hb); have HI4 := hidD hil; have HR4 := hidD (HR3.out.next hb); have HB4 := hidD (Below.next HB3.out hb); clear hcl hil hb)
    | (go_at_call 32; refine (HRU.out _ (Below.refl _ _)).mono ?_; rintro e w3 ⟨u3, rfl, hr, hb⟩; have HR3 := hidD hr; have HB23 := hidD hb; have HB3 := hidD (Below.next HB2.out hb); clear hr hb)
    | (go_at_call 9; refine (HPA.out _ HB1.out).mono ?_; intro e w2 h2; obtain ⟨p, R, G, rfl, hb, hrl, hru, hus⟩ := HPI.out _ _ _ h2; have HB2 := hidD (Below.next HB1.out hb); have HRU := hidD hru; have HUS := hidD hus; clear h2 hb hru hus)
    | (go_at_call 12; refine HAL.out.mono ?_; rintro e w1 ⟨rfl, hb⟩; have HB1 := hidD hb; clear hb)
  obtain ⟨ar, cr, h3, hrc⟩ := HR4.out
  subst h3
  have HRC := hidD hrc
  obtain ⟨a4, c4, h4, _⟩ := HI4.out
  subst h4
  have hu128 := HC4.out.us1
  have HSTA := hidD (fun w' (hb : Below w4.heap.size w4 w') => start_any w' (HC4.out.next hb).gm)
  have HTER := hidD (fun w' (hb : Below w4.heap.size w4 w') => terminals_any w' (HC4.out.next hb).gm)
  have HUSE := hidD (fun s w' (hb : Below w4.heap.size w4 w') => lawHas_any us (by omega) s _ w' (HI4.out.next hb))
  have htn := HC4.out.tn
  obtain ⟨FL, hfl, hsl⟩ := HC4.out.start
  have HFOS := hidD hfl
  have HSTR := hidD hsl
  clear hfl hsl
  clear hrc
  go_cut [43] from 28 to 43 (fun s wx => s = .bool false ∧ Below w4.heap.size w4 wx)
  case first =>
    cases hst : us.contains (G.s : Int) with
    | true =>
      have HU2 := hidD (HUSE.out (G.s : Int))
      rw [hst] at HU2
      clear hst
      go_wp2_with first
        | (go_at_call 33; refine (HU2.out _ (Below.refl _ _)).mono ?_; rintro e w6 ⟨rfl, hb⟩; have HB6 := hidD hb; clear hb)
        | (go_at_call 34; refine (HSTA.out _ (Below.refl _ _)).mono ?_; rintro e w5 ⟨rfl, hw⟩; subst w5)
      go_meet
      case rel => exact ⟨rfl, HB6.out⟩
    | false =>
      have HU2 := hidD (HUSE.out (G.s : Int))
      rw [hst] at HU2
      clear hst
      go_wp2_with first
        | (go_at_call 33; refine (HSTR.out _ _ HI8.out).mono ?_; rintro e w10 ⟨rfl, hb⟩; have HB10 := hidD (Below.next HB8.out hb); clear hb)
        | (go_at_call 35; refine (HTER.out _ HB8.out).mono ?_; rintro e w9 ⟨rfl, hw⟩; subst w9)
        | (go_at_call 23; refine (HFOS.out _ HB6.out).mono ?_; rintro e w8 ⟨u8, rfl, hi, hb⟩; have HI8 := hidD hi; have HB8 := hidD (Below.next HB6.out hb); clear hi hb)
        | (go_at_call 34; refine (HSTA.out _ HB6.out).mono ?_; rintro e w7 ⟨rfl, hw⟩; subst w7)
        | (go_at_call 33; refine (HU2.out _ (Below.refl _ _)).mono ?_; rintro e w6 ⟨rfl, hb⟩; have HB6 := hidD hb; clear hb HU2)
        | (go_at_call 34; refine (HSTA.out _ (Below.refl _ _)).mono ?_; rintro e w5 ⟨rfl, hw⟩; subst w5)
      go_meet
      case rel => exact ⟨rfl, HB10.out⟩
  case rest =>
    obtain ⟨rfl, hbc⟩ := hcut
    have HBC := hidD hbc
    have HCL := hidD HC4.out
    have HBW4 := hidD HB4.out
    clear hbc HFOS HSTR HAL HPA HPI HSTA HR3 HR4 HB23 HRU HUS HB1 HB2 HB3
    generalize hrn : R.length = rn at *
    have HRN := hidD hrn
    clear hrn
    go_wp2_with fail
    go_loopw [8] (fun i wr => ∃ k : Nat, k ≤ rn ∧ i = .int .i64 (k : Int) ∧ Below w4.heap.size w4 wr) (fun i _ => rn - (intOf i).toNat)
    case atStart => exact ⟨0, Nat.zero_le _, rfl, HBC.out⟩
    case round =>
      obtain ⟨k, hk, rfl, hbel⟩ := hrel
      have HBR := hidD hbel
      by_cases hlt : k < rn
      · have hlti : (k : Int) < (rn : Int) := by omega
        obtain ⟨g, o, rv, rfl, hg, hc1, hc2, hrv⟩ := HRC.out k hlt
        have f0 : wr.cell? ⟨g, o + k * 2, none⟩ = some (.int .i64 ((R.getD k (0, [])).1 : Int)) := (hbel.cell (p := ⟨g, o + k * 2, none⟩) hg).trans hc1
        have f1 : wr.cell? ⟨g, o + k * 2 + 1, none⟩ = some rv := (hbel.cell (p := ⟨g, o + k * 2 + 1, none⟩) hg).trans hc2
        have HIL := hidD (hrv.next hbel)
        obtain ⟨a2, c2, rfl, hc21, hc22, _⟩ := hrv
        obtain ⟨A, B, nb, hfa, hfb, hwi, hnu, hn1⟩ := HCL.out.right (k := k) (by rw [HRN.out]; exact hlt)
        have HFA := hidD hfa
        have HFB := hidD hfb
        have HWI := hidD hwi
        have HNU := hidD hnu
        have HN1 := hidD hn1
        have HRST := hidD (fun (hu : us.contains ((R.getD k (0, [])).1 : Int) = false) (d : Nat) (hd : d < (R.getD k (0, [])).2.length) (ht : (G.t : Int) ≤ (R.getD k (0, [])).2.getD d 0) => HCL.out.rest (k := k) (by rw [HRN.out]; exact hlt) hu hd ht)
        clear hbel hc1 hc2 HRC hfa hfb hwi hnu hn1
        generalize (R.getD k (0, [])).1 = LF at *
        generalize (R.getD k (0, [])).2 = RR at *
        generalize hmm : RR.length = m at *
        have HMM := hidD hmm
        clear hmm
        obtain ⟨wp, hwp⟩ : ∃ wp, wp = wr := ⟨_, rfl⟩
        subst hwp
        obtain ⟨zt, hzt⟩ := zero_of_info Tryd.zero63
        go_upto_region 13 with fail
        have HB5 : Hid (Below wp.heap.size wp (wp.alloc (.cells #[.int .i64 (LF : Int), .slice a2 m c2] (63 : TypeId)))) := (Below.refl _ _).alloc (Nat.le_refl _) _
        have HC5 : Hid (CsAt (wp.alloc (.cells #[.int .i64 (LF : Int), .slice a2 m c2] (63 : TypeId))) wp.heap.size #[.int .i64 (LF : Int), .slice a2 m c2] 63) := heap_alloc_last _ _
        generalize hw5 : wp.alloc (.cells #[.int .i64 (LF : Int), .slice a2 m c2] (63 : TypeId)) = w5 at *
        have HIL5 := hidD (HIL.out.next HB5.out)
        have HB45 := hidD (Below.next HBR.out HB5.out)
        have HBB := HC5.out.lt
        generalize hb9 : wp.heap.size = b9 at *
        clear hw5 hb9 f0 f1
        have f2 : w5.cell? ⟨b9, 0, none⟩ = some (.int .i64 (LF : Int)) := HC5.out.cell 0
        have f3 : w5.cell? ⟨b9, 1, none⟩ = some (.slice a2 m c2) := HC5.out.cell 1
        go_cut [78] from 54 to 78 (fun s wx => s = .bool false ∧ Below w5.heap.size w5 wx)
        case first =>
          have HBD : Hid (Below w4.heap.size w4 w5.drew) := HB45.out.drew
          have HD5 : Hid (Below w5.heap.size w5 w5.drew) := (Below.refl _ _).drew
          have HILD := hidD (HIL5.out.next HD5.out)
          have HNW : Hid (∀ w : World, IlAt (w.alloc (.cells #[.int .i64 (LF : Int)] (3 : TypeId))) (.slice (some ⟨w.heap.size, 0, none⟩) 1 1) [(LF : Int)]) := fun w => il_new (l := [(LF : Int)]) (by simp)
          have HAL : Hid (∀ (w : World) o, Below w.heap.size w (w.alloc o)) := fun w o => bel_al w o
          clear HIL HIL5 HB5 HBC HBR HRST HUSE HTER
          have HKK : Hid (∀ w', Below w5.heap.size w5 w' → ∃ i : KB w5 [b9], w' = i.v) := fun w' hb => ⟨⟨w', fun y hy => by rw [List.mem_singleton] at hy; subst hy; exact hb.block _ HBB⟩, rfl⟩
          have k0 : ∀ i : KB w5 [b9], i.v.cell? ⟨b9, 0, none⟩ = some (.int .i64 (LF : Int)) := fun i => (i.cell (b := b9) (by simp) _).trans f2
          have k1 : ∀ i : KB w5 [b9], i.v.cell? ⟨b9, 1, none⟩ = some (.slice a2 m c2) := fun i => (i.cell (b := b9) (by simp) _).trans f3
          clear f2 f3 HC5
          refine wp_region_fork [0, 0, 0, 1, 2, 2, 2, 2, 3, 5, 6, 6, 6, 6, 6, 6, 201, 6, 6, 6, 202, 99, 99, 99, 99] 3 21 16 20 _ _ [b9] (by kernel_rfl) (by kernel_rfl) (by kernel_rfl) (by kernel_rfl) (by kernel_rfl) (by kernel_rfl) (by kernel_rfl) rfl rfl (by kernel_rfl) (by kernel_rfl) (fun _ _ _ _ _ h => h) ?_
          simp only [SegW, TwoW, pk, Nat.reduceMul, Nat.reduceAdd, Nat.reduceBEq, cond_true, cond_false]
          repeat (go_big_quiet_step (fail))
          refine wpQuiet_nil ?_
          cases nb with
          | false =>
            go_wp2_with (go_at_call 18; refine (HNU.out _ _ HBD.out HILD.out).mono ?_; rintro e w6 ⟨rfl, hb⟩; have HB56 := hidD (Below.next HD5.out hb); have HB46 := hidD (Below.next HB45.out HB56.out); have HIL6 := hidD (HILD.out.next hb); clear hb)
            refine ⟨HKK.out _ HB56.out, ?_⟩
            repeat (go_big_quiet_step (fail))
            refine wpQuiet_nil ?_
            go_wp2_with fail
            refine ⟨HKK.out _ HB56.out, ?_⟩
            repeat (go_big_quiet_step (fail))
            refine wpQuiet_nil ?_
            go_wp2_with fail
            refine ⟨HKK.out _ HB56.out, ?_⟩
            repeat (go_big_quiet_step (fail))
            refine wpQuiet_nil ?_
            refine ⟨?_, ?_⟩
            · go_wp2_with (go_at_call 21; refine (HFA.out _ _ HB46.out HIL6.out).mono ?_; rintro e w7 ⟨u7, rfl, hi, hb⟩; have HA7 := hidD hi; have HB57 := hidD (Below.next HB56.out hb); have HB47 := hidD (Below.next HB46.out hb); obtain ⟨a7, c7, h7, _⟩ := hi; subst h7; clear hb)
              refine ⟨HKK.out _ HB57.out, ?_⟩
              go_wp2_with fail
              refine ⟨HKK.out _ (Below.next HB57.out (HAL.out _ _)), ?_⟩
              go_wp2_with first
                | (go_at_call 36; refine (HWI.out _ _ _ HA8.out HB8.out).mono ?_; rintro e w9 ⟨rfl, hb⟩; have HB59 := hidD (Below.next HB58.out hb); clear hb)
                | (go_at_call 21; refine (HFB.out _ _ (Below.next HB47.out (HAL.out _ _)) (HNW.out w7)).mono ?_; rintro e w8 ⟨u8, rfl, hi, hb⟩; have HB8 := hidD hi; have HA8 := hidD (HA7.out.next (Below.next (HAL.out _ _) hb)); have HB58 := hidD (Below.next (Below.next HB57.out (HAL.out _ _)) hb); obtain ⟨a8, c8, h8, _⟩ := hi; subst h8; clear hb)
              go_meet
              case rel => exact ⟨rfl, HB59.out⟩
            · go_wp2_with fail
              refine ⟨HKK.out _ (Below.next HB56.out (HAL.out _ _)), ?_⟩
              go_wp2_with (go_at_call 21; refine (HFA.out _ _ (Below.next HB46.out (HAL.out _ _)) (HIL6.out.next (HAL.out _ _))).mono ?_; rintro e w7 ⟨u7, rfl, hi, hb⟩; have HA7 := hidD hi; have HB57 := hidD (Below.next (Below.next HB56.out (HAL.out _ _)) hb); have HB47 := hidD (Below.next HB45.out HB57.out); have HIB7 := hidD ((HNW.out w6).next hb); obtain ⟨a7, c7, h7, _⟩ := hi; subst h7; clear hb)
              refine ⟨HKK.out _ HB57.out, ?_⟩
              go_wp2_with first
                | (go_at_call 36; refine (HWI.out _ _ _ HA8.out HB8.out).mono ?_; rintro e w9 ⟨rfl, hb⟩; have HB59 := hidD (Below.next HB58.out hb); clear hb)
                | (go_at_call 21; refine (HFB.out _ _ HB47.out HIB7.out).mono ?_; rintro e w8 ⟨u8, rfl, hi, hb⟩; have HB8 := hidD hi; have HA8 := hidD (HA7.out.next hb); have HB58 := hidD (Below.next HB57.out hb); obtain ⟨a8, c8, h8, _⟩ := hi; subst h8; clear hb)
              go_meet
              case rel => exact ⟨rfl, HB59.out⟩
          | true =>
            have HNL := hidD (HN1.out rfl)
            go_wp2_with (go_at_call 18; refine (HNU.out _ _ HBD.out HILD.out).mono ?_; rintro e w0 ⟨rfl, hb⟩; have HB50 := hidD (Below.next HD5.out hb); have HI0 := hidD (HILD.out.next hb); clear hb)
            refine ⟨HKK.out _ HB50.out, ?_⟩
            repeat (go_big_quiet_step (fail))
            refine wpQuiet_nil ?_
            go_wp2_with fail
            refine ⟨HKK.out _ (Below.next HB50.out (HAL.out _ _)), ?_⟩
            repeat (go_big_quiet_step (fail))
            refine wpQuiet_nil ?_
            go_wp2_with (go_at_call 18; refine (HNL.out _ _ (Below.next (Below.next HB45.out HB50.out) (HAL.out _ _)) (HNW.out w0)).mono ?_; rintro e w6 ⟨rfl, hb⟩; have HB56 := hidD (Below.next (Below.next HB50.out (HAL.out _ _)) hb); have HB46 := hidD (Below.next HB45.out HB56.out); have HIL6 := hidD ((HI0.out.next (HAL.out _ _)).next hb); clear hb)
            refine ⟨HKK.out _ HB56.out, ?_⟩
            repeat (go_big_quiet_step (fail))
            refine wpQuiet_nil ?_
            refine ⟨?_, ?_⟩
            · go_wp2_with (go_at_call 21; refine (HFA.out _ _ HB46.out HIL6.out).mono ?_; rintro e w7 ⟨u7, rfl, hi, hb⟩; have HA7 := hidD hi; have HB57 := hidD (Below.next HB56.out hb); have HB47 := hidD (Below.next HB46.out hb); obtain ⟨a7, c7, h7, _⟩ := hi; subst h7; clear hb)
              refine ⟨HKK.out _ HB57.out, ?_⟩
              go_wp2_with fail
              refine ⟨HKK.out _ (Below.next HB57.out (HAL.out _ _)), ?_⟩
              go_wp2_with first
                | (go_at_call 36; refine (HWI.out _ _ _ HA8.out HB8.out).mono ?_; rintro e w9 ⟨rfl, hb⟩; have HB59 := hidD (Below.next HB58.out hb); clear hb)
                | (go_at_call 21; refine (HFB.out _ _ (Below.next HB47.out (HAL.out _ _)) (HNW.out w7)).mono ?_; rintro e w8 ⟨u8, rfl, hi, hb⟩; have HB8 := hidD hi; have HA8 := hidD (HA7.out.next (Below.next (HAL.out _ _) hb)); have HB58 := hidD (Below.next (Below.next HB57.out (HAL.out _ _)) hb); obtain ⟨a8, c8, h8, _⟩ := hi; subst h8; clear hb)
              go_meet
              case rel => exact ⟨rfl, HB59.out⟩
            · go_wp2_with fail
              refine ⟨HKK.out _ (Below.next HB56.out (HAL.out _ _)), ?_⟩
              go_wp2_with (go_at_call 21; refine (HFA.out _ _ (Below.next HB46.out (HAL.out _ _)) (HIL6.out.next (HAL.out _ _))).mono ?_; rintro e w7 ⟨u7, rfl, hi, hb⟩; have HA7 := hidD hi; have HB57 := hidD (Below.next (Below.next HB56.out (HAL.out _ _)) hb); have HB47 := hidD (Below.next HB45.out HB57.out); have HIB7 := hidD ((HNW.out w6).next hb); obtain ⟨a7, c7, h7, _⟩ := hi; subst h7; clear hb)
              refine ⟨HKK.out _ HB57.out, ?_⟩
              go_wp2_with first
                | (go_at_call 36; refine (HWI.out _ _ _ HA8.out HB8.out).mono ?_; rintro e w9 ⟨rfl, hb⟩; have HB59 := hidD (Below.next HB58.out hb); clear hb)
                | (go_at_call 21; refine (HFB.out _ _ HB47.out HIB7.out).mono ?_; rintro e w8 ⟨u8, rfl, hi, hb⟩; have HB8 := hidD hi; have HA8 := hidD (HA7.out.next hb); have HB58 := hidD (Below.next HB57.out hb); obtain ⟨a8, c8, h8, _⟩ := hi; subst h8; clear hb)
              go_meet
              case rel => exact ⟨rfl, HB59.out⟩
        case rest =>
          obtain ⟨rfl, hb13⟩ := hcut
          have HB5C := hidD hb13
          obtain ⟨hmc, hc64, hce⟩ := HIL5.out.at
          have HCE := hidD hce
          have HFR := hidD (fun C (hC : C ≤ m) => il_from HIL5.out C hC)
          have hu128 := HCL.out.us1
          clear hb13 hce HFA HFB HWI HNU HN1 HIL
          go_wp2_with fail
          go_loopw [10] (fun i wr => ∃ d : Nat, d ≤ m ∧ i = .int .i64 (d : Int) ∧ Below w5.heap.size w5 wr) (fun i _ => m - (intOf i).toNat)
          case atStart => exact ⟨0, Nat.zero_le _, rfl, HB5C.out⟩
          case round =>
            obtain ⟨d, hd, rfl, hbd⟩ := hrel
            have HBD := hidD hbd
            have g0 : wr.cell? ⟨b9, 0, none⟩ = some (.int .i64 (LF : Int)) := (hbd.cell (p := ⟨b9, 0, none⟩) HBB).trans f2
            have g1 : wr.cell? ⟨b9, 1, none⟩ = some (.slice a2 m c2) := (hbd.cell (p := ⟨b9, 1, none⟩) HBB).trans f3
            have HB4D := hidD (Below.next HB45.out hbd)
            by_cases hdt : d < m
            · have hdti : (d : Int) < (m : Int) := by omega
              obtain ⟨gs, os, rfl, hgs, hcx⟩ := HCE.out d hdt
              have g2 : wr.cell? ⟨gs, os + d, none⟩ = some (.int .i64 (RR.getD d 0)) := (hbd.cell (p := ⟨gs, os + d, none⟩) hgs).trans hcx
              obtain ⟨a3, c3, hsl, hil⟩ := HFR.out (d + 1) (by omega)
              have hsl : ∀ w, (Instr.sliceAt 43 (.slice (some ⟨gs, os, none⟩) m c2) (some (.int .i64 ((d : Int) + 1))) none none).run Tryd.prog w = .ok (.slice a3 (m - (d + 1)) c3) w := hsl
              have HDR := hidD (hil.next hbd)
              have HRS := hidD (fun hu ht => HRST.out hu d hdt ht)
              have HTR := hidD (HTER.out wr HB4D.out)
              have HUS := hidD (HUSE.out (LF : Int) wr HB4D.out)
              clear hbd hcx hil HRST HCE HFR HTER HUSE
              generalize RR.getD d 0 = x at *
              generalize RR.drop (d + 1) = DR at *
              by_cases hxt : x < (G.t : Int)
              · have hxd : decide (x < (G.t : Int)) = true := decide_eq_true hxt
                go_wp2_with (go_at_call 35; refine HTR.out.mono ?_; rintro e w6 ⟨rfl, hw⟩; subst w6)
                go_roundw
                case rel => exact ⟨d + 1, by omega, by go_num, HBD.out⟩
                case measure => simp [intOf]; omega
              · have hxd : decide (x < (G.t : Int)) = false := decide_eq_false hxt
                cases hub : us.contains (LF : Int) with
                | true =>
                  rw [hub] at HUS
                  clear hub
                  go_wp2_with first
                    | (go_at_call 33; refine HUS.out.mono ?_; rintro e w7 ⟨rfl, hb⟩; have HB7 := hidD (Below.next HBD.out hb); clear hb)
                    | (go_at_call 35; refine HTR.out.mono ?_; rintro e w6 ⟨rfl, hw⟩; subst w6)
                  go_roundw
                  case rel => exact ⟨d + 1, by omega, by go_num, HB7.out⟩
                  case measure => simp [intOf]; omega
                | false =>
                  rw [hub] at HUS
                  obtain ⟨C, D, F, nd, q1, q2, q3, q4, q5, q6⟩ := HRS.out hub (by omega)
                  have HQ1 := hidD q1
                  have HQ2 := hidD q2
                  have HQ3 := hidD q3
                  have HQ4 := hidD q4
                  have HQ5 := hidD q5
                  have HQ6 := hidD q6
                  clear hub q1 q2 q3 q4 q5 q6 HRS
                  cases nd with
                  | false =>
                    go_wp2_with first
                      | (go_at_call 18; refine (HQ4.out _ _ HB410.out HD10.out).mono ?_; rintro e w11 ⟨rfl, hb⟩; have HB11 := hidD (Below.next HB10.out hb); clear hb)
                      | (go_at_call 36; refine (HQ3.out _ _ _ HC9.out HI9.out).mono ?_; rintro e w10 ⟨rfl, hb⟩; have HB10 := hidD (Below.next HB9.out hb); have HB410 := hidD (Below.next HB49.out hb); have HD10 := hidD (HD9.out.next hb); have e1 : w10.cell? ⟨b9, 1, none⟩ = some (.slice (some ⟨gs, os, none⟩) m c2) := (HB10.out.cell (p := ⟨b9, 1, none⟩) HBB).trans f3; clear hb)
                      | (go_at_call 23; refine (HQ2.out _ HB48.out).mono ?_; rintro e w9 ⟨u9, rfl, hi, hb⟩; have HI9 := hidD hi; have HC9 := hidD (HI8.out.next hb); have HB9 := hidD (Below.next HB8.out hb); have HB49 := hidD (Below.next HB48.out hb); have HD9 := hidD (HD8.out.next hb); clear hi hb)
                      | (go_at_call 21; refine (HQ1.out _ _ HB47.out HD7.out).mono ?_; rintro e w8 ⟨u8, rfl, hi, hb⟩; have HI8 := hidD hi; have HB8 := hidD (Below.next HB7.out hb); have HB48 := hidD (Below.next HB47.out hb); have HD8 := hidD (HD7.out.next hb); clear hi hb)
                      | (go_at_call 33; refine HUS.out.mono ?_; rintro e w7 ⟨rfl, hb⟩; have HB7 := hidD (Below.next HBD.out hb); have HB47 := hidD (Below.next HB4D.out hb); have HD7 := hidD (HDR.out.next hb); have e0 : w7.cell? ⟨b9, 0, none⟩ = some (.int .i64 (LF : Int)) := (HB7.out.cell (p := ⟨b9, 0, none⟩) HBB).trans f2; have e1 : w7.cell? ⟨b9, 1, none⟩ = some (.slice (some ⟨gs, os, none⟩) m c2) := (HB7.out.cell (p := ⟨b9, 1, none⟩) HBB).trans f3; clear hb)
                      | (go_at_call 35; refine HTR.out.mono ?_; rintro e w6 ⟨rfl, hw⟩; subst w6)
                    go_roundw
                    case rel => exact ⟨d + 1, by omega, by go_num, HB11.out⟩
                    case measure => simp [intOf]; omega
                  | true =>
                    have HQ7 := hidD (HQ6.out rfl)
                    go_wp2_with first
                      | (go_at_call 36; refine (HQ7.out _ _ _ HF13.out HI13.out).mono ?_; rintro e w14 ⟨rfl, hb⟩; have HB14 := hidD (Below.next HB13.out hb); clear hb)
                      | (go_at_call 23; refine (HQ2.out _ HB412.out).mono ?_; rintro e w13 ⟨u13, rfl, hi, hb⟩; have HI13 := hidD hi; have HF13 := hidD (HI12.out.next hb); have HB13 := hidD (Below.next HB12.out hb); clear hi hb)
                      | (go_at_call 23; refine (HQ5.out _ HB411.out).mono ?_; rintro e w12 ⟨u12, rfl, hi, hb⟩; have HI12 := hidD hi; have HB12 := hidD (Below.next HB11.out hb); have HB412 := hidD (Below.next HB411.out hb); clear hi hb)
                      | (go_at_call 18; refine (HQ4.out _ _ HB410.out HD10.out).mono ?_; rintro e w11 ⟨rfl, hb⟩; have HB11 := hidD (Below.next HB10.out hb); have HB411 := hidD (Below.next HB410.out hb); have e2 : w11.cell? ⟨b9, 0, none⟩ = some (.int .i64 (LF : Int)) := (HB11.out.cell (p := ⟨b9, 0, none⟩) HBB).trans f2; clear hb)
                      | (go_at_call 36; refine (HQ3.out _ _ _ HC9.out HI9.out).mono ?_; rintro e w10 ⟨rfl, hb⟩; have HB10 := hidD (Below.next HB9.out hb); have HB410 := hidD (Below.next HB49.out hb); have HD10 := hidD (HD9.out.next hb); have e1 : w10.cell? ⟨b9, 1, none⟩ = some (.slice (some ⟨gs, os, none⟩) m c2) := (HB10.out.cell (p := ⟨b9, 1, none⟩) HBB).trans f3; clear hb)
                      | (go_at_call 23; refine (HQ2.out _ HB48.out).mono ?_; rintro e w9 ⟨u9, rfl, hi, hb⟩; have HI9 := hidD hi; have HC9 := hidD (HI8.out.next hb); have HB9 := hidD (Below.next HB8.out hb); have HB49 := hidD (Below.next HB48.out hb); have HD9 := hidD (HD8.out.next hb); clear hi hb)
                      | (go_at_call 21; refine (HQ1.out _ _ HB47.out HD7.out).mono ?_; rintro e w8 ⟨u8, rfl, hi, hb⟩; have HI8 := hidD hi; have HB8 := hidD (Below.next HB7.out hb); have HB48 := hidD (Below.next HB47.out hb); have HD8 := hidD (HD7.out.next hb); clear hi hb)
                      | (go_at_call 33; refine HUS.out.mono ?_; rintro e w7 ⟨rfl, hb⟩; have HB7 := hidD (Below.next HBD.out hb); have HB47 := hidD (Below.next HB4D.out hb); have HD7 := hidD (HDR.out.next hb); have e0 : w7.cell? ⟨b9, 0, none⟩ = some (.int .i64 (LF : Int)) := (HB7.out.cell (p := ⟨b9, 0, none⟩) HBB).trans f2; have e1 : w7.cell? ⟨b9, 1, none⟩ = some (.slice (some ⟨gs, os, none⟩) m c2) := (HB7.out.cell (p := ⟨b9, 1, none⟩) HBB).trans f3; clear hb)
                      | (go_at_call 35; refine HTR.out.mono ?_; rintro e w6 ⟨rfl, hw⟩; subst w6)
                    go_roundw
                    case rel => exact ⟨d + 1, by omega, by go_num, HB14.out⟩
                    case measure => simp [intOf]; omega
            · obtain rfl : d = m := by omega
              go_wp2_with fail
              go_roundw
              case rel => exact ⟨k + 1, by omega, by go_num, HB4D.out⟩
              case measure => simp [intOf]; omega
      · obtain rfl : k = rn := by omega
        go_wp2_with fail
        go_ret
        exact ⟨rfl, Below.next HBW4.out HBR.out⟩
theorem closed_any (x : Tx) (hx : x.length ≤ maxLen) (mx : Int) (w : World) (h00 : 0 < w.heap.size) (hm : w.cell? ⟨0, 0, none⟩ = some (.int .i64 mx)) : Calls Tryd.prog 8 #[encT x] w fun e w' => e = .returned (.bool true) ∧ Below w.heap.size w w' := by
  by_cases hE : (prR x).2 = 0
  · exact closed_ok x hx hE mx w h00 hm
  · exact closed_bad x hx hE mx w h00 hm
end Go.Proofs.YtgmbkelmgolkpaaDoor
