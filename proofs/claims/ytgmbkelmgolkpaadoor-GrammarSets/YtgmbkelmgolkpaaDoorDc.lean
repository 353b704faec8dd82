/- Texts of one proof, one behind the other. -/
import Derived.Test.YtgmbkelmgolkpaaDoorDa
import Derived.Test.YtgmbkelmgolkpaaDoorGx
import Derived.Test.YtgmbkelmgolkpaaDoorGw
/- The document's reached and Useless. -/
namespace Go.Proofs.YtgmbkelmgolkpaaDoor
open Go.RowKit Go.Maps
set_option linter.unusedVariables false

theorem rio_pow {n : Nat} {l : List Int} (h : SymL n l) : ∀ q, q ≤ l.length → riTo l q < 2 ^ n
  | 0, _ => Nat.two_pow_pos n
  | q + 1, hq => by
    obtain ⟨s, hs, h1⟩ := h q (by omega)
    rw [riTo, hs, Int.toNat_natCast]
    exact or_pow (rio_pow h q (by omega)) h1
theorem rpo_pow {R : Rus} {n : Nat} (hR : RuOk R n) (W : Nat) {M : Nat} (hM : M < 2 ^ n) : ∀ k, k ≤ R.length → rpTo R W M k < 2 ^ n
  | 0, _ => hM
  | k + 1, hk => by
    have := rpo_pow hR W hM k (by omega)
    rw [rpTo]; split
    · exact Nat.or_lt_two_pow this (rio_pow (hR k (by omega)).2.2 _ (Nat.le_refl _))
    · exact this
theorem rpoIt_pow {R : Rus} {n : Nat} (hR : RuOk R n) (W : Nat) {M : Nat} (hM : M < 2 ^ n) : ∀ j, rpIt R W M j < 2 ^ n
  | 0 => hM
  | j + 1 => rpo_pow hR W (rpoIt_pow hR W hM j) _ (Nat.le_refl _)
theorem all_ut {n : Nat} {l : List Int} (h : SymL n l) : (l.all fun x => (utS n).testBit x.toNat) = true := all_true fun q hq => by
  obtain ⟨s, hs, h1⟩ := h q hq
  rw [hs, Int.toNat_natCast, ut_bit, decide_eq_true h1]
section
variable {w : World} {p : Nat} {a0 : Option Addr} {k0 : Nat} {a1 : Option Addr} {k1 gr og cr : Nat} {T O : List Tx} {R : Rus} {s : Int}
set_option maxRecDepth 100000 in
set_option maxHeartbeats 3200000 in
theorem refReached_any (h : RgW w p a0 k0 a1 k1 gr og cr T O R s) (n : Nat) (hnn : (allN T O).length = n) (hn : n ≤ 128) (hR : RuOk R n) (hrl : R.length ≤ 128) (st : Nat) (hst : (T.length : Int) + 1 + s = (st : Int)) (hs0 : 0 ≤ s) (hstn : st < n) : Calls Tryd.prog 74 #[.pointer (some ⟨p, 0, none⟩)] w fun e w' => ∃ g M, e = .returned (.slice (some ⟨g, 0, none⟩) n n) ∧ CsAt w' g (mkC n M) 3 ∧ ReIs R (utS n) (2 ^ st) M ∧ w.heap.size ≤ g ∧ Below w.heap.size w w' := by
  have HG := hidD h
  have HRO := hidD hR
  have HPX := hidD (fun M (hM : M < 2 ^ n) k hk => rpo_pow hR (utS n) hM k hk)
  have HG0 : Hid (∀ M, rpTo R (utS n) M 0 = M) := fun _ => rfl
  have HGN0 : Hid (∀ M k, rpTo R (utS n) M (k + 1) = if (rpTo R (utS n) M k).testBit (R.getD k (0, [])).1 && (R.getD k (0, [])).2.all (fun x => (utS n).testBit x.toNat) then rpTo R (utS n) M k ||| riTo (R.getD k (0, [])).2 (R.getD k (0, [])).2.length else rpTo R (utS n) M k) := fun _ _ => rfl
  have HPW := hidD (fun j => rpoIt_pow hR (utS n) (M := 2 ^ st) (Nat.pow_lt_pow_right (by decide) hstn) j)
  have HNJ0 : Hid (∀ j, rpIt R (utS n) (2 ^ st) (j + 1) = rpTo R (utS n) (rpIt R (utS n) (2 ^ st) j) R.length) := fun _ => rfl
  have HALU0 : Hid (∀ k, k < R.length → ((R.getD k (0, [])).2.all fun x => (utS n).testBit x.toNat) = true) := fun k hk => all_ut (hR k hk).2.2
  have hmk := make_marks n (by omega)
  have HSY0 := hidD (refSymbols_any h (by rw [allN_len] at hnn; omega))
  rw [hnn] at HSY0
  have HSTA := hidD (fun w' (hb : Below w.heap.size w w') => refStart_any (h.next hb) (by rw [allN_len] at hnn; omega) ⟨hs0, by rw [allN_len] at hnn; omega⟩)
  rw [hst] at HSTA
  have HWA : Hid (∀ (w1 : World) o, Below w1.heap.size w1 (w1.alloc o)) := fun w1 o => (Below.refl _ _).alloc (Nat.le_refl _) o
  have HZB : Hid (0 ||| 2 ^ st = 2 ^ st) := Nat.zero_or _
  clear h hR hnn hst hs0
  generalize hrn : R.length = rn at *
  have HRN := hidD hrn
  clear hrn
  have hsti : (st : Int) < (n : Int) := by omega
  go_enter Tryd.func74, Tryd.ntmps74
  go_upto_region 2 with (go_at_call 27; refine HSY0.out.mono ?_; rintro e w1 ⟨rfl, hb1⟩; have HB1 := hidD hb1; clear hb1)
  have HC0 : Hid (CsAt (w1.alloc (.cells (mkC n 0) (3 : TypeId))) w1.heap.size (mkC n 0) 3) := cs_alloc
  have HB0 := hidD (HWA.out w1 (.cells (mkC n 0) (3 : TypeId)))
  have HWG : Hid (w.heap.size ≤ w1.heap.size) := HB1.out.size
  clear hmk
  generalize hwa : w1.alloc (.cells (mkC n 0) (3 : TypeId)) = wa at *
  clear hwa
  obtain ⟨g, hg⟩ : ∃ g, g = w1.heap.size := ⟨_, rfl⟩
  rw [← hg] at HC0 HWG ⊢
  have HGB : Hid (w1.heap.size ≤ g) := Nat.le_of_eq hg.symm
  clear hg
  have HS1 := hidD (HSTA.out wa (Below.next HB1.out HB0.out))
  go_upto_region 3 with (go_at_call 50; refine HS1.out.mono ?_; rintro e wb ⟨rfl, hbb⟩; have HCB := hidD (HC0.out.next hbb); have HBB := hidD (Below.next HB0.out hbb); have fb : wb.cell? ⟨g, st, none⟩ = some (mkV 0 st) := (HCB.out.cell st).trans (mk_get hstn); rw [mkV_zero] at fb; have hfb : wb.frozen? ⟨g, st, none⟩ = false := HCB.out.frz st; clear hbb)
  have HC1 := hidD (cs_mark HCB.out hstn)
  rw [HZB.out] at HC1
  have HBF := hidD (HBB.out.setCell (p := ⟨g, st, none⟩) (show w1.heap.size ≤ g from HGB.out) (.int .i64 1))
  clear fb hfb
  go_wp2_with fail
  go_loopw [4, 5, 6] (fun x _ _ wr => ∃ (j : Nat) (b : Bool), x = .bool b ∧ CsAt wr g (mkC n (rpIt R (utS n) (2 ^ st) j)) 3 ∧ (b = false → rpTo R (utS n) (rpIt R (utS n) (2 ^ st) j) R.length = rpIt R (utS n) (2 ^ st) j) ∧ Below w1.heap.size w1 wr) (fun x _ _ wr => mleft x wr g n)
  case atStart => exact ⟨0, true, rfl, HC1.out, fun h => (by cases h), HBF.out⟩
  case round =>
    obtain ⟨j, b, rfl, hcs, hst,  hbel⟩ := hrel
    have HST := hidD hst
    have HCS := hidD hcs
    have HBL := hidD hbel
    have HMJ := hidD (HPW.out j)
    have HNJ := hidD (HNJ0.out j)
    clear hcs hst hbel
    cases b with
    | false =>
      have HGI : Hid (ReIs R (utS n) (2 ^ st) (rpIt R (utS n) (2 ^ st) j)) := ⟨j, rfl, HST.out rfl⟩
      go_wp2_with fail
      refine bodyPost_ret (v := .slice (some ⟨g, 0, none⟩) n n) (by simp [results, Tryd.results74, go_sem]) rfl ?_
      exact ⟨g, rfl, _, HCS.out, HGI.out, HWG.out, Below.next HB1.out HBL.out⟩
    | true =>
      clear HST
      generalize hM0 : rpIt R (utS n) (2 ^ st) j = M0 at *
      clear hM0
      have HMR := hidD (mrd_is HCS.out HMJ.out)
      obtain ⟨wo, hwo⟩ : ∃ wo, wo = wr := ⟨_, rfl⟩
      subst hwo
      go_wp2_with fail
      go_loopw [4, 5, 6] (fun x i _ wr => ∃ k : Nat, k ≤ rn ∧ i = .int .i64 (k : Int) ∧ x = .bool (!decide (rpTo R (utS n) M0 k = M0)) ∧ CsAt wr g (mkC n (rpTo R (utS n) M0 k)) 3 ∧ Below w1.heap.size w1 wr) (fun _ i _ _ => rn - (intOf i).toNat)
      case atStart => exact ⟨0, Nat.zero_le _, rfl, by rw [HG0.out, decide_eq_true rfl]; rfl, by rw [HG0.out]; exact HCS.out, HBL.out⟩
      case round =>
        obtain ⟨k, hk, rfl, rfl, hcs,  hbel⟩ := hrel
        have HCR := hidD hcs
        have HBR := hidD hbel
        have HBW := hidD (Below.next HB1.out hbel)
        have f2 := HG.out.c2 wr HBW.out
        rw [HRN.out] at f2
        clear hcs hbel
        by_cases hlt : k < rn
        · have hlti : (k : Int) < (rn : Int) := by omega
          have f3 := HG.out.lf wr HBW.out k (by rw [HRN.out]; exact hlt)
          obtain ⟨ar, cr2, hrt⟩ := HG.out.rt k (by rw [HRN.out]; exact hlt)
          have HRT := hidD (fun w' (hb : Below w.heap.size w w') => hrt w' hb)
          obtain ⟨f4, hil⟩ := hrt wr HBW.out
          obtain ⟨hlf, hrl, hrs⟩ := HRO.out k (by rw [HRN.out]; exact hlt)
          have HGN := hidD (HGN0.out M0 k)
          have HGE := hidD (rp_ge R (utS n) M0 k)
          have HSY : Hid (∀ q, q < (R.getD k (0, [])).2.length → ∃ x : Nat, (R.getD k (0, [])).2.getD q 0 = (x : Int) ∧ x < n) := hrs
          have HIL : Hid (∀ w', Below w.heap.size w w' → ∀ q, q < (R.getD k (0, [])).2.length → ∃ gg o, ar = some ⟨gg, o, none⟩ ∧ gg < w'.heap.size ∧ w'.cell? ⟨gg, o + q, none⟩ = some (.int .i64 ((R.getD k (0, [])).2.getD q 0))) := fun w' hb q hq => by
            obtain ⟨a', c', e1, _, _, e4⟩ := (HRT.out w' hb).2
            cases e1
            exact e4 q hq
          have HLC : Hid (∀ w', Below w.heap.size w w' → w'.cell? ⟨gr, og + k * 2, none⟩ = some (.int .i64 ((R.getD k (0, [])).1 : Int)) ∧ w'.cell? ⟨p, 2, none⟩ = some (.slice (some ⟨gr, og, none⟩) rn cr) ∧ w'.cell? ⟨gr, og + k * 2 + 1, none⟩ = some (.slice ar (R.getD k (0, [])).2.length cr2)) := fun w' hb => ⟨HG.out.lf w' hb k (by rw [HRN.out]; exact hlt), by have := HG.out.c2 w' hb; rwa [HRN.out] at this, (HRT.out w' hb).1⟩
          have HRIN : Hid (∀ q, riTo (R.getD k (0, [])).2 (q + 1) = riTo (R.getD k (0, [])).2 q ||| 2 ^ ((R.getD k (0, [])).2.getD q 0).toNat) := fun _ => rfl
          have HRI0 : Hid (riTo (R.getD k (0, [])).2 0 = 0) := rfl
          have HALU := hidD (HALU0.out k hlt)
          clear hrt hil hrs HRT
          generalize hMK : rpTo R (utS n) M0 k = M1 at *
          clear hMK
          generalize hrr : (R.getD k (0, [])).2 = rr at *
          clear hrr
          generalize hnr : rr.length = nr at *
          clear hnr
          generalize hLf : (R.getD k (0, [])).1 = lf at *
          clear hLf
          have hlfi : (lf : Int) < (n : Int) := by omega
          rw [HALU.out, Bool.and_true] at HGN
          cases hb : M1.testBit lf with
          | false =>
            rw [hb, if_neg (by decide)] at HGN
            have HMF : Hid (mkV M1 lf = .int .i64 0) := by show _ = _; unfold mkV; rw [hb]; rfl
            clear hb
            go_wp2_with fail
            go_loopw [4, 6] (fun x i wr => i = .int .i64 0 ∧ x = .bool (!decide (M1 = M0)) ∧ CsAt wr g (mkC n M1) 3 ∧ Below w1.heap.size w1 wr) (fun _ _ _ => 0)
            case atStart => exact ⟨rfl, rfl, HCR.out, HBR.out⟩
            case round =>
              obtain ⟨rfl, rfl, hcs, hbel⟩ := hrel
              have HC3 := hidD hcs
              have HB3 := hidD hbel
              obtain ⟨f3, f2, f4⟩ := HLC.out wr (Below.next HB1.out hbel)
              have f5 : wr.cell? ⟨g, lf, none⟩ = some (.int .i64 0) := (hcs.cell lf).trans ((mk_get hlf).trans (congrArg some HMF.out))
              clear hcs hbel
              by_cases hn0 : 0 < nr
              · have hni : (0 : Int) < (nr : Int) := by omega
                have hnd : decide ((0 : Int) < (nr : Int)) = true := decide_eq_true hni
                go_wp2_with fail
                all_goals first | exact (un_bool6 (by assumption)).elim | skip
                go_roundw
                case rel => exact ⟨k + 1, by omega, by go_num, by rw [HGN.out], by rw [HGN.out]; exact HC3.out, HB3.out⟩
                case measure => simp [intOf]; omega
              · have hni : ¬ (0 : Int) < (nr : Int) := by omega
                have hnd : decide ((0 : Int) < (nr : Int)) = false := decide_eq_false hni
                go_wp2_with fail
                all_goals first | exact (un_bool6 (by assumption)).elim | skip
                go_roundw
                case rel => exact ⟨k + 1, by omega, by go_num, by rw [HGN.out], by rw [HGN.out]; exact HC3.out, HB3.out⟩
                case measure => simp [intOf]; omega
          | true =>
            rw [hb, if_pos rfl] at HGN
            have HMT : Hid (∀ A, mkV (M1 ||| A) lf = .int .i64 1) := fun A => by unfold mkV; rw [Nat.testBit_or, hb]; rfl
            clear hb
            go_wp2_with fail
            go_loopw [4, 6] (fun x i wr => ∃ q : Nat, q ≤ nr ∧ i = .int .i64 (q : Int) ∧ x = .bool (!decide (M1 ||| riTo rr q = M0)) ∧ CsAt wr g (mkC n (M1 ||| riTo rr q)) 3 ∧ Below w1.heap.size w1 wr) (fun _ i _ => nr - (intOf i).toNat)
            case atStart => exact ⟨0, Nat.zero_le _, rfl, by rw [HRI0.out, Nat.or_zero], by rw [HRI0.out, Nat.or_zero]; exact HCR.out, HBR.out⟩
            case round =>
              obtain ⟨q, hq, rfl, rfl, hcs, hbel⟩ := hrel
              have HC3 := hidD hcs
              have HB3 := hidD hbel
              obtain ⟨f3, f2, f4⟩ := HLC.out wr (Below.next HB1.out hbel)
              have f5 : wr.cell? ⟨g, lf, none⟩ = some (.int .i64 1) := (hcs.cell lf).trans ((mk_get hlf).trans (congrArg some (HMT.out _)))
              by_cases hqt : q < nr
              · have hqi : (q : Int) < (nr : Int) := by omega
                have hqd : decide ((q : Int) < (nr : Int)) = true := decide_eq_true hqi
                obtain ⟨gg, oo, e1, e2, f6⟩ := HIL.out wr (Below.next HB1.out hbel) q hqt
                subst e1
                obtain ⟨y, ey, hyn⟩ := HSY.out q hqt
                have HRN2 := hidD (HRIN.out q)
                rw [ey, Int.toNat_natCast] at HRN2
                rw [ey] at f6
                have hyi : (y : Int) < (n : Int) := by omega
                have f7 : wr.cell? ⟨g, y, none⟩ = some (mkV (M1 ||| riTo rr q) y) := (hcs.cell y).trans (mk_get hyn)
                have HSM := hidD (fun h1 => (mk_same (n := n) h1 : (M1 ||| riTo rr q) ||| 2 ^ y = M1 ||| riTo rr q))
                have HOR : Hid (M1 ||| riTo rr (q + 1) = (M1 ||| riTo rr q) ||| 2 ^ y) := by show _ = _; rw [HRN2.out, Nat.or_assoc]
                have HGE2 : Hid (M0 ≤ M1 ||| riTo rr q) := Nat.le_trans HGE.out Nat.left_le_or
                clear hcs hbel ey HRN2
                unfold mkV at f7
                cases hb : (M1 ||| riTo rr q).testBit y with
                | true =>
                  rw [hb, if_pos rfl] at f7
                  have HNX : Hid (M1 ||| riTo rr (q + 1) = M1 ||| riTo rr q) := by show _ = _; rw [HOR.out, HSM.out hb]
                  clear hb
                  generalize hMQ : M1 ||| riTo rr q = MQ at *
                  clear hMQ
                  go_wp2_with fail
                  all_goals first | exact (un_bool6 (by assumption)).elim | skip
                  go_roundw
                  case rel => exact ⟨q + 1, by omega, by go_num, by rw [HNX.out], by rw [HNX.out]; exact HC3.out, HB3.out⟩
                  case measure => simp [intOf]; omega
                | false =>
                  rw [hb, if_neg (by decide)] at f7
                  have HLT := hidD (or_new hb)
                  clear hb
                  generalize hMQ : M1 ||| riTo rr q = MQ at *
                  clear hMQ
                  have HDD : Hid ((!decide (MQ ||| 2 ^ y = M0)) = true) := by show _ = _; rw [decide_eq_false (by have := HLT.out; have := HGE2.out; omega)]; rfl
                  have hfz : wr.frozen? ⟨g, y, none⟩ = false := HC3.out.frz y
                  have HC4 := hidD (cs_mark HC3.out hyn)
                  have HB4 := hidD (HB3.out.setCell (p := ⟨g, y, none⟩) (show w1.heap.size ≤ g from HGB.out) (.int .i64 1))
                  go_wp2_with fail
                  all_goals first | exact (un_bool6 (by assumption)).elim | skip
                  go_roundw
                  case rel => exact ⟨q + 1, by omega, by go_num, by rw [HOR.out, HDD.out], by rw [HOR.out]; exact HC4.out, HB4.out⟩
                  case measure => simp [intOf]; omega
              · obtain rfl : q = nr := by omega
                have hqi : ¬ (q : Int) < (q : Int) := by omega
                clear hcs hbel
                generalize hMQ : M1 ||| riTo rr q = MQ at *
                clear hMQ
                go_wp2_with fail
                all_goals first | exact (un_bool6 (by assumption)).elim | skip
                go_roundw
                case rel => exact ⟨k + 1, by omega, by go_num, by rw [HGN.out], by rw [HGN.out]; exact HC3.out, HB3.out⟩
                case measure => simp [intOf]; omega
        · obtain rfl : k = rn := by omega
          have HMX := hidD (mrd_is HCR.out (HPX.out M0 HMJ.out k (Nat.le_refl _)))
          have HGE := hidD (rp_ge R (utS n) M0 k)
          have HPL := hidD (HPX.out M0 HMJ.out k (Nat.le_refl _))
          go_wp2_with fail
          go_roundw
          case rel => exact ⟨j + 1, _, rfl, by rw [HNJ.out]; exact HCR.out, fun h => by
            have h1 : rpTo R (utS n) M0 k = M0 := by
              cases hd : decide (rpTo R (utS n) M0 k = M0) with
              | true => exact of_decide_eq_true hd
              | false => rw [hd] at h; cases h
            rw [HNJ.out, h1, HRN.out, h1], HBR.out⟩
          case measure =>
            have := HMX.out
            have := HMR.out
            have := HGE.out
            have := HPL.out
            have h5 := HMJ.out
            by_cases hne : rpTo R (utS n) M0 k = M0
            · rw [decide_eq_true hne]
              unfold mleft
              simp only [Bool.not_true]
              omega
            · rw [decide_eq_false hne]
              unfold mleft
              simp only [Bool.not_false]
              rw [HMX.out, HMR.out]
              omega

end
end Go.Proofs.YtgmbkelmgolkpaaDoor
/- The document's Useless. -/
namespace Go.Proofs.YtgmbkelmgolkpaaDoor
open Go.RowKit Go.Maps
set_option linter.unusedVariables false

theorem mk_put0 {n M i : Nat} (hb : M.testBit i = false) : (mkC n M).setIfInBounds i (.int .i64 0) = mkC n M := by
  apply Array.ext_getElem?
  intro j
  rw [Array.getElem?_setIfInBounds]
  by_cases hj : i = j
  · subst hj
    rw [if_pos rfl]
    by_cases h : i < n
    · rw [if_pos (by rw [mk_size]; exact h), mk_get h]; unfold mkV; rw [hb]; rfl
    · rw [if_neg (by rw [mk_size]; exact h), mk_none (by omega)]
  · rw [if_neg hj]
/-- What is of use at the beginning. -/
def usB (E st : Nat) : Nat := if E.testBit st then 2 ^ st else 0
theorem cs_base {w : World} {g n E st : Nat} (h : CsAt w g (mkC n 0) 3) (hs : st < n) : CsAt (w.setCell ⟨g, st, none⟩ (mkV E st)) g (mkC n (usB E st)) 3 := by
  unfold usB mkV
  cases hb : E.testBit st with
  | true =>
    have := cs_mark h hs
    rwa [Nat.zero_or] at this
  | false =>
    have := h.put st (.int .i64 0)
    rwa [mk_put0 (by simp)] at this
theorem usB_pow {n E st : Nat} (hs : st < n) : usB E st < 2 ^ n := by
  unfold usB; split
  · exact Nat.pow_lt_pow_right (by decide) hs
  · exact Nat.two_pow_pos n
theorem cs_other {w : World} {g g' i : Nat} {cs : Array Value} {t : TypeId} {v : Value} (h : CsAt w g cs t) (hne : g ≠ g') : CsAt (w.setCell ⟨g', i, none⟩ v) g cs t := (heap_setCell_other w ⟨g', i, none⟩ g v hne).trans h
section
variable {w : World} {p : Nat} {a0 : Option Addr} {k0 : Nat} {a1 : Option Addr} {k1 gr og cr : Nat} {T O : List Tx} {R : Rus} {s : Int}
set_option maxRecDepth 100000 in
set_option maxHeartbeats 6400000 in
theorem refUseless_any (h : RgW w p a0 k0 a1 k1 gr og cr T O R s) (n : Nat) (hnn : (allN T O).length = n) (hn : n ≤ 128) (hR : RuOk R n) (hrl : R.length ≤ 128) (st : Nat) (hst : (T.length : Int) + 1 + s = (st : Int)) (hs0 : 0 ≤ s) (hstn : st < n) : Calls Tryd.prog 26 #[.pointer (some ⟨p, 0, none⟩)] w fun e w' => ∃ E U u, e = .returned u ∧ GrIs R (utS (T.length + 1)) E ∧ ReIs R E (usB E st) U ∧ IlAt w' u (usTo U U (T.length + 1) O.length) ∧ Below w.heap.size w w' := by
  have HG := hidD h
  have HRO := hidD hR
  have HPX := hidD (fun E M (hM : M < 2 ^ n) k hk => rpo_pow hR E hM k hk)
  have HG0 : Hid (∀ E M, rpTo R E M 0 = M) := fun _ _ => rfl
  have HGN0 : Hid (∀ E M k, rpTo R E M (k + 1) = if (rpTo R E M k).testBit (R.getD k (0, [])).1 && (R.getD k (0, [])).2.all (fun x => E.testBit x.toNat) then rpTo R E M k ||| riTo (R.getD k (0, [])).2 (R.getD k (0, [])).2.length else rpTo R E M k) := fun _ _ _ => rfl
  have HPW := hidD (fun E j => rpoIt_pow hR E (M := usB E st) (usB_pow hstn) j)
  have HNJ0 : Hid (∀ E j, rpIt R E (usB E st) (j + 1) = rpTo R E (rpIt R E (usB E st) j) R.length) := fun _ _ => rfl
  have hmk := make_marks n (by omega)
  have HSY0 := hidD (fun w' (hb : Below w.heap.size w w') => refSymbols_any (h.next hb) (by rw [allN_len] at hnn; omega))
  rw [hnn] at HSY0
  have HSTA := hidD (fun w' (hb : Below w.heap.size w w') => refStart_any (h.next hb) (by rw [allN_len] at hnn; omega) ⟨hs0, by rw [allN_len] at hnn; omega⟩)
  rw [hst] at HSTA
  have HMKS := hidD (refMakes_any h n hnn hn hR hrl)
  have HWA : Hid (∀ (w1 : World) o, Below w1.heap.size w1 (w1.alloc o)) := fun w1 o => (Below.refl _ _).alloc (Nat.le_refl _) o
  have HC0T := hidD (fun wr (hb : Below w.heap.size w wr) => h.c0 wr hb)
  have HNT : Hid (n = T.length + 1 + O.length) := by show _ = _; rw [← hnn, allN_len]
  have HULN : Hid (∀ U t k, (usTo U U t k).length ≤ k) := fun U t k => us_len U U t k
  have HUN : Hid (∀ U t k, usTo U U t (k + 1) = if U.testBit (t + k) && U.testBit (t + k) then usTo U U t k else usTo U U t k ++ [((t + k : Nat) : Int)]) := fun _ _ _ => rfl
  clear h hR hnn hst hs0
  generalize hrn : R.length = rn at *
  have HRN := hidD hrn
  clear hrn
  generalize htn : T.length = tn at *
  generalize hon : O.length = on at *
  clear htn hon
  have hsti : (st : Int) < (n : Int) := by omega
  go_enter Tryd.func26, Tryd.ntmps26
  go_upto_region 5 with (first
    | (go_at_call 27; refine (HSY0.out _ HB1.out).mono ?_; rintro e w2 ⟨rfl, hb2⟩; have HB12 := hidD hb2; have HB2 := hidD (Below.next HB1.out hb2); clear hb2)
    | (go_at_call 78; refine HMKS.out.mono ?_; rintro e w1 ⟨gm, E, rfl, hcm, hgr, hgm, hb1⟩; have HCM := hidD hcm; have HGR := hidD hgr; have HB1 := hidD hb1; clear hcm hgr hgm hb1))
  have HCM2 := hidD (HCM.out.next HB12.out)
  have HGML : Hid (gm < w2.heap.size) := HCM2.out.lt
  have HC0 : Hid (CsAt (w2.alloc (.cells (mkC n 0) (3 : TypeId))) w2.heap.size (mkC n 0) 3) := cs_alloc
  have HB0 := hidD (HWA.out w2 (.cells (mkC n 0) (3 : TypeId)))
  clear hmk HCM HB1 HB12
  generalize hwa : w2.alloc (.cells (mkC n 0) (3 : TypeId)) = wa at *
  clear hwa
  obtain ⟨g, hg⟩ : ∃ g, g = w2.heap.size := ⟨_, rfl⟩
  rw [← hg] at HC0 ⊢
  have HGB : Hid (w2.heap.size ≤ g) := Nat.le_of_eq hg.symm
  clear hg
  have HGNE : Hid (gm ≠ g) := by have := HGML.out; have := HGB.out; show _ ≠ _; omega
  have HS1 := hidD (fun w' (hb : Below w2.heap.size w2 w') => HSTA.out w' (Below.next HB2.out hb))
  have HCMB := hidD (fun w' (hb : Below w2.heap.size w2 w') => (HCM2.out.next hb))
  obtain ⟨ev, hev⟩ : ∃ ev : Int, mkV E st = .int .i64 ev := ⟨_, rfl⟩
  have HEV := hidD hev
  clear hev
  go_upto_region 6 with (first
    | (go_at_call 50; have := M1; clear this; refine (HS1.out _ HBB.out).mono ?_; rintro e wc ⟨rfl, hbc⟩; have HCC := hidD (HCB.out.next hbc); have HBC := hidD (Below.next HBB.out hbc); have fb : wc.cell? ⟨gm, st, none⟩ = some (mkV E st) := ((HCMB.out _ HBC.out).cell st).trans (mk_get hstn); have fc : wc.cell? ⟨g, st, none⟩ = some (mkV 0 st) := (HCC.out.cell st).trans (mk_get hstn); rw [HEV.out] at fb; rw [mkV_zero] at fc; have hfb : wc.frozen? ⟨g, st, none⟩ = false := HCC.out.frz st; clear hbc)
    | (go_at_call 50; refine (HS1.out _ HB0.out).mono ?_; rintro e wb ⟨rfl, hbb⟩; have HCB := hidD (HC0.out.next hbb); have HBB := hidD (Below.next HB0.out hbb); have M1 := trivial; clear hbb))
  have HC1 := hidD (cs_base (E := E) HCC.out hstn)
  rw [HEV.out] at HC1
  have HBF := hidD (HBC.out.setCell (p := ⟨g, st, none⟩) (show w2.heap.size ≤ g from HGB.out) (.int .i64 ev))
  clear fb fc hfb
  go_wp2_with fail
  go_loopw [5, 6, 7, 8] (fun x _ _ _ wr => ∃ (j : Nat) (b : Bool), x = .bool b ∧ CsAt wr g (mkC n (rpIt R E (usB E st) j)) 3 ∧ (b = false → rpTo R E (rpIt R E (usB E st) j) R.length = rpIt R E (usB E st) j) ∧ Below w2.heap.size w2 wr) (fun x _ _ _ wr => mleft x wr g n)
  case atStart => exact ⟨0, true, rfl, HC1.out, fun h => (by cases h), HBF.out⟩
  case round =>
    obtain ⟨j, b, rfl, hcs, hst,  hbel⟩ := hrel
    have HST := hidD hst
    have HCS := hidD hcs
    have HBL := hidD hbel
    have HMJ := hidD (HPW.out E j)
    have HNJ := hidD (HNJ0.out E j)
    clear hcs hst hbel
    cases b with
    | false =>
      have HGI : Hid (ReIs R E (usB E st) (rpIt R E (usB E st) j)) := ⟨j, rfl, HST.out rfl⟩
      have htb : (tn : Int) + 1 ≤ 9223372036854775807 := by have := HNT.out; omega
      have f0 := HC0T.out wr (Below.next HB2.out HBL.out)
      have HCU := hidD HCS.out
      generalize hU : rpIt R E (usB E st) j = U at *
      clear hU
      obtain ⟨wu, hwu⟩ : ∃ wu, wu = wr := ⟨_, rfl⟩
      subst hwu
      have hgu := HCU.out.lt
      go_wp2_with fail
      go_loopw [9, 10] (fun o i wr => ∃ q : Nat, q ≤ on ∧ i = .int .i64 ((tn + 1 + q : Nat) : Int) ∧ wr.ownsRow wu.heap.size 3 1 o (usTo U U (tn + 1) q).length ((usTo U U (tn + 1) q).map encI) ∧ Below wu.heap.size wu wr) (fun _ i _ => tn + 1 + on - (intOf i).toNat)
      case atStart => exact ⟨0, Nat.zero_le _, by simp, World.ownsRow_nil _ _ _ _, Below.refl _ _⟩
      case round =>
        obtain ⟨q, hq, rfl, hown, hbel⟩ := hrel
        have HOW := hidD hown
        have HBQ := hidD hbel
        have HSYQ := hidD (HSY0.out wr (Below.next (Below.next HB2.out HBL.out) hbel))
        have hntt := HNT.out
        by_cases hqt : q < on
        · have hqn : tn + 1 + q < n := by omega
          have hqb : q ≤ 128 := by omega
          have f1 : wr.cell? ⟨g, tn + 1 + q, none⟩ = some (mkV U (tn + 1 + q)) := (hbel.cell (p := ⟨g, tn + 1 + q, none⟩) hgu).trans ((HCU.out.cell _).trans (mk_get hqn))
          unfold mkV at f1
          have HN := hidD (HUN.out U (tn + 1) q)
          have hln := HULN.out U (tn + 1) q
          clear hown hbel hntt
          generalize hLL : usTo U U (tn + 1) q = LL at *
          clear hLL
          generalize hll : LL.length = ll at *
          have HLL := hidD hll
          clear hll
          obtain ⟨a5, c5, h5⟩ := row_shape HOW.out
          subst h5
          obtain ⟨z, hz⟩ : ∃ z : Nat, z = tn + 1 + q := ⟨_, rfl⟩
          rw [← hz] at f1 HN hqn ⊢
          have HZ := hidD hz
          clear hz
          have hzi : (z : Int) < (n : Int) := by omega
          have hkl : ll ≤ 1048576 := by omega
          cases hb : U.testBit z with
          | false =>
            rw [hb, if_neg (by decide)] at f1 HN
            clear hb
            have HBA := hidD (fun (wz : World) (hb : Below wu.heap.size wu wz) o' => hb.alloc (show wu.heap.size ≤ wz.heap.size from hb.size) o')
            go_wp2_with first
              | (at_builtin; refine wpList_append_int rfl _ _ rfl wu.heap.size (.slice a5 ll c5) ll (LL.map encI) rfl (HOW9.out.alloc _) w9.heap.size (z : Int) rfl (by simp) (by omega) (by have := HBQ9.out.size; simp; omega) ?_; intro v8 w8 hown8 hg8; have HO8 := hidD hown8; have HB8 := hidD (row_grown (HOW9.out.alloc _) (HBA.out _ HBQ9.out _) hg8 (by have := HBQ9.out.size; simp; omega)); clear hown8 hg8)
              | (go_at_call 27; refine HSYQ.out.mono ?_; rintro e w9 ⟨rfl, hb9⟩; have HBQ9 := hidD (Below.next HBQ.out hb9); have HOW9 := hidD (row_below HOW.out hb9); have f1 : w9.cell? ⟨g, z, none⟩ = some (.int .i64 0) := (hb9.cell (p := ⟨g, z, none⟩) (Nat.lt_of_lt_of_le hgu HBQ.out.size)).trans f1; clear hb9)
            go_roundw
            case rel => exact ⟨q + 1, by omega, by have := HZ.out; go_num, by rw [HN.out, List.length_append, List.map_append, HLL.out]; exact HO8.out, HB8.out⟩
            case measure => have := HZ.out; simp [intOf]; omega
          | true =>
            rw [hb, if_pos rfl] at f1
            rw [hb, Bool.and_self, if_pos rfl] at HN
            clear hb
            go_wp2_with (go_at_call 27; refine HSYQ.out.mono ?_; rintro e w9 ⟨rfl, hb9⟩; have HBQ9 := hidD (Below.next HBQ.out hb9); have HOW9 := hidD (row_below HOW.out hb9); have f1 : w9.cell? ⟨g, z, none⟩ = some (.int .i64 1) := (hb9.cell (p := ⟨g, z, none⟩) (Nat.lt_of_lt_of_le hgu HBQ.out.size)).trans f1; clear hb9)
            go_roundw
            case rel => exact ⟨q + 1, by omega, by have := HZ.out; go_num, by rw [HN.out, HLL.out]; exact HOW9.out, HBQ9.out⟩
            case measure => have := HZ.out; simp [intOf]; omega
        · obtain rfl : q = on := by omega
          have hzn : tn + 1 + q = n := by omega
          rw [hzn]
          have hzi : ¬ (n : Int) < (n : Int) := by omega
          clear hzn hntt hbel
          obtain ⟨a5, c5, h5⟩ := row_shape hown
          subst h5
          have HFL := hidD (fun (wz : World) (hb : Below wr.heap.size wr wz) => il_of_own (row_below hown hb))
          clear hown
          generalize hLL : usTo U U (tn + 1) q = LL at *
          have HLL := hidD hLL
          clear hLL
          generalize hll : LL.length = ll at *
          clear hll
          go_wp2_with (go_at_call 27; refine HSYQ.out.mono ?_; rintro e w9 ⟨rfl, hb9⟩; have HI9 := hidD (HFL.out _ hb9); have HBQ9 := hidD (Below.next HBQ.out hb9); clear hb9)
          refine bodyPost_ret (v := .slice a5 ll c5) (by simp [results, Tryd.results26, go_sem]) rfl ?_
          refine ⟨E, U, _, rfl, HGR.out, HGI.out, ?_, Below.next (Below.next HB2.out HBL.out) HBQ9.out⟩
          rw [HLL.out]
          exact HI9.out
    | true =>
      clear HST
      generalize hM0 : rpIt R E (usB E st) j = M0 at *
      clear hM0
      have HMR := hidD (mrd_is HCS.out HMJ.out)
      obtain ⟨wo, hwo⟩ : ∃ wo, wo = wr := ⟨_, rfl⟩
      subst hwo
      go_wp2_with fail
      go_loopw [5, 6, 7, 8] (fun x i _ _ wr => ∃ k : Nat, k ≤ rn ∧ i = .int .i64 (k : Int) ∧ x = .bool (!decide (rpTo R E M0 k = M0)) ∧ CsAt wr g (mkC n (rpTo R E M0 k)) 3 ∧ Below w2.heap.size w2 wr) (fun _ i _ _ _ => rn - (intOf i).toNat)
      case atStart => exact ⟨0, Nat.zero_le _, rfl, by rw [HG0.out, decide_eq_true rfl]; rfl, by rw [HG0.out]; exact HCS.out, HBL.out⟩
      case round =>
        obtain ⟨k, hk, rfl, rfl, hcs,  hbel⟩ := hrel
        have HCR := hidD hcs
        have HBR := hidD hbel
        have HBW := hidD (Below.next HB2.out hbel)
        have f2 := HG.out.c2 wr HBW.out
        rw [HRN.out] at f2
        clear hcs hbel
        by_cases hlt : k < rn
        · have hlti : (k : Int) < (rn : Int) := by omega
          have f3 := HG.out.lf wr HBW.out k (by rw [HRN.out]; exact hlt)
          obtain ⟨ar, cr2, hrt⟩ := HG.out.rt k (by rw [HRN.out]; exact hlt)
          have HRT := hidD (fun w' (hb : Below w.heap.size w w') => hrt w' hb)
          obtain ⟨f4, hil⟩ := hrt wr HBW.out
          obtain ⟨hlf, hrl, hrs⟩ := HRO.out k (by rw [HRN.out]; exact hlt)
          have HGN := hidD (HGN0.out E M0 k)
          have HGE := hidD (rp_ge R E M0 k)
          have HSY : Hid (∀ q, q < (R.getD k (0, [])).2.length → ∃ x : Nat, (R.getD k (0, [])).2.getD q 0 = (x : Int) ∧ x < n) := hrs
          have HIL : Hid (∀ w', Below w.heap.size w w' → ∀ q, q < (R.getD k (0, [])).2.length → ∃ gg o, ar = some ⟨gg, o, none⟩ ∧ gg < w'.heap.size ∧ w'.cell? ⟨gg, o + q, none⟩ = some (.int .i64 ((R.getD k (0, [])).2.getD q 0))) := fun w' hb q hq => by
            obtain ⟨a', c', e1, _, _, e4⟩ := (HRT.out w' hb).2
            cases e1
            exact e4 q hq
          have HLC : Hid (∀ w', Below w.heap.size w w' → w'.cell? ⟨gr, og + k * 2, none⟩ = some (.int .i64 ((R.getD k (0, [])).1 : Int)) ∧ w'.cell? ⟨p, 2, none⟩ = some (.slice (some ⟨gr, og, none⟩) rn cr) ∧ w'.cell? ⟨gr, og + k * 2 + 1, none⟩ = some (.slice ar (R.getD k (0, [])).2.length cr2)) := fun w' hb => ⟨HG.out.lf w' hb k (by rw [HRN.out]; exact hlt), by have := HG.out.c2 w' hb; rwa [HRN.out] at this, (HRT.out w' hb).1⟩
          have HRIN : Hid (∀ q, riTo (R.getD k (0, [])).2 (q + 1) = riTo (R.getD k (0, [])).2 q ||| 2 ^ ((R.getD k (0, [])).2.getD q 0).toNat) := fun _ => rfl
          have HRI0 : Hid (riTo (R.getD k (0, [])).2 0 = 0) := rfl
          have HILR : Hid (∀ w', Below w.heap.size w w' → IlAt w' (.slice ar (R.getD k (0, [])).2.length cr2) (R.getD k (0, [])).2) := fun w' hb => (HRT.out w' hb).2
          have HAL0 : Hid (∀ w', CsAt w' gm (mkC n E) 3 → IlAt w' (.slice ar (R.getD k (0, [])).2.length cr2) (R.getD k (0, [])).2 → Calls Tryd.prog 66 #[.slice (some ⟨gm, 0, none⟩) n n, .slice ar (R.getD k (0, [])).2.length cr2] w' fun e w'' => e = .returned (.bool ((R.getD k (0, [])).2.all fun x => E.testBit x.toNat)) ∧ w'' = w') := fun w' h1 h2 => refAll_any n E gm (by omega) _ hrl hrs _ w' h1 h2
          generalize ((R.getD k (0, [])).2.all fun x => E.testBit x.toNat) = al at *
          clear hrt hil hrs HRT
          generalize hMK : rpTo R E M0 k = M1 at *
          clear hMK
          generalize hrr : (R.getD k (0, [])).2 = rr at *
          clear hrr
          generalize hnr : rr.length = nr at *
          clear hnr
          generalize hLf : (R.getD k (0, [])).1 = lf at *
          clear hLf
          have hlfi : (lf : Int) < (n : Int) := by omega
          have HALF := hidD (fun w' (hb : Below w2.heap.size w2 w') (hm : CsAt w' gm (mkC n E) 3) (hi : IlAt w' (.slice ar nr cr2) rr) => HAL0.out w' hm hi)
          have HALC : Hid (∀ w', Below w2.heap.size w2 w' → Calls Tryd.prog 66 #[.slice (some ⟨gm, 0, none⟩) n n, .slice ar nr cr2] w' fun e w'' => e = .returned (.bool al) ∧ w'' = w') := fun w' hb => HALF.out w' hb (HCMB.out w' hb) (HILR.out w' (Below.next HB2.out hb))
          clear HALF HAL0 HILR
          obtain ⟨wp, hwp⟩ : ∃ wp, wp = wr := ⟨_, rfl⟩
          subst hwp
          go_upto_region 13 with fail
          have HAL5 : Hid (Below wp.heap.size wp (wp.alloc (.cells #[.int .i64 (lf : Int), .slice ar nr cr2] (80 : TypeId)))) := (Below.refl _ _).alloc (Nat.le_refl _) _
          have HC5 : Hid (CsAt (wp.alloc (.cells #[.int .i64 (lf : Int), .slice ar nr cr2] (80 : TypeId))) wp.heap.size #[.int .i64 (lf : Int), .slice ar nr cr2] 80) := heap_alloc_last _ _
          have HCR5 := hidD (HCR.out.next HAL5.out)
          have HBR5 := hidD (Below.next HBR.out HAL5.out)
          have HLNE : Hid (wp.heap.size ≠ g) := by have := HCR.out.lt; show _ ≠ _; omega
          generalize hw5 : wp.alloc (.cells #[.int .i64 (lf : Int), .slice ar nr cr2] (80 : TypeId)) = w5 at *
          clear hw5 f2 f3 f4
          generalize hgl : wp.heap.size = gl at *
          clear hgl
          cases hc : (M1.testBit lf && al) with
          | false =>
            rw [hc, if_neg (by decide)] at HGN
            go_wp2_with fail
            go_loopw [5, 8] (fun x i wr => i = .int .i64 0 ∧ x = .bool (!decide (M1 = M0)) ∧ CsAt wr g (mkC n M1) 3 ∧ CsAt wr gl #[.int .i64 (lf : Int), .slice ar nr cr2] 80 ∧ Below w2.heap.size w2 wr) (fun _ _ _ => 0)
            case atStart => exact ⟨rfl, rfl, HCR5.out, HC5.out, HBR5.out⟩
            case round =>
              obtain ⟨rfl, rfl, hcs, hcl, hbel⟩ := hrel
              have HC3 := hidD hcs
              have HB3 := hidD hbel
              have f6 : wr.cell? ⟨gl, 0, none⟩ = some (.int .i64 (lf : Int)) := hcl.cell 0
              have f7 : wr.cell? ⟨gl, 1, none⟩ = some (.slice ar nr cr2) := hcl.cell 1
              have f5 : wr.cell? ⟨g, lf, none⟩ = some (mkV M1 lf) := (hcs.cell lf).trans (mk_get hlf)
              have HAL := hidD (HALC.out wr hbel)
              clear hcs hbel hcl
              unfold mkV at f5
              by_cases hn0 : 0 < nr
              · have hni : (0 : Int) < (nr : Int) := by omega
                have hnd : decide ((0 : Int) < (nr : Int)) = true := decide_eq_true hni
                cases hb : M1.testBit lf with
                | false =>
                  rw [hb, if_neg (by decide)] at f5
                  clear hc hb
                  go_wp2_with fail
                  all_goals first | exact (un_bool6 (by assumption)).elim | skip
                  go_roundw
                  case rel => exact ⟨k + 1, by omega, by go_num, by rw [HGN.out], by rw [HGN.out]; exact HC3.out, HB3.out⟩
                  case measure => simp [intOf]; omega
                | true =>
                  rw [hb, if_pos rfl] at f5
                  rw [hb, Bool.true_and] at hc
                  subst hc
                  clear hb
                  go_wp2_with (go_at_call 66; refine HAL.out.mono ?_; rintro e w9 ⟨rfl, hw9⟩; subst w9)
                  all_goals first | exact (un_bool6 (by assumption)).elim | skip
                  go_roundw
                  case rel => exact ⟨k + 1, by omega, by go_num, by rw [HGN.out], by rw [HGN.out]; exact HC3.out, HB3.out⟩
                  case measure => simp [intOf]; omega
              · have hni : ¬ (0 : Int) < (nr : Int) := by omega
                have hnd : decide ((0 : Int) < (nr : Int)) = false := decide_eq_false hni
                clear hc
                go_wp2_with fail
                all_goals first | exact (un_bool6 (by assumption)).elim | skip
                go_roundw
                case rel => exact ⟨k + 1, by omega, by go_num, by rw [HGN.out], by rw [HGN.out]; exact HC3.out, HB3.out⟩
                case measure => simp [intOf]; omega
          | true =>
            rw [hc, if_pos rfl] at HGN
            rw [Bool.and_eq_true] at hc
            obtain ⟨hb, hal⟩ := hc
            subst hal
            have HMT : Hid (∀ A, mkV (M1 ||| A) lf = .int .i64 1) := fun A => by unfold mkV; rw [Nat.testBit_or, hb]; rfl
            clear hb
            go_wp2_with fail
            go_loopw [5, 8] (fun x i wr => ∃ q : Nat, q ≤ nr ∧ i = .int .i64 (q : Int) ∧ x = .bool (!decide (M1 ||| riTo rr q = M0)) ∧ CsAt wr g (mkC n (M1 ||| riTo rr q)) 3 ∧ CsAt wr gl #[.int .i64 (lf : Int), .slice ar nr cr2] 80 ∧ Below w2.heap.size w2 wr) (fun _ i _ => nr - (intOf i).toNat)
            case atStart => exact ⟨0, Nat.zero_le _, rfl, by rw [HRI0.out, Nat.or_zero], by rw [HRI0.out, Nat.or_zero]; exact HCR5.out, HC5.out, HBR5.out⟩
            case round =>
              obtain ⟨q, hq, rfl, rfl, hcs, hcl, hbel⟩ := hrel
              have HC3 := hidD hcs
              have HB3 := hidD hbel
              have HL3 := hidD hcl
              have f8 : wr.cell? ⟨gl, 0, none⟩ = some (.int .i64 (lf : Int)) := hcl.cell 0
              have f9 : wr.cell? ⟨gl, 1, none⟩ = some (.slice ar nr cr2) := hcl.cell 1
              have f5 : wr.cell? ⟨g, lf, none⟩ = some (.int .i64 1) := (hcs.cell lf).trans ((mk_get hlf).trans (congrArg some (HMT.out _)))
              have HAL := hidD (HALC.out wr hbel)
              by_cases hqt : q < nr
              · have hqi : (q : Int) < (nr : Int) := by omega
                have hqd : decide ((q : Int) < (nr : Int)) = true := decide_eq_true hqi
                obtain ⟨gg, oo, e1, e2, f6⟩ := HIL.out wr (Below.next HB2.out hbel) q hqt
                subst e1
                obtain ⟨y, ey, hyn⟩ := HSY.out q hqt
                have HRN2 := hidD (HRIN.out q)
                rw [ey, Int.toNat_natCast] at HRN2
                rw [ey] at f6
                have hyi : (y : Int) < (n : Int) := by omega
                have f7 : wr.cell? ⟨g, y, none⟩ = some (mkV (M1 ||| riTo rr q) y) := (hcs.cell y).trans (mk_get hyn)
                have HSM := hidD (fun h1 => (mk_same (n := n) h1 : (M1 ||| riTo rr q) ||| 2 ^ y = M1 ||| riTo rr q))
                have HOR : Hid (M1 ||| riTo rr (q + 1) = (M1 ||| riTo rr q) ||| 2 ^ y) := by show _ = _; rw [HRN2.out, Nat.or_assoc]
                have HGE2 : Hid (M0 ≤ M1 ||| riTo rr q) := Nat.le_trans HGE.out Nat.left_le_or
                clear hcs hbel ey HRN2 hcl
                unfold mkV at f7
                cases hb : (M1 ||| riTo rr q).testBit y with
                | true =>
                  rw [hb, if_pos rfl] at f7
                  have HNX : Hid (M1 ||| riTo rr (q + 1) = M1 ||| riTo rr q) := by show _ = _; rw [HOR.out, HSM.out hb]
                  clear hb
                  generalize hMQ : M1 ||| riTo rr q = MQ at *
                  clear hMQ
                  go_wp2_with (go_at_call 66; refine HAL.out.mono ?_; rintro e w9 ⟨rfl, hw9⟩; subst w9)
                  all_goals first | exact (un_bool6 (by assumption)).elim | skip
                  go_roundw
                  case rel => exact ⟨q + 1, by omega, by go_num, by rw [HNX.out], by rw [HNX.out]; exact HC3.out, HL3.out, HB3.out⟩
                  case measure => simp [intOf]; omega
                | false =>
                  rw [hb, if_neg (by decide)] at f7
                  have HLT := hidD (or_new hb)
                  clear hb
                  generalize hMQ : M1 ||| riTo rr q = MQ at *
                  clear hMQ
                  have HDD : Hid ((!decide (MQ ||| 2 ^ y = M0)) = true) := by show _ = _; rw [decide_eq_false (by have := HLT.out; have := HGE2.out; omega)]; rfl
                  have hfz : wr.frozen? ⟨g, y, none⟩ = false := HC3.out.frz y
                  have HC4 := hidD (cs_mark HC3.out hyn)
                  have HL4 := hidD (cs_other (i := y) (v := .int .i64 1) HL3.out HLNE.out)
                  have HB4 := hidD (HB3.out.setCell (p := ⟨g, y, none⟩) (show w2.heap.size ≤ g from HGB.out) (.int .i64 1))
                  go_wp2_with (go_at_call 66; refine HAL.out.mono ?_; rintro e w9 ⟨rfl, hw9⟩; subst w9)
                  all_goals first | exact (un_bool6 (by assumption)).elim | skip
                  go_roundw
                  case rel => exact ⟨q + 1, by omega, by go_num, by rw [HOR.out, HDD.out], by rw [HOR.out]; exact HC4.out, HL4.out, HB4.out⟩
                  case measure => simp [intOf]; omega
              · obtain rfl : q = nr := by omega
                have hqi : ¬ (q : Int) < (q : Int) := by omega
                clear hcs hbel hcl
                generalize hMQ : M1 ||| riTo rr q = MQ at *
                clear hMQ
                go_wp2_with fail
                all_goals first | exact (un_bool6 (by assumption)).elim | skip
                go_roundw
                case rel => exact ⟨k + 1, by omega, by go_num, by rw [HGN.out], by rw [HGN.out]; exact HC3.out, HB3.out⟩
                case measure => simp [intOf]; omega
        · obtain rfl : k = rn := by omega
          have HMX := hidD (mrd_is HCR.out (HPX.out E M0 HMJ.out k (Nat.le_refl _)))
          have HGE := hidD (rp_ge R E M0 k)
          have HPL := hidD (HPX.out E M0 HMJ.out k (Nat.le_refl _))
          go_wp2_with fail
          go_roundw
          case rel => exact ⟨j + 1, _, rfl, by rw [HNJ.out]; exact HCR.out, fun h => by
            have h1 : rpTo R E M0 k = M0 := by
              cases hd : decide (rpTo R E M0 k = M0) with
              | true => exact of_decide_eq_true hd
              | false => rw [hd] at h; cases h
            rw [HNJ.out, h1, HRN.out, h1], HBR.out⟩
          case measure =>
            have := HMX.out
            have := HMR.out
            have := HGE.out
            have := HPL.out
            have h5 := HMJ.out
            by_cases hne : rpTo R E M0 k = M0
            · rw [decide_eq_true hne]
              unfold mleft
              simp only [Bool.not_true]
              omega
            · rw [decide_eq_false hne]
              unfold mleft
              simp only [Bool.not_false]
              rw [HMX.out, HMR.out]
              omega

end
end Go.Proofs.YtgmbkelmgolkpaaDoor
