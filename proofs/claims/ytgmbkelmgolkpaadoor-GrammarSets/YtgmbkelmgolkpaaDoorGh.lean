/- Texts of one proof, one behind the other. -/
import Derived.Test.YtgmbkelmgolkpaaDoorRha
/- The document's Text. -/
namespace Go.Proofs.YtgmbkelmgolkpaaDoor
open Go.RowKit Go.Maps
set_option linter.unusedVariables false

theorem ne_cast (a b : Nat) : ((a : Int) != (b : Int)) = !(a == b) := by
  rw [Bool.eq_iff_iff]
  simp
  omega
theorem ba_cat (x y : Tx) : bA x ++ bA y = bA (x ++ y) := cat_ba x y
theorem cell_lt {w : World} {g o : Nat} {v : Value} (h : w.cell? ⟨g, o, none⟩ = some v) : g < w.heap.size := by
  rcases Nat.lt_or_ge g w.heap.size with h1 | h1
  · exact h1
  · rw [World.cell?, Array.getElem?_eq_none h1] at h; cases h
section
variable {w : World} {p : Nat} {a0 : Option Addr} {k0 : Nat} {a1 : Option Addr} {k1 gr og cr : Nat} {T O : List Tx} {R : Rus} {s : Int}
set_option maxRecDepth 100000 in
set_option maxHeartbeats 3200000 in
theorem refText_any (h : RgW w p a0 k0 a1 k1 gr og cr T O R s) (hl : (allN T O).length ≤ 128) (hR : RuOk R (allN T O).length) (hN : ∀ s, ((allN T O).getD s []).length ≤ 32) (hrn : R.length ≤ 128) : Calls Tryd.prog 52 #[.pointer (some ⟨p, 0, none⟩)] w fun e w' => e = .returned (encT (txTo (allN T O) R R.length)) ∧ Below w.heap.size w w' := by
  have hTO : T.length + O.length ≤ 1048576 := by rw [allN_len] at hl; omega
  have HG := hidD h
  have HNL := hidD hN
  have HRO := hidD hR
  have HTL := hidD (tx_len hN hR hrn)
  have HNX : Hid (∀ k, txTo (allN T O) R (k + 1) = if fiB R k k then txTo (allN T O) R k ++ liS (allN T O) R (leS R k) (ofTo R (leS R k : Int) R.length) else txTo (allN T O) R k) := fun k => rfl
  have HFB : Hid (∀ i k, fiB R i (k + 1) = (fiB R i k && !(leS R k == leS R i))) := fun i k => rfl
  have HFI := hidD (fun (n : Nat) (hn : n < R.length) => (of_first R hn).1)
  have HOL := hidD (of_len R)
  have HLF : Hid (∀ wr, Below w.heap.size w wr → ∀ k, k < R.length → wr.cell? ⟨gr, og + k * 2, none⟩ = some (.int .i64 (leS R k : Int))) := h.lf
  have HNM := hidD (fun w2 x (hb : Below w.heap.size w w2) (hx : x < (allN T O).length) => refName_is (h.next hb) hTO x hx)
  have HOF := hidD (fun w2 x (hb : Below w.heap.size w w2) => refOf_own (h.next hb) (by omega) x)
  have HLN : Hid (∀ k, k < R.length → leS R k < (allN T O).length) := fun k hk => (hR k hk).1
  clear h hR hN hTO
  generalize hrl : R.length = rn at *
  have HRN := hidD hrl
  clear hrl
  generalize hnn : allN T O = N at *
  clear hnn
  go_enter Tryd.func52, Tryd.ntmps52
  go_wp2_with fail
  go_loopw [3, 4] (fun o i wr => ∃ (k : Nat) (ob : ByteArray), k ≤ rn ∧ i = .int .i64 (k : Int) ∧ o = .string ob ∧ ob = bA (txTo N R k) ∧ Below w.heap.size w wr) (fun _ i _ => rn - (intOf i).toNat)
  case atStart => exact ⟨0, _, Nat.zero_le _, rfl, rfl, rfl, Below.refl _ _⟩
  case round =>
    obtain ⟨k, ob, hk, rfl, rfl, hob, hbel⟩ := hrel
    obtain ⟨wo, hwo⟩ : ∃ wo, wo = wr := ⟨_, rfl⟩
    subst hwo
    have HBO := hidD hbel
    have HOB := hidD hob
    have f0 := HG.out.c2 wo hbel
    rw [HRN.out] at f0
    clear hob hbel
    by_cases hlt : k < rn
    · have hlti : (k : Int) < (rn : Int) := by omega
      go_wp2_with fail
      go_loopw [5, 6] (fun f j wr => ∃ q : Nat, q ≤ k ∧ j = .int .i64 (q : Int) ∧ f = .bool (fiB R k q) ∧ Below w.heap.size w wr) (fun _ j _ => k - (intOf j).toNat)
      case atStart => exact ⟨0, Nat.zero_le _, rfl, rfl, HBO.out⟩
      case round =>
        obtain ⟨q, hq, rfl, rfl, hbel⟩ := hrel
        have HBQ := hidD hbel
        by_cases hqt : q < k
        · have hqti : (q : Int) < (k : Int) := by omega
          have hqr : (q : Int) < (rn : Int) := by omega
          have f1 := HG.out.c2 wr hbel
          rw [HRN.out] at f1
          have f2 := HLF.out wr hbel q (by omega)
          have f3 := HLF.out wr hbel k hlt
          have HN := hidD (HFB.out k q)
          clear hbel
          generalize leS R q = lq at *
          generalize leS R k = lk at *
          cases hfb : fiB R k q with
          | false =>
            rw [hfb, Bool.false_and] at HN
            go_wp2_with fail
            go_quiet (fail)
            go_wp2_with fail
            go_roundw
            case rel => exact ⟨q + 1, by omega, by go_num, by rw [HN.out], below_drewN HBQ.out _⟩
            case measure => simp [intOf]; omega
          | true =>
            rw [hfb, Bool.true_and] at HN
            go_wp2_with fail
            go_quiet (fail)
            go_wp2_with fail
            go_roundw
            case rel => exact ⟨q + 1, by omega, by go_num, by rw [HN.out]; exact congrArg Value.bool (ne_cast lq lk), below_drewN HBQ.out _⟩
            case measure => simp [intOf]; omega
        · obtain rfl : q = k := by omega
          have HN := hidD (HNX.out q)
          clear hbel
          cases hfb : fiB R q q with
          | false =>
            rw [hfb] at HN
            go_wp2_with fail
            go_roundw
            case rel => exact ⟨q + 1, _, by omega, by go_num, rfl, by rw [HN.out]; exact HOB.out, HBQ.out⟩
            case measure => simp [intOf]; omega
          | true =>
            rw [hfb] at HN
            have hlN := HLN.out q hlt
            have hof1 := HFI.out q hlt
            have hol := HOL.out (leS R q : Int) rn
            have htl := HTL.out q
            have HOM : Hid (∀ z, z < (ofTo R (leS R q : Int) rn).length → ∃ j : Nat, (ofTo R (leS R q : Int) rn).getD z 0 = (j : Int) ∧ j < rn) := fun z hz => of_get hz
            have f1 := HG.out.c2 wr HBQ.out
            rw [HRN.out] at f1
            have f3 := HLF.out wr HBQ.out q hlt
            have HC2 : Hid (∀ w2, Below w.heap.size w w2 → w2.cell? ⟨p, 2, none⟩ = some (.slice (some ⟨gr, og, none⟩) rn cr) ∧ w2.cell? ⟨gr, og + q * 2, none⟩ = some (.int .i64 (leS R q : Int))) := fun w2 hb => ⟨by rw [← HRN.out]; exact HG.out.c2 w2 hb, HLF.out w2 hb q hlt⟩
            have HN1 := hidD (HNM.out wr (leS R q) HBQ.out hlN)
            have hnl := HNL.out (leS R q)
            have hos : ob.size ≤ 600000000000 := by rw [HOB.out, ba_size]; omega
            have HXS : Hid ((bA (N.getD (leS R q) [])).size ≤ 32) := by show _ ≤ _; rw [ba_size]; exact hnl
            have HOF1 := hidD (fun w2 (hb : Below w.heap.size w w2) => HOF.out w2 (leS R q : Int) hb)
            clear HFI HLN HFB HLF HOL hfb
            generalize hoq : ofTo R (leS R q : Int) rn = of at *
            clear hoq
            generalize hA : N.getD (leS R q) [] = A at *
            unfold encT at HN1
            generalize hab : bA A = ab at *
            have HAB := hidD hab
            clear hab
            have hxs := HXS.out
            generalize hlq : leS R q = lq at *
            generalize hm : of.length = m at *
            have HM := hidD hm
            clear hm
            go_wp2_with first
              | (go_at_call 56; have := b3; clear this; refine (HOF1.out _ HB2.out).mono ?_; rintro e w3 ⟨u3, rfl, ho3, hb3⟩; obtain ⟨a6, c6, h6⟩ := row_shape ho3; subst h6; obtain ⟨g6, o6, h7⟩ := il_some (il_of_own (l := of) (by rw [HM.out]; exact ho3)) (by rw [HM.out]; exact hof1); subst h7; have HB3 := hidD (Below.next HB2.out hb3); have HO3 := hidD ho3; clear ho3 hb3)
              | (go_at_call 54; refine HN1.out.mono ?_; rintro e w2 ⟨rfl, hb2⟩; have HB2 := hidD (Below.next HBQ.out hb2); obtain ⟨g0, g1⟩ := HC2.out w2 HB2.out; have b3 := trivial; clear hb2)
            go_loopw [3, 10] (fun o i wr => ∃ (z : Nat) (zb : ByteArray), z ≤ m ∧ i = .int .i64 (z : Int) ∧ o = .string zb ∧ zb = bA (txTo N R q ++ A ++ (if z = 0 then barS 0 else arTo N R of z)) ∧ wr.ownsRow w2.heap.size 3 1 (.slice (some ⟨g6, o6, none⟩) m c6) m (of.map encI) ∧ Below w.heap.size w wr) (fun _ i _ => m - (intOf i).toNat)
            case atStart => exact ⟨0, _, Nat.zero_le _, rfl, rfl, by rw [HOB.out, ← HAB.out, if_pos rfl, ← ba_cat _ (barS 0), ← ba_cat]; rfl, HO3.out, HB3.out⟩
            case round =>
              obtain ⟨z, zb, hz0, rfl, rfl, hzb, how, hbel⟩ := hrel
              have HZB := hidD hzb
              have HBZ := hidD hbel
              have HOZ := hidD how
              have hal : (arTo N R of z).length ≤ 34603011 * z := ar_len HNL.out HRO.out of z
              have HPL : Hid ((txTo N R q ++ A ++ arTo N R of z ++ barS z).length ≤ 700000000000) := by
                have := bar_len z
                show _ ≤ _
                simp only [List.length_append]; omega
              have hzs : zb.size ≤ 700000000000 := by
                have := bar_len 0
                rw [hzb, ba_size]
                split <;> simp only [List.length_append] <;> omega
              clear hzb how hbel
              by_cases hzt : z < m
              · have hzti : (z : Int) < (m : Int) := by omega
                obtain ⟨j, hj, hjn⟩ := HOM.out z hzt
                have hji : (j : Int) < (rn : Int) := by omega
                obtain ⟨a2, c2, hrt⟩ := HG.out.rt j (by rw [HRN.out]; exact hjn)
                have HRT := hidD hrt
                have HRS : Hid (∀ q, q < (R.getD j (0, [])).2.length → ∃ t : Nat, (R.getD j (0, [])).2.getD q 0 = (t : Int) ∧ t < N.length) := fun q hq => (HRO.out j (by rw [HRN.out]; exact hjn)).2.2 q hq
                have hrr : (R.getD j (0, [])).2.length ≤ 1048576 := (HRO.out j (by rw [HRN.out]; exact hjn)).2.1
                have HAR : Hid (arTo N R of (z + 1) = (arTo N R of z ++ barS z) ++ rwTo N (R.getD j (0, [])).2 (R.getD j (0, [])).2.length) := by
                  show (arTo N R of z ++ barS z) ++ rwTo N (rgS R of z) (rgS R of z).length = _
                  rw [show rgS R of z = (R.getD j (0, [])).2 by unfold rgS; rw [hj, Int.toNat_natCast]]
                clear hrt
                generalize hrw : (R.getD j (0, [])).2 = rr at *
                clear hrw
                generalize hnr : rr.length = nr at *
                have HNR := hidD hnr
                clear hnr
                by_cases hz : z = 0
                ·
                  have hzd : decide ((0 : Int) < (z : Int)) = false := decide_eq_false (by omega)
                  have hzi : ¬ (0 : Int) < (z : Int) := by omega
                  have HPE : Hid (zb = bA (txTo N R q ++ A ++ arTo N R of z ++ barS z)) := by show _ = _; rw [HZB.out, if_pos hz, hz]; show _ = bA (txTo N R q ++ A ++ [] ++ barS 0); rw [List.append_nil]
                  clear hz
                  go_wp2_with fail
                  go_loopw [3, 11] (fun o i wr => ∃ (y : Nat) (yb : ByteArray), y ≤ nr ∧ i = .int .i64 (y : Int) ∧ o = .string yb ∧ yb = bA (txTo N R q ++ A ++ arTo N R of z ++ barS z ++ rwTo N rr y) ∧ wr.ownsRow w2.heap.size 3 1 (.slice (some ⟨g6, o6, none⟩) m c6) m (of.map encI) ∧ Below w.heap.size w wr) (fun _ i _ => nr - (intOf i).toNat)
                  case atStart => exact ⟨0, _, Nat.zero_le _, rfl, rfl, by rw [rwTo, List.append_nil]; exact HPE.out, HOZ.out, HBZ.out⟩
                  case round =>
                    obtain ⟨y, yb, hy, rfl, rfl, hyb, how, hbel⟩ := hrel
                    have HYB := hidD hyb
                    have HBY := hidD hbel
                    have HOY := hidD how
                    have hys : yb.size ≤ 800000000000 := by have := rw_len HNL.out rr y; rw [hyb, ba_size, List.length_append]; have := HPL.out; omega
                    have e0 := (HC2.out wr hbel).1
                    have e1 := (HRT.out wr hbel).1
                    have e2 : wr.cell? ⟨g6, o6 + z, none⟩ = some (.int .i64 (j : Int)) := by rw [← hj]; exact (il_at (il_of_own (l := of) (by rw [HM.out]; exact how)) (by rw [HM.out]; exact hzt)).2
                    clear hyb how hbel
                    by_cases hyt : y < nr
                    · have hyti : (y : Int) < (nr : Int) := by omega
                      obtain ⟨t, ht, htn⟩ := HRS.out y hyt
                      obtain ⟨g2, o2, rfl⟩ := il_some (HRT.out wr HBY.out).2 (by rw [HNR.out]; omega)
                      obtain ⟨hg2, e3⟩ := il_at (HRT.out wr HBY.out).2 (k := y) (by rw [HNR.out]; exact hyt)
                      rw [ht] at e3
                      have hnt := HNL.out t
                      have HNT := hidD (fun w2 (hb : Below w.heap.size w w2) => HNM.out w2 t hb htn)
                      have hxs2 : (bA (N.getD t [])).size ≤ 32 := by rw [ba_size]; exact hnt
                      have HNX2 : Hid (yb ++ ⟨#[32]⟩ ++ bA (N.getD t []) = bA (txTo N R q ++ A ++ arTo N R of z ++ barS z ++ rwTo N rr (y + 1))) := by
                        show _ = bA (txTo N R q ++ A ++ arTo N R of z ++ barS z ++ (rwTo N rr y ++ 32 :: N.getD (rr.getD y 0).toNat []))
                        rw [ht, Int.toNat_natCast, HYB.out]
                        show bA _ ++ bA [32] ++ bA _ = _
                        rw [ba_cat, ba_cat]
                        simp only [List.append_assoc, List.cons_append, List.nil_append]
                      unfold encT at HNT
                      generalize bA (N.getD t []) = xb at *
                      clear ht hnt
                      go_wp2_with fail
                      go_quiet (fail)
                      have HBN : Hid (Below w.heap.size w (wr.drewN nq)) := below_drewN HBY.out _
                      have HON : Hid ((wr.drewN nq).ownsRow w2.heap.size 3 1 (.slice (some ⟨g6, o6, none⟩) m c6) m (of.map encI)) := HOY.out
                      have n0 : (wr.drewN nq).cell? ⟨p, 2, none⟩ = _ := e0
                      have n1 : (wr.drewN nq).cell? ⟨gr, og + j * 2 + 1, none⟩ = _ := e1
                      have n2 : (wr.drewN nq).cell? ⟨g6, o6 + z, none⟩ = _ := e2
                      have n3 : (wr.drewN nq).cell? ⟨g2, o2 + y, none⟩ = _ := e3
                      generalize wr.drewN nq = wn at *
                      clear e0 e1 e2 e3
                      have HNT2 := hidD (fun (i : BW wn) => HNT.out i.v (Below.next HBN.out i.below))
                      have i0 : ∀ i : BW wn, i.v.cell? ⟨p, 2, none⟩ = _ := fun i => (i.cell (cell_lt n0)).trans n0
                      have i1 : ∀ i : BW wn, i.v.cell? ⟨gr, og + j * 2 + 1, none⟩ = _ := fun i => (i.cell (cell_lt n1)).trans n1
                      have i2 : ∀ i : BW wn, i.v.cell? ⟨g6, o6 + z, none⟩ = _ := fun i => (i.cell (cell_lt n2)).trans n2
                      have i3 : ∀ i : BW wn, i.v.cell? ⟨g2, o2 + y, none⟩ = _ := fun i => (i.cell (cell_lt n3)).trans n3
                      clear n0 n1 n2 n3
                      go_wp2_with fail
                      refine wp_region_below (by kernel_rfl) (by kernel_rfl) ?_
                      repeat (go_big_quiet_step ((go_at_call 54; exact Calls.below_of (HNT2.out _))))
                      refine wpQuiet_nil ?_
                      intro i
                      have HBI := hidD (Below.next HBN.out i.below)
                      have HOI := hidD (row_below HON.out i.below)
                      clear i0 i1 i2 i3
                      generalize i.v = w5 at *
                      go_wp2_with fail
                      go_roundw
                      case rel => exact ⟨y + 1, _, by omega, by go_num, rfl, HNX2.out, HOI.out, HBI.out⟩
                      case measure => simp [intOf]; omega
                    · obtain rfl : y = nr := by omega
                      have hyti : ¬ (y : Int) < (y : Int) := by omega
                      go_wp2_with fail
                      go_quiet (fail)
                      go_wp2_with fail
                      go_roundw
                      case rel => exact ⟨z + 1, _, by omega, by go_num, rfl, by rw [HYB.out, if_neg (Nat.succ_ne_zero z), HAR.out]; simp only [List.append_assoc], HOY.out, below_drewN HBY.out _⟩
                      case measure => simp [intOf]; omega
                ·
                  have hzd : decide ((0 : Int) < (z : Int)) = true := decide_eq_true (by omega)
                  have hzi : (0 : Int) < (z : Int) := by omega
                  have HPE : Hid (zb ++ ⟨#[32, 124]⟩ = bA (txTo N R q ++ A ++ arTo N R of z ++ barS z)) := by show _ = _; rw [HZB.out, if_neg hz, show barS z = [32, 124] from if_neg hz, ← ba_cat _ [32, 124]]; rfl
                  clear hz
                  go_wp2_with fail
                  go_loopw [3, 11] (fun o i wr => ∃ (y : Nat) (yb : ByteArray), y ≤ nr ∧ i = .int .i64 (y : Int) ∧ o = .string yb ∧ yb = bA (txTo N R q ++ A ++ arTo N R of z ++ barS z ++ rwTo N rr y) ∧ wr.ownsRow w2.heap.size 3 1 (.slice (some ⟨g6, o6, none⟩) m c6) m (of.map encI) ∧ Below w.heap.size w wr) (fun _ i _ => nr - (intOf i).toNat)
                  case atStart => exact ⟨0, _, Nat.zero_le _, rfl, rfl, by rw [rwTo, List.append_nil]; exact HPE.out, HOZ.out, HBZ.out⟩
                  case round =>
                    obtain ⟨y, yb, hy, rfl, rfl, hyb, how, hbel⟩ := hrel
                    have HYB := hidD hyb
                    have HBY := hidD hbel
                    have HOY := hidD how
                    have hys : yb.size ≤ 800000000000 := by have := rw_len HNL.out rr y; rw [hyb, ba_size, List.length_append]; have := HPL.out; omega
                    have e0 := (HC2.out wr hbel).1
                    have e1 := (HRT.out wr hbel).1
                    have e2 : wr.cell? ⟨g6, o6 + z, none⟩ = some (.int .i64 (j : Int)) := by rw [← hj]; exact (il_at (il_of_own (l := of) (by rw [HM.out]; exact how)) (by rw [HM.out]; exact hzt)).2
                    clear hyb how hbel
                    by_cases hyt : y < nr
                    · have hyti : (y : Int) < (nr : Int) := by omega
                      obtain ⟨t, ht, htn⟩ := HRS.out y hyt
                      obtain ⟨g2, o2, rfl⟩ := il_some (HRT.out wr HBY.out).2 (by rw [HNR.out]; omega)
                      obtain ⟨hg2, e3⟩ := il_at (HRT.out wr HBY.out).2 (k := y) (by rw [HNR.out]; exact hyt)
                      rw [ht] at e3
                      have hnt := HNL.out t
                      have HNT := hidD (fun w2 (hb : Below w.heap.size w w2) => HNM.out w2 t hb htn)
                      have hxs2 : (bA (N.getD t [])).size ≤ 32 := by rw [ba_size]; exact hnt
                      have HNX2 : Hid (yb ++ ⟨#[32]⟩ ++ bA (N.getD t []) = bA (txTo N R q ++ A ++ arTo N R of z ++ barS z ++ rwTo N rr (y + 1))) := by
                        show _ = bA (txTo N R q ++ A ++ arTo N R of z ++ barS z ++ (rwTo N rr y ++ 32 :: N.getD (rr.getD y 0).toNat []))
                        rw [ht, Int.toNat_natCast, HYB.out]
                        show bA _ ++ bA [32] ++ bA _ = _
                        rw [ba_cat, ba_cat]
                        simp only [List.append_assoc, List.cons_append, List.nil_append]
                      unfold encT at HNT
                      generalize bA (N.getD t []) = xb at *
                      clear ht hnt
                      go_wp2_with fail
                      go_quiet (fail)
                      have HBN : Hid (Below w.heap.size w (wr.drewN nq)) := below_drewN HBY.out _
                      have HON : Hid ((wr.drewN nq).ownsRow w2.heap.size 3 1 (.slice (some ⟨g6, o6, none⟩) m c6) m (of.map encI)) := HOY.out
                      have n0 : (wr.drewN nq).cell? ⟨p, 2, none⟩ = _ := e0
                      have n1 : (wr.drewN nq).cell? ⟨gr, og + j * 2 + 1, none⟩ = _ := e1
                      have n2 : (wr.drewN nq).cell? ⟨g6, o6 + z, none⟩ = _ := e2
                      have n3 : (wr.drewN nq).cell? ⟨g2, o2 + y, none⟩ = _ := e3
                      generalize wr.drewN nq = wn at *
                      clear e0 e1 e2 e3
                      have HNT2 := hidD (fun (i : BW wn) => HNT.out i.v (Below.next HBN.out i.below))
                      have i0 : ∀ i : BW wn, i.v.cell? ⟨p, 2, none⟩ = _ := fun i => (i.cell (cell_lt n0)).trans n0
                      have i1 : ∀ i : BW wn, i.v.cell? ⟨gr, og + j * 2 + 1, none⟩ = _ := fun i => (i.cell (cell_lt n1)).trans n1
                      have i2 : ∀ i : BW wn, i.v.cell? ⟨g6, o6 + z, none⟩ = _ := fun i => (i.cell (cell_lt n2)).trans n2
                      have i3 : ∀ i : BW wn, i.v.cell? ⟨g2, o2 + y, none⟩ = _ := fun i => (i.cell (cell_lt n3)).trans n3
                      clear n0 n1 n2 n3
                      go_wp2_with fail
                      refine wp_region_below (by kernel_rfl) (by kernel_rfl) ?_
                      repeat (go_big_quiet_step ((go_at_call 54; exact Calls.below_of (HNT2.out _))))
                      refine wpQuiet_nil ?_
                      intro i
                      have HBI := hidD (Below.next HBN.out i.below)
                      have HOI := hidD (row_below HON.out i.below)
                      clear i0 i1 i2 i3
                      generalize i.v = w5 at *
                      go_wp2_with fail
                      go_roundw
                      case rel => exact ⟨y + 1, _, by omega, by go_num, rfl, HNX2.out, HOI.out, HBI.out⟩
                      case measure => simp [intOf]; omega
                    · obtain rfl : y = nr := by omega
                      have hyti : ¬ (y : Int) < (y : Int) := by omega
                      go_wp2_with fail
                      go_quiet (fail)
                      go_wp2_with fail
                      go_roundw
                      case rel => exact ⟨z + 1, _, by omega, by go_num, rfl, by rw [HYB.out, if_neg (Nat.succ_ne_zero z), HAR.out]; simp only [List.append_assoc], HOY.out, below_drewN HBY.out _⟩
                      case measure => simp [intOf]; omega
              · obtain rfl : z = m := by omega
                have hzti : ¬ (z : Int) < (z : Int) := by omega
                go_wp2_with fail
                go_roundw
                case rel => exact ⟨q + 1, _, by omega, by go_num, rfl, by rw [HN.out, if_pos trivial, HZB.out, if_neg (by omega)]; show bA _ ++ bA [10] = _; rw [ba_cat]; unfold liS; rw [HM.out, hA]; simp only [List.append_assoc], HBZ.out⟩
                case measure => simp [intOf]; omega
    · obtain rfl : k = rn := by omega
      go_wp2_with fail
      go_ret
      exact ⟨by rw [HOB.out]; rfl, HBO.out⟩
end
end Go.Proofs.YtgmbkelmgolkpaaDoor
/- What Find answers; Name of what is no symbol; the numbers of names. -/
namespace Go.Proofs.YtgmbkelmgolkpaaDoor
open Go.RowKit Go.Maps
set_option linter.unusedVariables false

theorem nuE_is {T O : List Tx} (h : Nam T O) {s : Nat} (hs : s < (allN T O).length) : nuE T O ((allN T O).getD s []) = some (s : Int) := by
  unfold nuE
  by_cases ht : s = T.length
  · subst ht
    rw [alN_E, if_pos rfl]
  · have hn : nmS ((allN T O).getD s []) = true := by
      rcases alN_split hs ht with ⟨h1, h2⟩ | ⟨k, h1, h2, h3⟩
      · rw [h2]; exact h.all _ (.inl (getD_mem h1))
      · rw [h3]; exact h.all _ (.inr (getD_mem h2))
    rw [if_neg (nm_not hn).1]
    refine nu_at _ _ _ ht rfl _ hs fun i h1 h2 h3 e => ?_
    have := h.one h2 hs h3 ht e
    omega
theorem nuE_df {T O : List Tx} (h : Nam T O) (x : Tx) : (nuE T O x).isSome = decide (0 ≤ dfS T O x) ∧ (nuE T O x).getD 0 = max (dfS T O x) 0 := by
  unfold nuE
  by_cases he : x = tEnd
  · have : dfS T O x = (T.length : Int) := by unfold dfS; rw [if_pos he]
    rw [if_pos he, this]
    exact ⟨by simp, by simp⟩
  · rw [if_neg he]
    by_cases hx : x ∈ T ∨ x ∈ O
    · obtain ⟨h1, h2, h3, _⟩ := h.find hx
      refine ⟨by rw [h3, decide_eq_true h2], ?_⟩
      have h4 : (nuF T O x).getD 0 = dfS T O x := h1
      rw [h4]; omega
    · have h1 : nuF T O x = none := by
        refine nu_none _ _ _ _ fun j hj ht e => hx ?_
        rcases alN_split hj ht with ⟨h1, h2⟩ | ⟨k, h1, h2, h3⟩
        · exact .inl (by rw [← e, h2]; exact getD_mem h1)
        · exact .inr (by rw [← e, h3]; exact getD_mem h2)
      have h2 : dfS T O x = -1 := by
        unfold dfS
        rw [if_neg he, if_neg (by rw [at_iff]; exact fun h => hx (.inl h)), if_neg (by rw [at_iff]; exact fun h => hx (.inr h))]
      rw [h1, h2]
      exact ⟨rfl, rfl⟩
set_option maxRecDepth 100000 in
theorem find_nilT (x : Tx) (w : World) : Calls Tryd.prog 13 #[.pointer none, encT x] w fun e w' => e = .returned (.tuple #[.int .i64 0, .bool false]) ∧ w' = w := by
  unfold encT
  go_enter Tryd.func13, Tryd.ntmps13
  go_wp2_with fail
  refine bodyPost_ret (v := .tuple #[.int .i64 0, .bool false]) (by simp [results, Tryd.results13, go_sem]) rfl ?_
  exact ⟨rfl, rfl⟩
set_option maxRecDepth 100000 in
set_option maxHeartbeats 800000 in
theorem find_any {w : World} {p : Nat} {T O : List Tx} {st : Nat} {R : Rus} {nul : Nat} {bg fo : Nat → Nat} (h : GfAt w p T O st R nul bg fo) (x : Tx) (hx : x.length ≤ maxLen) : Calls Tryd.prog 13 #[.pointer (some ⟨p, 0, none⟩), encT x] w fun e w' => e = .returned (.tuple #[.int .i64 ((nuE T O x).getD 0), .bool (nuE T O x).isSome]) ∧ w' = w := by
  obtain ⟨cs, h1, _, ⟨b, n, e3, e4⟩, _⟩ := h.cs
  have f1 : w.cell? ⟨p, 1, none⟩ = some (.map (some b)) := by rw [h1.cell]; exact e3
  have hlk := e4.lookOk hx
  clear h h1 e3 e4
  generalize (nuE T O x).getD 0 = i at *
  generalize (nuE T O x).isSome = k at *
  unfold encT
  generalize bA x = xb at *
  go_enter Tryd.func13, Tryd.ntmps13
  go_wp2_with fail
  refine bodyPost_ret (v := .tuple #[.int .i64 i, .bool k]) (by simp [results, Tryd.results13, go_sem]) rfl ?_
  exact ⟨rfl, rfl⟩
set_option maxRecDepth 100000 in
set_option maxHeartbeats 800000 in
theorem name_no {p : Nat} {w : World} {T O : List Tx} {st nul : Nat} {R : List (Nat × List Int)} {bg fo : Nat → Nat} (h : GfAt w p T O st R nul bg fo) (x : Int) (hx : x < 0 ∨ ((allN T O).length : Int) ≤ x) : Calls Tryd.prog 53 #[.pointer (some ⟨p, 0, none⟩), .int .i64 x] w fun e w' => e = .returned (.tuple #[encT [], .bool false]) ∧ Below w.heap.size w w' := by
  have HHA := hidD (has_any x w h.gm)
  rw [show hasS (gsOf T O st nul bg fo) x = false from by
    unfold hasS gsOf
    rcases hx with hx | hx
    · rw [decide_eq_false (show ¬ (0 : Int) ≤ x by omega)]; rfl
    · rw [decide_eq_false (show ¬ x < (((allN T O).length : Nat) : Int) by omega), Bool.and_false]] at HHA
  clear h hx
  go_enter Tryd.func53, Tryd.ntmps53
  go_wp2_with (go_at_call 63; refine HHA.out.mono ?_; rintro e w2 ⟨rfl, hw⟩; subst w2)
  refine bodyPost_ret (v := .tuple #[encT [], .bool false]) (by simp [results, Tryd.results53, go_sem]; rfl) rfl ?_
  exact ⟨rfl, Below.refl _ _⟩
end Go.Proofs.YtgmbkelmgolkpaaDoor
