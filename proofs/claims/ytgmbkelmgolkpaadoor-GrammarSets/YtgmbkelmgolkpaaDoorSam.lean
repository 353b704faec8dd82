/- Two grammars, the program's and the document's: Same. -/
import Derived.Test.YtgmbkelmgolkpaaDoorGh
import Derived.Test.YtgmbkelmgolkpaaDoorRup
import Derived.Test.YtgmbkelmgolkpaaDoorGt
namespace Go.Proofs.YtgmbkelmgolkpaaDoor
open Go.RowKit Go.Maps
set_option linter.unusedVariables false

theorem own_some {w : World} {b n : Nat} {e : TypeId} {s : Nat} {v : Value} {xs : List Value} (h : w.ownsRow b e s v n xs) (hn : 1 ≤ n) : ∃ g c, v = .slice (some ⟨g, 0, none⟩) n c ∧ b ≤ g ∧ g < w.heap.size ∧ ∃ cs, w.heap[g]? = some (.cells cs e (0, 0)) := by
  rcases h.2 with ⟨rfl, h0⟩ | ⟨g, cap, cur, rfl, hb, hg, _⟩
  · omega
  · exact ⟨g, cap, rfl, hb, row_lt hg, cur, hg⟩
theorem own_other {w w' : World} {b n : Nat} {e : TypeId} {s : Nat} {v : Value} {xs : List Value} (h : w.ownsRow b e s v n xs) {g : Nat} (hg : w.grownBy w' (some g)) (hne : v.ownBlock ≠ some g) : w'.ownsRow b e s v n xs := by
  refine ⟨h.1, ?_⟩
  rcases h.2 with h0 | ⟨g', cap, cur, rfl, e2, e3, e4⟩
  · exact .inl h0
  · exact .inr ⟨g', cap, cur, rfl, e2, (hg.block g' (row_lt e3) (fun e => hne (by rw [← e]; rfl))).trans e3, e4⟩
theorem RuC.up {w : World} {bd : Nat → Nat} {xs : List Value} {R : Rus} (h : RuC w bd xs R) {i : Nat} : ∀ j, i ≤ j → j ≤ R.length → bd i ≤ bd j
  | 0, hi, _ => by rw [Nat.le_zero.1 hi]; exact Nat.le_refl _
  | j + 1, hi, hj => by
    rcases Nat.lt_or_ge i (j + 1) with h1 | h1
    · obtain ⟨_, _, _, _, _, h5⟩ := h.2 j (by omega)
      exact Nat.le_trans (h.up j (by omega) (by omega)) h5
    · rw [Nat.le_antisymm hi h1]; exact Nat.le_refl _
/-- The rows of the rules from k on stand. -/
def RwF (w : World) (bd : Nat → Nat) (xs : List Value) (R : Rus) (k : Nat) : Prop := ∀ j, k ≤ j → j < R.length → ∀ rv, xs[j * 2 + 1]? = some rv → w.ownsRow (bd j) 3 1 rv (R.getD j (0, [])).2.length ((R.getD j (0, [])).2.map encI)
theorem RuC.rows {w : World} {bd : Nat → Nat} {xs : List Value} {R : Rus} (h : RuC w bd xs R) : RwF w bd xs R 0 := fun j _ hj rv hx => by
  obtain ⟨u, _, h2, h3, _⟩ := h.2 j hj
  rw [h2] at hx
  cases hx
  exact h3
theorem RwF.next {w w' : World} {bd : Nat → Nat} {xs : List Value} {R : Rus} {k : Nat} (h : RwF w bd xs R k) (hb : Below w.heap.size w w') : RwF w' bd xs R k := fun j h1 h2 rv h3 => row_below (h j h1 h2 rv h3) hb
theorem un_bool3 {b : Bool} {c : Prop} (h : some undef = some (Value.bool b)) : False := by simp [undef] at h
set_option maxRecDepth 100000 in
theorem same_nil (w : World) : Calls Tryd.prog 11 #[.pointer none, .pointer none] w fun e w' => e = .returned (.bool true) ∧ Below w.heap.size w w' := by
  go_enter Tryd.func11, Tryd.ntmps11
  go_wp2_with fail
  go_ret
  exact ⟨rfl, Below.refl _ _⟩
set_option maxRecDepth 100000 in
set_option maxHeartbeats 3200000 in
theorem same_any {w : World} {p : Nat} {T O : List Tx} {st : Nat} {R : Rus} {nul : Nat} {bg fo : Nat → Nat} (h : GfAt w p T O st R nul bg fo) {p2 : Nat} {s : Int} (h2 : RgAt w p2 T O R s) (hs : (T.length : Int) + 1 + s = (st : Int)) (hs0 : 0 ≤ s) (hnam : Nam T O) : Calls Tryd.prog 11 #[.pointer (some ⟨p, 0, none⟩), .pointer (some ⟨p2, 0, none⟩)] w fun e w' => e = .returned (.bool true) ∧ Below w.heap.size w w' := by
  have hone := h.one
  have hrn := h.len
  have hst := h.stl
  have hfew := h.few
  have hok := h.ok
  have hTO : T.length + O.length ≤ 1048576 := by rw [allN_len] at hfew; omega
  have HNL : Hid (∀ x, ((allN T O).getD x []).length ≤ 32) := nam_len hnam
  obtain ⟨gn, on, nc, gr, og, cr, hgw⟩ := h.gw
  obtain ⟨a0, k0, a1, k1, gr2, og2, cr2, hrg⟩ := h2.gw hone
  have HGA := hidD (fun w' (hb : Below w.heap.size w w') => h.next hb)
  have HRG := hidD (fun w' (hb : Below w.heap.size w w') => hrg.next hb)
  have HGW := hidD hgw
  have HRU := hidD (rules_own (p := p) R _ hok (by omega) _ w hgw.pl (hgw.c4 w (Below.refl _ _)) (hgw.ru w (Below.refl _ _)))
  have H35 : Hid (∀ w', Below w.heap.size w w' → Calls Tryd.prog 35 #[.pointer (some ⟨p, 0, none⟩)] w' fun e w2 => e = .returned (.int .i64 ((T.length : Int) + 1)) ∧ Below w'.heap.size w' w2) := fun w' hb => (terminals_any w' (HGA.out w' hb).gm).mono fun e w2 ⟨h1, h2⟩ => ⟨h1.trans (by simp [gsOf]), by rw [h2]; exact Below.refl _ _⟩
  have H49 : Hid (∀ w', Below w.heap.size w w' → Calls Tryd.prog 49 #[.pointer (some ⟨p, 0, none⟩)] w' fun e w2 => e = .returned (.int .i64 ((allN T O).length : Int)) ∧ Below w'.heap.size w' w2) := fun w' hb => (symbols_any w' (HGA.out w' hb).gm).mono fun e w2 ⟨h1, h2⟩ => ⟨h1, by rw [h2]; exact Below.refl _ _⟩
  have H34 : Hid (∀ w', Below w.heap.size w w' → Calls Tryd.prog 34 #[.pointer (some ⟨p, 0, none⟩)] w' fun e w2 => e = .returned (.int .i64 (st : Int)) ∧ Below w'.heap.size w' w2) := fun w' hb => (start_any w' (HGA.out w' hb).gm).mono fun e w2 ⟨h1, h2⟩ => ⟨h1, by rw [h2]; exact Below.refl _ _⟩
  have H27 := hidD (fun w' (hb : Below w.heap.size w w') => refSymbols_any (HRG.out w' hb) hTO)
  have H50 : Hid (∀ w', Below w.heap.size w w' → Calls Tryd.prog 50 #[.pointer (some ⟨p2, 0, none⟩)] w' fun e w2 => e = .returned (.int .i64 (st : Int)) ∧ Below w'.heap.size w' w2) := fun w' hb => (refStart_any (HRG.out w' hb) hTO ⟨hs0, by omega⟩).mono fun e w2 ⟨h1, h2⟩ => ⟨by rw [h1, hs], h2⟩
  have H51 : Hid (∀ w', Below w.heap.size w w' → Calls Tryd.prog 51 #[.pointer (some ⟨p, 0, none⟩)] w' fun e w2 => e = .returned (encT (txTo (allN T O) R R.length)) ∧ Below w'.heap.size w' w2) := fun w' hb => by
    obtain ⟨gn, on, nc, gr, og, cr, hgw⟩ := (HGA.out w' hb).gw
    exact text_any hgw hok hfew HNL.out hrn
  have H52 := hidD (fun w' (hb : Below w.heap.size w w') => refText_any (HRG.out w' hb) hfew hok HNL.out hrn)
  have H53 := hidD (fun w' (hb : Below w.heap.size w w') => name_any (HGA.out w' hb))
  have H53n := hidD (fun w' (hb : Below w.heap.size w w') => name_no (HGA.out w' hb))
  have H54 := hidD (fun w' (hb : Below w.heap.size w w') => refName_is (HRG.out w' hb) hTO)
  have H54n := hidD (fun w' (hb : Below w.heap.size w w') => refName_no (HRG.out w' hb) hTO)
  have H55 := hidD (fun w' x (hb : Below w.heap.size w w') => of_own (p := p) R (by omega) x _ w' (Nat.lt_of_lt_of_le hgw.pl hb.size) (hgw.c4 w' hb) (hgw.ru w' hb))
  have H56 := hidD (fun w' x (hb : Below w.heap.size w w') => refOf_own (HRG.out w' hb) (by omega) x)
  have H13 := hidD (fun w' x (hx : x.length ≤ maxLen) (hb : Below w.heap.size w w') => find_any (HGA.out w' hb) x hx)
  have HNU := hidD (fun (x : Nat) (hx : x < (allN T O).length) => nuE_is hnam hx)
  have HC0 : Hid (∀ w', Below w.heap.size w w' → w'.cell? ⟨p2, 0, none⟩ = some (.slice a0 T.length k0)) := fun w' hb => hrg.c0 w' hb
  have HC2 : Hid (∀ w', Below w.heap.size w w' → w'.cell? ⟨p2, 2, none⟩ = some (.slice (some ⟨gr2, og2, none⟩) R.length cr2)) := fun w' hb => hrg.c2 w' hb
  have HLF := hidD (fun w' (hb : Below w.heap.size w w') => hrg.lf w' hb)
  have HRT := hidD hrg.rt
  have HOL := hidD (of_len R)
  have ht1 : (T.length : Int) + 1 ≤ 9223372036854775807 := by omega
  have HRS : Hid (∀ k, k < R.length → (R.getD k (0, [])).2.length ≤ 1048576) := fun k hk => (hok k hk).2.1
  clear h h2 hgw hrg hnam hok hs hs0 hst hTO
  generalize hrl : R.length = rn at *
  have HRN := hidD hrl
  clear hrl
  generalize hnn : (allN T O).length = n at *
  have HNN := hidD hnn
  clear hnn
  generalize hTX : encT (txTo (allN T O) R rn) = TXV at *
  obtain ⟨tb, htb⟩ : ∃ tb, TXV = .string tb := ⟨_, hTX.symm⟩
  subst htb
  clear hTX
  generalize hN : allN T O = N at *
  generalize T.length = t at *
  go_enter Tryd.func11, Tryd.ntmps11
  go_wp2_with (go_at_call 32; refine HRU.out.mono ?_; rintro e w1 ⟨u, xs, bd, rfl, ho, hru, hb0, hb1⟩; obtain ⟨gu, cu, hu, hgu, _⟩ := own_some ho hone; subst hu; have HO1 := hidD ho; have HRC := hidD hru; have HBD0 := hidD hb0; have HB1 := hidD hb1; clear ho hru hb0 hb1)
  have q35 := hidD (fun (i : BW w1) => H35.out i.v (Below.next HB1.out i.below))
  have q49 := hidD (fun (i : BW w1) => H49.out i.v (Below.next HB1.out i.below))
  have q34 := hidD (fun (i : BW w1) => H34.out i.v (Below.next HB1.out i.below))
  have q27 := hidD (fun (i : BW w1) => H27.out i.v (Below.next HB1.out i.below))
  have q50 := hidD (fun (i : BW w1) => H50.out i.v (Below.next HB1.out i.below))
  have q51 := hidD (fun (i : BW w1) => H51.out i.v (Below.next HB1.out i.below))
  have q52 := hidD (fun (i : BW w1) => H52.out i.v (Below.next HB1.out i.below))
  have i0 : ∀ i : BW w1, i.v.cell? ⟨p2, 0, none⟩ = some (.slice a0 t k0) := fun i => HC0.out i.v (Below.next HB1.out i.below)
  have i2 : ∀ i : BW w1, i.v.cell? ⟨p2, 2, none⟩ = some (.slice (some ⟨gr2, og2, none⟩) rn cr2) := fun i => HC2.out i.v (Below.next HB1.out i.below)
  refine wp_region_below (by kernel_rfl) (by kernel_rfl) ?_
  repeat (go_big_quiet_step (first | (go_at_call 35; exact Calls.below_of (q35.out _)) | (go_at_call 49; exact Calls.below_of (q49.out _)) | (go_at_call 34; exact Calls.below_of (q34.out _)) | (go_at_call 27; exact Calls.below_of (q27.out _)) | (go_at_call 50; exact Calls.below_of (q50.out _)) | (go_at_call 51; exact Calls.below_of (q51.out _)) | (go_at_call 52; exact Calls.below_of (q52.out _))))
  refine wpQuiet_nil ?_
  intro i
  have HB2 := hidD (Below.next HB1.out i.below)
  have HO2 := hidD (row_below HO1.out i.below)
  have HRC2 := hidD (HRC.out.next i.below)
  clear i0 i2 q35 q49 q34 q27 q50 q51 q52
  generalize i.v = w2 at *
  go_wp2_with fail
  go_loopw [6] (fun i wr => ∃ k : Nat, k ≤ rn ∧ i = .int .i64 (k : Int) ∧ wr.ownsRow w.heap.size 63 2 (.slice (some ⟨gu, 0, none⟩) rn cu) rn xs ∧ RwF wr bd xs R k ∧ Below w.heap.size w wr) (fun i _ => rn - (intOf i).toNat)
  case atStart => exact ⟨0, Nat.zero_le _, rfl, HO2.out, HRC2.out.rows, HB2.out⟩
  case round =>
    obtain ⟨k, hk, rfl, hou, hrf, hbel⟩ := hrel
    obtain ⟨wo, hwo⟩ : ∃ wo, wo = wr := ⟨_, rfl⟩
    subst hwo
    have HBO := hidD hbel
    have HOU := hidD hou
    have HRF := hidD hrf
    by_cases hlt : k < rn
    · have hlti : (k : Int) < (rn : Int) := by omega
      obtain ⟨rv, x0, x1, _, hblk, hup⟩ := HRC2.out.2 k (by rw [HRN.out]; exact hlt)
      have hrow := hrf k (Nat.le_refl _) (by rw [HRN.out]; exact hlt) rv x1
      have c0 : wo.cell? ⟨gu, k * 2, none⟩ = some (.int .i64 ((R.getD k (0, [])).1 : Int)) := by
        have := hou.cells (g := gu) rfl (k * 2) _ x0
        rwa [Addr.add_lit, Nat.zero_add] at this
      have HCU : Hid (∀ w' : World, w'.ownsRow w.heap.size 63 2 (.slice (some ⟨gu, 0, none⟩) rn cu) rn xs → w'.cell? ⟨gu, k * 2 + 1, none⟩ = some rv) := fun w' ho => by
        have := ho.cells (g := gu) rfl (k * 2 + 1) _ x1
        rwa [Addr.add_lit, Nat.zero_add] at this
      have c1 := HCU.out wo hou
      have d0 := HC2.out wo hbel
      have d1 := HLF.out wo hbel k hlt
      obtain ⟨a2, c2, hrt⟩ := HRT.out k hlt
      have d2 := (hrt wo hbel).1
      have hrs := HRS.out k hlt
      have HIN := hidD (fun w' (h1 : IlAt w' rv (R.getD k (0, [])).2) (h2 : IlAt w' (.slice a2 (R.getD k (0, [])).2.length c2) (R.getD k (0, [])).2) => ints_any (R.getD k (0, [])).2 (R.getD k (0, [])).2 (by omega) rv (.slice a2 (R.getD k (0, [])).2.length c2) w' h1 h2)
      rw [decide_eq_true rfl] at HIN
      have HI1 := hidD (il_of_own hrow)
      have HI2 := hidD (hrt wo hbel).2
      have HROW := hidD hrow
      have HBLK := hidD hblk
      have HUP := hidD hup
      have HUJ : Hid (∀ j, k + 1 ≤ j → j ≤ rn → bd (k + 1) ≤ bd j) := fun j h1 h2 => HRC2.out.up j h1 (by rw [HRN.out]; exact h2)
      have HU0 : Hid (w.heap.size ≤ bd k) := Nat.le_trans HBD0.out (HRC2.out.up k (Nat.zero_le _) (by rw [HRN.out]; exact hk))
      obtain ⟨ar, cr3, hrv⟩ := row_shape hrow
      subst hrv
      clear hou hrf hbel hrow hblk hup hrt x0
      generalize hrr : (R.getD k (0, [])).2 = rr at *
      clear hrr
      generalize hnr : rr.length = nr at *
      have HNR := hidD hnr
      clear hnr
      generalize (R.getD k (0, [])).1 = lf at *
      go_wp2_with fail
      have j0 : ∀ i : BW wo, i.v.cell? ⟨gu, k * 2, none⟩ = _ := fun i => (i.cell (cell_lt c0)).trans c0
      have j1 : ∀ i : BW wo, i.v.cell? ⟨gu, k * 2 + 1, none⟩ = _ := fun i => (i.cell (cell_lt c1)).trans c1
      have j2 : ∀ i : BW wo, i.v.cell? ⟨p2, 2, none⟩ = _ := fun i => (i.cell (cell_lt d0)).trans d0
      have j3 : ∀ i : BW wo, i.v.cell? ⟨gr2, og2 + k * 2, none⟩ = _ := fun i => (i.cell (cell_lt d1)).trans d1
      have j4 : ∀ i : BW wo, i.v.cell? ⟨gr2, og2 + k * 2 + 1, none⟩ = _ := fun i => (i.cell (cell_lt d2)).trans d2
      have q20 := hidD (fun (i : BW wo) => HIN.out i.v (HI1.out.next i.below) (HI2.out.next i.below))
      clear c0 c1 d0 d1 d2
      refine wp_region_below (by kernel_rfl) (by kernel_rfl) ?_
      repeat (go_big_quiet_step ((go_at_call 20; exact Calls.below_of (q20.out _))))
      refine wpQuiet_nil ?_
      intro i
      have HB3 := hidD (Below.next HBO.out i.below)
      have HO3 := hidD (row_below HOU.out i.below)
      have HRW3 := hidD (row_below HROW.out i.below)
      have HRF3 := hidD (HRF.out.next i.below)
      clear j0 j1 j2 j3 j4 q20
      generalize i.v = w3 at *
      go_wp2_with fail
      go_loopw [7] (fun i wr => ∃ (q : Nat) (ys : List Value), q ≤ nr ∧ i = .int .i64 (q : Int) ∧ wr.ownsRow (bd k) 3 1 (.slice ar nr cr3) nr ys ∧ wr.ownsRow w.heap.size 63 2 (.slice (some ⟨gu, 0, none⟩) rn cu) rn xs ∧ RwF wr bd xs R (k + 1) ∧ Below w.heap.size w wr) (fun i _ => nr - (intOf i).toNat)
      case atStart => exact ⟨0, _, Nat.zero_le _, rfl, HRW3.out, HO3.out, fun j h1 h2 => HRF3.out j (by omega) h2, HB3.out⟩
      case round =>
        obtain ⟨q, ys, hq, rfl, hro, hou, hrf, hbel⟩ := hrel
        have HRO := hidD hro
        have HOU4 := hidD hou
        have HRF4 := hidD hrf
        have HB4 := hidD hbel
        have c1 := HCU.out wr hou
        clear hro hou hrf hbel
        by_cases hqt : q < nr
        · have hqti : (q : Int) < (nr : Int) := by omega
          obtain ⟨g2, c4, hv, hg2, hg3, cs2, hcs2⟩ := own_some HRO.out (by omega)
          cases hv
          have hfz := HRO.out.frozenAt q
          obtain ⟨yv, hyv⟩ : ∃ yv, wr.cell? ⟨g2, q, none⟩ = some yv := by
            have hly : ys.length = nr := by have := HRO.out.1; omega
            have := HRO.out.cells (g := g2) rfl q (ys[q]'(by omega)) (List.getElem?_eq_getElem (by omega))
            rw [Addr.add_lit, Nat.zero_add] at this
            exact ⟨_, this⟩
          have HST := hidD (HRO.out.stored q (.int .i64 (-5)))
          have HNE : Hid ((Value.slice (some ⟨gu, 0, none⟩) rn cu).ownBlock ≠ some g2) := fun e => by
            obtain ⟨g9, c9, e9, _, _, cs9, hcs9⟩ := own_some HOU4.out hone
            cases e9
            cases e
            rw [hcs2] at hcs9
            cases hcs9
          have HFIN : Hid (RwF (wr.setCell ⟨g2, q, none⟩ (.int .i64 (-5))) bd xs R (k + 1)) := fun j h1 h2 rv' h3 => own_other (HRF4.out j h1 h2 rv' h3) HST.out.2 (fun e => by
            have h5 := (own_lt (HRF4.out j h1 h2 rv' h3) e).1
            have h6 := HUJ.out j h1 (by rw [← HRN.out]; omega)
            have h7 := HBLK.out g2 rfl
            omega)
          have HOU5 := hidD (own_other HOU4.out HST.out.2 HNE.out)
          have HB5 := hidD (HB4.out.setCell (p := ⟨g2, q, none⟩) (show w.heap.size ≤ g2 from Nat.le_trans HU0.out hg2) (.int .i64 (-5)))
          go_wp2_with fail
          go_roundw
          case rel => exact ⟨q + 1, _, by omega, by go_num, HST.out.1, HOU5.out, HFIN.out, HB5.out⟩
          case measure => simp [intOf]; omega
        · obtain rfl : q = nr := by omega
          go_wp2_with fail
          go_roundw
          case rel => exact ⟨k + 1, by omega, by go_num, HOU4.out, HRF4.out, HB4.out⟩
          case measure => simp [intOf]; omega
    · obtain rfl : k = rn := by omega
      clear hou hrf hbel
      go_wp2_with fail
      go_loopw [8] (fun i wr => ∃ x : Int, -1 ≤ x ∧ x ≤ (n : Int) + 1 ∧ i = .int .i64 x ∧ Below w.heap.size w wr) (fun i _ => ((n : Int) + 1 - intOf i).toNat)
      case atStart => exact ⟨-1, by omega, by omega, rfl, HBO.out⟩
      case round =>
        obtain ⟨x, hx1, hx2, rfl, hbel⟩ := hrel
        have HBX := hidD hbel
        have W27 := hidD (H27.out wr hbel)
        clear hbel
        by_cases hxn : x ≤ (n : Int)
        · have hxd : decide (x ≤ (n : Int)) = true := decide_eq_true hxn
          have hol := HOL.out x k
          have HIX := hidD (fun (w' : World) u v (h1 : IlAt w' u (ofTo R x k)) (h2 : IlAt w' v (ofTo R x k)) => ints_any (ofTo R x k) (ofTo R x k) (by omega) u v w' h1 h2)
          rw [decide_eq_true rfl] at HIX
          have W55 := hidD (fun w' (hb : Below w.heap.size w w') => H55.out w' x hb)
          have W56 := hidD (fun w' (hb : Below w.heap.size w w') => H56.out w' x hb)
          clear H35 H49 H34 H27 H50 H51 H52 H55 H56
          generalize ofTo R x k = of at *
          by_cases hin : 0 ≤ x ∧ x < (n : Int)
          ·
            obtain ⟨m, hm⟩ : ∃ m : Nat, x = (m : Int) := ⟨x.toNat, by omega⟩
            subst hm
            have hmn : m < n := by omega
            have hnl := HNL.out m
            have W53 := hidD (fun w' (hb : Below w.heap.size w w') => H53.out w' hb m hmn)
            have W54 := hidD (fun w' (hb : Below w.heap.size w w') => H54.out w' hb m hmn)
            have W13 := hidD (fun w' (hb : Below w.heap.size w w') => H13.out w' (N.getD m []) (by unfold maxLen; omega) hb)
            rw [HNU.out m hmn] at W13
            simp only [Option.getD_some, Option.isSome_some] at W13
            generalize N.getD m [] = X at *
            have hmm : ((m : Int) == (m : Int)) = true := beq_self_eq_true _
            clear H53 H53n H54 H54n H13 HNU HNL HOL hin
            unfold encT at W53 W54 W13
            generalize bA X = xb at *
            go_wp2_with first
              | (go_at_call 13; refine (W13.out _ HB8.out).mono ?_; rintro e w9 ⟨rfl, hw⟩; subst w9)
              | (go_at_call 20; refine (HIX.out _ _ _ HI6.out HJ6.out).mono ?_; rintro e w8 ⟨rfl, hb8⟩; have HB8 := hidD (Below.next HB6.out hb8); clear hb8)
              | (go_at_call 56; refine (W56.out _ HB5.out).mono ?_; rintro e w6 ⟨u6, rfl, ho6, hb6⟩; obtain ⟨a6, c6, h6⟩ := row_shape ho6; subst h6; have HJ6 := hidD (il_of_own ho6); have HI6 := hidD (HI5.out.next hb6); have HB6 := hidD (Below.next HB5.out hb6); clear ho6 hb6)
              | (go_at_call 55; refine (W55.out _ HB4.out).mono ?_; rintro e w5 ⟨u5, rfl, ho5, hb5⟩; obtain ⟨a5, c5, h5⟩ := row_shape ho5; subst h5; have HI5 := hidD (il_of_own ho5); have HB5 := hidD (Below.next HB4.out hb5); clear ho5 hb5)
              | (go_at_call 54; refine (W54.out _ HB3.out).mono ?_; rintro e w4 ⟨rfl, hb4⟩; have HB4 := hidD (Below.next HB3.out hb4); clear hb4)
              | (go_at_call 53; refine (W53.out _ HBA.out).mono ?_; rintro e w3 ⟨rfl, hb3⟩; have HB3 := hidD (Below.next HBA.out hb3); clear hb3)
              | (go_at_call 27; refine W27.out.mono ?_; rintro e wa ⟨rfl, hba⟩; have HBA := hidD (Below.next HBX.out hba); clear hba)
            all_goals first | exact (un_bool3 (by assumption)).elim | skip
            go_roundw
            case rel => exact ⟨_, by omega, by omega, rfl, HB8.out⟩
            case measure => simp [intOf]; omega
          ·
            have hout : x < 0 ∨ (n : Int) ≤ x := by omega
            have W53 := hidD (fun w' (hb : Below w.heap.size w w') => H53n.out w' hb x hout)
            have W54 := hidD (fun w' (hb : Below w.heap.size w w') => H54n.out w' hb x hout)
            have W13 := hidD (fun w' (hb : Below w.heap.size w w') => H13.out w' [] (Nat.zero_le _) hb)
            generalize (nuE T O []).getD 0 = fi at *
            generalize (nuE T O []).isSome = fk at *
            generalize hX : ([] : Tx) = X at W53 W54 W13
            clear hout hX
            clear H53 H53n H54 H54n H13 HNU HNL HOL hin
            unfold encT at W53 W54 W13
            generalize bA X = xb at *
            go_wp2_with first
              | (go_at_call 13; refine (W13.out _ HB8.out).mono ?_; rintro e w9 ⟨rfl, hw⟩; subst w9)
              | (go_at_call 20; refine (HIX.out _ _ _ HI6.out HJ6.out).mono ?_; rintro e w8 ⟨rfl, hb8⟩; have HB8 := hidD (Below.next HB6.out hb8); clear hb8)
              | (go_at_call 56; refine (W56.out _ HB5.out).mono ?_; rintro e w6 ⟨u6, rfl, ho6, hb6⟩; obtain ⟨a6, c6, h6⟩ := row_shape ho6; subst h6; have HJ6 := hidD (il_of_own ho6); have HI6 := hidD (HI5.out.next hb6); have HB6 := hidD (Below.next HB5.out hb6); clear ho6 hb6)
              | (go_at_call 55; refine (W55.out _ HB4.out).mono ?_; rintro e w5 ⟨u5, rfl, ho5, hb5⟩; obtain ⟨a5, c5, h5⟩ := row_shape ho5; subst h5; have HI5 := hidD (il_of_own ho5); have HB5 := hidD (Below.next HB4.out hb5); clear ho5 hb5)
              | (go_at_call 54; refine (W54.out _ HB3.out).mono ?_; rintro e w4 ⟨rfl, hb4⟩; have HB4 := hidD (Below.next HB3.out hb4); clear hb4)
              | (go_at_call 53; refine (W53.out _ HBA.out).mono ?_; rintro e w3 ⟨rfl, hb3⟩; have HB3 := hidD (Below.next HBA.out hb3); clear hb3)
              | (go_at_call 27; refine W27.out.mono ?_; rintro e wa ⟨rfl, hba⟩; have HBA := hidD (Below.next HBX.out hba); clear hba)
            all_goals first | exact (un_bool3 (by assumption)).elim | skip
            go_roundw
            case rel => exact ⟨_, by omega, by omega, rfl, HB8.out⟩
            case measure => simp [intOf]; omega
        · have hxd : decide (x ≤ (n : Int)) = false := decide_eq_false hxn
          go_wp2_with (go_at_call 27; refine W27.out.mono ?_; rintro e wa ⟨rfl, hba⟩; have HBA := hidD (Below.next HBX.out hba); clear hba)
          go_ret
          exact ⟨rfl, HBA.out⟩
end Go.Proofs.YtgmbkelmgolkpaaDoor
