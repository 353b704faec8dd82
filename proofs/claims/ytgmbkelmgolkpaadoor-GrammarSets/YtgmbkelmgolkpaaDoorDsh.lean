/- The document's right, Nullable and First. -/
import Derived.Test.YtgmbkelmgolkpaaDoorDe
import Derived.Test.YtgmbkelmgolkpaaDoorGcm
namespace Go.Proofs.YtgmbkelmgolkpaaDoor
open Go.RowKit Go.Maps
set_option linter.unusedVariables false

theorem gp_base (R : Ru) (M : Nat) {i : Nat} (hi : M.testBit i = true) : ∀ k, (gpTo R M k).testBit i = true
  | 0 => hi
  | k + 1 => by
    rw [gpTo]; split
    · rw [Nat.testBit_or, gp_base R M hi k, Bool.true_or]
    · exact gp_base R M hi k
theorem gpIt_base (R : Ru) (M : Nat) {i : Nat} (hi : M.testBit i = true) : ∀ j, (gpIt R M j).testBit i = true
  | 0 => hi
  | j + 1 => gp_base R _ (gpIt_base R M hi j) _
theorem gr_base {R : Ru} {M E : Nat} (h : GrIs R M E) {i : Nat} (hi : M.testBit i = true) : E.testBit i = true := by
  obtain ⟨j, rfl, _⟩ := h
  exact gpIt_base R M hi j
/-- What is grown is the least that there is. -/
theorem gp_least (R : Ru) (P : Nat → Prop) (hc : ∀ k, k < R.length → (∀ x ∈ (R.getD k (0, [])).2, P x.toNat) → P (R.getD k (0, [])).1) {M : Nat} (hM : ∀ i, M.testBit i = true → P i) : ∀ k, k ≤ R.length → ∀ i, (gpTo R M k).testBit i = true → P i
  | 0, _, i, hi => hM i hi
  | k + 1, hk, i, hi => by
    have ih := gp_least R P hc hM k (by omega)
    rw [gpTo] at hi
    split at hi
    · rename_i ha
      rw [Nat.testBit_or, Bool.or_eq_true] at hi
      rcases hi with hi | hi
      · exact ih i hi
      · rw [Nat.testBit_two_pow, decide_eq_true_eq] at hi
        rw [← hi]
        rw [List.all_eq_true] at ha
        exact hc k (by omega) fun x hx => ih _ (ha x hx)
    · exact ih i hi
theorem gpIt_least (R : Ru) (P : Nat → Prop) (hc : ∀ k, k < R.length → (∀ x ∈ (R.getD k (0, [])).2, P x.toNat) → P (R.getD k (0, [])).1) {M : Nat} (hM : ∀ i, M.testBit i = true → P i) : ∀ j i, (gpIt R M j).testBit i = true → P i
  | 0, i, hi => hM i hi
  | j + 1, i, hi => gp_least R P hc (gpIt_least R P hc hM j) _ (Nat.le_refl _) i hi
theorem gr_least {R : Ru} {M E : Nat} (h : GrIs R M E) (P : Nat → Prop) (hc : ∀ k, k < R.length → (∀ x ∈ (R.getD k (0, [])).2, P x.toNat) → P (R.getD k (0, [])).1) (hM : ∀ i, M.testBit i = true → P i) {i : Nat} (hi : E.testBit i = true) : P i := by
  obtain ⟨j, rfl, _⟩ := h
  exact gpIt_least R P hc hM j i hi
theorem gr_sub {R : Ru} {M E E' : Nat} (h : GrIs R M E) (h' : GrIs R M E') {i : Nat} (hi : E.testBit i = true) : E'.testBit i = true :=
  gr_least h (fun i => E'.testBit i = true) (fun k hk ha => gr_closed h' hk (List.all_eq_true.2 ha)) (fun i hi => gr_base h' hi) hi
theorem gr_one {R : Ru} {M E E' : Nat} (h : GrIs R M E) (h' : GrIs R M E') : E = E' := Nat.eq_of_testBit_eq fun i => by
  rw [Bool.eq_iff_iff]; exact ⟨gr_sub h h', gr_sub h' h⟩
/-- Are these all symbols? -/
def rgB (n : Nat) (l : List Int) : Bool := l.all fun x => decide (0 ≤ x) && decide (x < (n : Int))
theorem rg_sym {n : Nat} {l : List Int} (h : rgB n l = true) : SymL n l := fun j hj => by
  unfold rgB at h
  rw [List.all_eq_true] at h
  have := h (l.getD j 0) (by rw [List.getD_eq_getElem?_getD, List.getElem?_eq_getElem hj]; exact List.getElem_mem hj)
  rw [Bool.and_eq_true, decide_eq_true_eq, decide_eq_true_eq] at this
  exact ⟨(l.getD j 0).toNat, by omega, by omega⟩
section
variable {w : World} {p : Nat} {a0 : Option Addr} {k0 : Nat} {a1 : Option Addr} {k1 gr og cr : Nat} {T O : List Tx} {R : Rus} {s : Int}
set_option maxRecDepth 100000 in
set_option maxHeartbeats 1600000 in
theorem refRight_any (h : RgW w p a0 k0 a1 k1 gr og cr T O R s) (n : Nat) (hnn : (allN T O).length = n) (hn : n ≤ 128) (l : List Int) (hll : l.length ≤ 9223372036854775806) (v : Value) (hv : IlAt w v l) : Calls Tryd.prog 65 #[.pointer (some ⟨p, 0, none⟩), v] w fun e w' => e = .returned (.bool (rgB n l)) ∧ Below w.heap.size w w' := by
  have HSY := hidD (fun w' (hb : Below w.heap.size w w') => refSymbols_any (h.next hb) (by rw [allN_len] at hnn; omega))
  rw [hnn] at HSY
  have HIL := hidD hv
  obtain ⟨a, cap, rfl, hc1, hc2, hc3⟩ := hv
  have HC := hidD hc3
  have HY : Hid ((∀ q, q < l.length → (decide (0 ≤ l.getD q 0) && decide (l.getD q 0 < (n : Int))) = true) → rgB n l = true) := fun h => all_true h
  have HN : Hid (∀ q, q < l.length → (decide (0 ≤ l.getD q 0) && decide (l.getD q 0 < (n : Int))) = false → rgB n l = false) := fun q hq h => all_false (f := fun x => decide (0 ≤ x) && decide (x < (n : Int))) hq h
  clear hc3 h hnn
  generalize rgB n l = r at *
  generalize hm : l.length = m at *
  clear hm
  go_enter Tryd.func65, Tryd.ntmps65
  go_wp2_with fail
  go_loopw [5] (fun i wr => ∃ k : Nat, k ≤ m ∧ i = .int .i64 (k : Int) ∧ (∀ q, q < k → (decide (0 ≤ l.getD q 0) && decide (l.getD q 0 < (n : Int))) = true) ∧ Below w.heap.size w wr) (fun i _ => m - (intOf i).toNat)
  case atStart => exact ⟨0, Nat.zero_le _, rfl, fun q hq => absurd hq (by omega), Below.refl _ _⟩
  case round =>
    obtain ⟨k, hk, rfl, hall, hbel⟩ := hrel
    have HA := hidD hall
    have HBR := hidD hbel
    by_cases hlt : k < m
    · have hlti : (k : Int) < (m : Int) := by omega
      obtain ⟨gl, ol, rfl, hgl, f0⟩ := HC.out k hlt
      have HNK := hidD (HN.out k hlt)
      have HST : Hid ((decide (0 ≤ l.getD k 0) && decide (l.getD k 0 < (n : Int))) = true → ∀ q, q < k + 1 → (decide (0 ≤ l.getD q 0) && decide (l.getD q 0 < (n : Int))) = true) := fun h q hq => by
        by_cases e : q = k
        · rw [e]; exact h
        · exact HA.out q (by omega)
      generalize l.getD k 0 = z at *
      have i0 : ∀ i : BW wr, i.v.cell? ⟨gl, ol + k, none⟩ = some (.int .i64 z) := fun i => (i.cell (Nat.lt_of_lt_of_le hgl hbel.size)).trans ((hbel.cell (p := ⟨gl, ol + k, none⟩) hgl).trans f0)
      have q27 := hidD (fun (i : BW wr) => HSY.out i.v (Below.next HBR.out i.below))
      clear hall hbel f0
      by_cases h1 : z < 0
      · have h1d : decide (z < 0) = true := decide_eq_true h1
        have HR := hidD (HNK.out (by rw [decide_eq_false (by omega)]; rfl))
        go_wp2_with fail
        refine wp_region_below (by kernel_rfl) (by kernel_rfl) ?_
        repeat (go_big_quiet_step ((go_at_call 27; exact Calls.below_of (q27.out _))))
        refine wpQuiet_nil ?_
        intro i
        have HBI := hidD (Below.next HBR.out i.below)
        clear i0 q27
        generalize i.v = w2 at *
        go_wp2_with fail
        go_ret
        exact ⟨ret_bool HR.out.symm, HBI.out⟩
      · have h1d : decide (z < 0) = false := decide_eq_false h1
        by_cases h2 : (n : Int) ≤ z
        · have h2d : decide ((n : Int) ≤ z) = true := decide_eq_true h2
          have HR := hidD (HNK.out (by rw [decide_eq_false (p := z < (n : Int)) (by omega), Bool.and_false]))
          go_wp2_with fail
          refine wp_region_below (by kernel_rfl) (by kernel_rfl) ?_
          repeat (go_big_quiet_step ((go_at_call 27; exact Calls.below_of (q27.out _))))
          refine wpQuiet_nil ?_
          intro i
          have HBI := hidD (Below.next HBR.out i.below)
          clear i0 q27
          generalize i.v = w2 at *
          go_wp2_with fail
          go_ret
          exact ⟨ret_bool HR.out.symm, HBI.out⟩
        · have h2d : decide ((n : Int) ≤ z) = false := decide_eq_false h2
          have HNX := hidD (HST.out (by rw [decide_eq_true (by omega), decide_eq_true (by omega)]; rfl))
          go_wp2_with fail
          refine wp_region_below (by kernel_rfl) (by kernel_rfl) ?_
          repeat (go_big_quiet_step ((go_at_call 27; exact Calls.below_of (q27.out _))))
          refine wpQuiet_nil ?_
          intro i
          have HBI := hidD (Below.next HBR.out i.below)
          clear i0 q27
          generalize i.v = w2 at *
          go_wp2_with fail
          go_roundw
          case rel => exact ⟨k + 1, by omega, by go_num, HNX.out, HBI.out⟩
          case measure => simp [intOf]; omega
    · obtain rfl : k = m := by omega
      have HR := hidD (HY.out HA.out)
      clear hall hbel
      go_wp2_with fail
      go_ret
      exact ⟨ret_bool HR.out.symm, HBR.out⟩
set_option maxRecDepth 100000 in
set_option maxHeartbeats 1600000 in
theorem refNullable_any (h : RgW w p a0 k0 a1 k1 gr og cr T O R s) (n : Nat) (hnn : (allN T O).length = n) (hn : n ≤ 128) (hR : RuOk R n) (hrl : R.length ≤ 128) (nul : Nat) (hgi : GrIs R 0 nul) (l : List Int) (hll : l.length ≤ 9223372036854775806) (v : Value) (hv : IlAt w v l) : Calls Tryd.prog 19 #[.pointer (some ⟨p, 0, none⟩), v] w fun e w' => e = .returned (.bool (rgB n l && l.all fun x => nul.testBit x.toNat)) ∧ Below w.heap.size w w' := by
  have HRI := hidD (refRight_any h n hnn hn l hll v hv)
  have HNU : Hid (∀ w', Below w.heap.size w w' → Calls Tryd.prog 67 #[.pointer (some ⟨p, 0, none⟩)] w' fun e w'' => ∃ g, e = .returned (.slice (some ⟨g, 0, none⟩) n n) ∧ CsAt w'' g (mkC n nul) 3 ∧ Below w'.heap.size w' w'') := fun w' hb => (refNulls_any (h.next hb) n hnn hn hR hrl).mono fun e w'' ⟨g, M, h1, h2, h3, _, h5⟩ => by
    have := gr_one h3 hgi
    subst this
    exact ⟨g, h1, h2, h5⟩
  have HAL := hidD (fun (hr : rgB n l = true) (w' : World) (hb : Below w.heap.size w w') g (hc : CsAt w' g (mkC n nul) 3) => refAll_big n nul g (by omega) l hll (rg_sym hr) v w' hc (hv.next hb))
  obtain ⟨a, cap, rfl, _⟩ := hv
  clear h hR hnn hgi
  generalize (l.all fun x => nul.testBit x.toNat) = al at *
  generalize l.length = m at *
  cases hr : rgB n l with
  | false =>
    rw [hr] at HRI
    clear hr HAL
    go_enter Tryd.func19, Tryd.ntmps19
    go_wp2_with (go_at_call 65; refine HRI.out.mono ?_; rintro e w1 ⟨rfl, hb1⟩; have HB1 := hidD hb1; clear hb1)
    all_goals first | exact (un_bool6 (by assumption)).elim | skip
    go_ret
    exact ⟨rfl, HB1.out⟩
  | true =>
    rw [hr] at HRI
    have HAL2 := hidD (HAL.out hr)
    clear hr HAL
    go_enter Tryd.func19, Tryd.ntmps19
    go_wp2_with first
      | (go_at_call 66; refine (HAL2.out _ HB2.out _ HCN.out).mono ?_; rintro e w3 ⟨rfl, hw3⟩; subst w3)
      | (go_at_call 67; refine (HNU.out _ HB1.out).mono ?_; rintro e w2 ⟨gn, rfl, hcn, hb2⟩; have HCN := hidD hcn; have HB2 := hidD (Below.next HB1.out hb2); clear hcn hb2)
      | (go_at_call 65; refine HRI.out.mono ?_; rintro e w1 ⟨rfl, hb1⟩; have HB1 := hidD hb1; clear hb1)
    all_goals first | exact (un_bool6 (by assumption)).elim | skip
    go_ret
    exact ⟨by cases al <;> rfl, HB2.out⟩
set_option maxRecDepth 100000 in
set_option maxHeartbeats 1600000 in
theorem refFirst_any (h : RgW w p a0 k0 a1 k1 gr og cr T O R s) (n : Nat) (hnn : (allN T O).length = n) (hn : n ≤ 128) (hR : RuOk R n) (hrl : R.length ≤ 128) (nul : Nat) (hgi : GrIs R 0 nul) (l : List Int) (hll : l.length ≤ 9223372036854775806) (v : Value) (hv : IlAt w v l) : Calls Tryd.prog 22 #[.pointer (some ⟨p, 0, none⟩), v] w fun e w' => (rgB n l = false → e = .returned (.slice none 0 0)) ∧ (rgB n l = true → ∃ S u, e = .returned u ∧ SpIs R n nul (T.length + 1) S ∧ (∀ x, x < n → S x < 2 ^ n) ∧ IlAt w' u (liTo (fiS (gsN n nul S) l) n)) ∧ Below w.heap.size w w' := by
  have HRI := hidD (refRight_any h n hnn hn l hll v hv)
  have HNU : Hid (∀ w', Below w.heap.size w w' → Calls Tryd.prog 67 #[.pointer (some ⟨p, 0, none⟩)] w' fun e w'' => ∃ g, e = .returned (.slice (some ⟨g, 0, none⟩) n n) ∧ CsAt w'' g (mkC n nul) 3 ∧ w'.heap.size ≤ g ∧ Below w'.heap.size w' w'') := fun w' hb => (refNulls_any (h.next hb) n hnn hn hR hrl).mono fun e w'' ⟨g, M, h1, h2, h3, h4, h5⟩ => by
    have := gr_one h3 hgi
    subst this
    exact ⟨g, h1, h2, h4, h5⟩
  have HFI : Hid (∀ w', Below w.heap.size w w' → Calls Tryd.prog 71 #[.pointer (some ⟨p, 0, none⟩)] w' fun e w'' => ∃ gM gx S, e = .returned (.slice (some ⟨gM, 0, none⟩) n n) ∧ MaAt w'' gM n gx S ∧ SpIs R n nul (T.length + 1) S ∧ w'.heap.size ≤ gM ∧ (∀ x, x < n → w'.heap.size ≤ gx x) ∧ (∀ x, x < n → S x < 2 ^ n) ∧ Below w'.heap.size w' w'') := fun w' hb => (refFirsts_any (h.next hb) n hnn hn hR hrl).mono fun e w'' ⟨gM, gx, M, S, h1, h2, h3, h4, h5, h6, h7, h8⟩ => by
    have := gr_one h3 hgi
    subst this
    exact ⟨gM, gx, S, h1, h2, h4, h5, h6, h7, h8⟩
  have HSY := hidD (fun w' (hb : Below w.heap.size w w') => refSymbols_any (h.next hb) (by rw [allN_len] at hnn; omega))
  rw [hnn] at HSY
  have hmk := make_marks n (by omega)
  have HV := hidD hv
  have HSYM : Hid (rgB n l = true → SymL n l) := fun h => rg_sym h
  obtain ⟨a, cap, rfl, _⟩ := hv
  clear h hR hnn hgi
  generalize hm : l.length = m at *
  have HM := hidD hm
  clear hm
  cases hr : rgB n l with
  | false =>
    rw [hr] at HRI
    clear hr
    go_enter Tryd.func22, Tryd.ntmps22
    go_wp2_with (go_at_call 65; refine HRI.out.mono ?_; rintro e w1 ⟨rfl, hb1⟩; have HB1 := hidD hb1; clear hb1)
    refine bodyPost_ret (v := .slice none 0 0) (by simp [results, Tryd.results22, go_sem]) rfl ?_
    exact ⟨fun _ => rfl, fun h => (by cases h), HB1.out⟩
  | true =>
    rw [hr] at HRI
    have HSL := hidD (HSYM.out hr)
    clear hr
    go_enter Tryd.func22, Tryd.ntmps22
    go_upto_region 4 with first
      | (go_at_call 27; refine (HSY.out _ HB1.out).mono ?_; rintro e w2 ⟨rfl, hb2⟩; have HB2 := hidD (Below.next HB1.out hb2); clear hb2)
      | (go_at_call 65; refine HRI.out.mono ?_; rintro e w1 ⟨rfl, hb1⟩; have HB1 := hidD hb1; clear hb1)
    have HC0 : Hid (CsAt (w2.alloc (.cells (mkC n 0) (3 : TypeId))) w2.heap.size (mkC n 0) 3) := cs_alloc
    have HB0 : Hid (Below w2.heap.size w2 (w2.alloc (.cells (mkC n 0) (3 : TypeId)))) := (Below.refl _ _).alloc (Nat.le_refl _) _
    have HB3 := hidD (Below.next HB2.out HB0.out)
    clear hmk HB0
    generalize hwa : w2.alloc (.cells (mkC n 0) (3 : TypeId)) = w3 at *
    clear hwa
    obtain ⟨gt, hg⟩ : ∃ g, g = w2.heap.size := ⟨_, rfl⟩
    rw [← hg] at HC0 ⊢
    have HGT : Hid (w.heap.size ≤ gt) := by show _ ≤ _; rw [hg]; exact HB2.out.size
    have HGT3 : Hid (gt < w3.heap.size) := HC0.out.lt
    clear hg HRI HSY
    go_wp2_with first
      | (go_at_call 72; refine HMRK.out.mono ?_; rintro e w7 ⟨u, rfl, ho7, hb7⟩; obtain ⟨a7, c7, h7⟩ := row_shape ho7; subst h7; have HI7 := hidD (il_of_own ho7); have HB7 := hidD (Below.next HB6.out hb7); clear ho7 hb7)
      | (go_at_call 70; refine (refBegins_big n nul 0 gM gn gt gx S hn HSB.out l (by rw [HM.out]; exact hll) HSL.out (.slice a m cap) w5 HM5.out.m HNE1.out HM5.out.r (fun x hx e => absurd e (HNE2.out x hx)) HC5.out HNE3.out HT5.out (fun w' hb => HV.out.next (HB5.out.trans (hb.bel.mono HGT.out)))).mono ?_; rintro e w6 ⟨rfl, hc6, hb6⟩; have HC6 := hidD hc6; have HB6 := hidD (HB5.out.trans (hb6.bel.mono HGT.out)); have HMRK := hidD (refMarked_any n _ gt (by omega) w6 hc6); rw [Nat.zero_or] at HMRK; clear hc6 hb6)
      | (go_at_call 67; refine (HNU.out _ HB4.out).mono ?_; rintro e w5 ⟨gn, rfl, hcn, hgn, hb5⟩; have HC5 := hidD hcn; have HM5 := hidD (HM4.out.next hb5); have HT5 := hidD (HT4.out.next hb5); have HNE3 : Hid (gn ≠ gt) := (by have := HT4.out.lt; show _ ≠ _; omega); have HB5 := hidD (Below.next HB4.out hb5); clear hcn hgn hb5)
      | (go_at_call 71; refine (HFI.out _ HB3.out).mono ?_; rintro e w4 ⟨gM, gx, S, rfl, hma, hsp, hgm, hgx, hsb, hb4⟩; have HM4 := hidD hma; have HSP := hidD hsp; have HNE1 : Hid (gM ≠ gt) := (by have := HGT3.out; show _ ≠ _; omega); have HNE2 : Hid (∀ x, x < n → gx x ≠ gt) := (fun x hx => by have := hgx x hx; have := HGT3.out; omega); have HSB := hidD hsb; have HT4 := hidD (HC0.out.next hb4); have HB4 := hidD (Below.next HB3.out hb4); clear hma hsp hgm hgx hsb hb4)
    refine bodyPost_ret (v := .slice a7 (liTo (fiS (gsN n nul S) l) n).length c7) (by simp [results, Tryd.results22, go_sem]) rfl ?_
    exact ⟨fun h => (by cases h), fun _ => ⟨S, _, rfl, HSP.out, HSB.out, HI7.out⟩, HB7.out⟩
end
end Go.Proofs.YtgmbkelmgolkpaaDoor
