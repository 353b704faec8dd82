/- What innerSymbols answers. -/
import Derived.Test.YtgmbkelmgolkpabDoorRqa
namespace Go.Proofs.YtgmbkelmgolkpabDoor
open Go.RowKit Go.Maps
set_option linter.unusedVariables false

/-- The nonterminals among symbols. -/
def inS (T : Nat) (r : List Int) : List Int := r.filter fun s => decide ((T : Int) ≤ s)
theorem in_next {T : Nat} {r : List Int} {q : Nat} (hq : q < r.length) : inS T (r.take (q + 1)) = if (T : Int) ≤ r.getD q 0 then inS T (r.take q) ++ [r.getD q 0] else inS T (r.take q) := by
  unfold inS
  rw [List.take_succ_eq_append_getElem hq, List.filter_append, show r[q] = r.getD q 0 by rw [List.getD_eq_getElem?_getD, List.getElem?_eq_getElem hq]; rfl]
  generalize r.getD q 0 = s
  by_cases h : (T : Int) ≤ s
  · rw [if_pos h]; simp [h]
  · rw [if_neg h]; simp [h]
theorem in_len (T : Nat) (r : List Int) (q : Nat) : (inS T (r.take q)).length ≤ q := Nat.le_trans (List.length_filter_le _ _) (by rw [List.length_take]; omega)
def llTo (T : Nat) (R : List (Nat × List Int)) : Nat → List (List Int)
  | 0 => List.replicate R.length []
  | k + 1 => (llTo T R k).set k (inS T (R.getD k (0, [])).2)
theorem ll_len (T : Nat) (R : List (Nat × List Int)) : ∀ k, (llTo T R k).length = R.length
  | 0 => List.length_replicate
  | k + 1 => by rw [llTo, List.length_set]; exact ll_len T R k
theorem ll_get (T : Nat) (R : List (Nat × List Int)) (j : Nat) (hj : j < R.length) : ∀ k, (llTo T R k).getD j [] = if j < k then inS T (R.getD j (0, [])).2 else []
  | 0 => by
    rw [if_neg (by omega), llTo, List.getD_eq_getElem?_getD, List.getElem?_replicate, if_pos hj]; rfl
  | k + 1 => by
    have ih := ll_get T R j hj k
    have hl := ll_len T R k
    rw [llTo, List.getD_eq_getElem?_getD, List.getElem?_set]
    by_cases h : k = j
    · subst h
      rw [if_pos rfl, if_pos (by omega), if_pos (by omega)]; rfl
    · rw [if_neg h, ← List.getD_eq_getElem?_getD, ih]
      by_cases h2 : j < k
      · rw [if_pos h2, if_pos (by omega)]
      · rw [if_neg h2, if_neg (by omega)]
theorem IvAt.set {w : World} {B : Nat} {vs : List Value} {L : List (List Int)} {u : Value} {c : List Int} (h : IvAt w B vs L) (h2 : IrAt w B u c) {k : Nat} (hk : k < L.length) : IvAt w B (vs.set k u) (L.set k c) := by
  refine ⟨by rw [List.length_set, List.length_set, h.1], fun j hj => ?_⟩
  rw [List.length_set] at hj
  by_cases e : k = j
  · subst e
    exact ⟨u, by rw [List.getElem?_set, if_pos rfl, if_pos (by rw [h.1]; exact hk)], by rw [List.getD_eq_getElem?_getD, List.getElem?_set, if_pos rfl, if_pos hk]; exact h2⟩
  · obtain ⟨u', e1, e2⟩ := h.2 j hj
    exact ⟨u', by rw [List.getElem?_set, if_neg e]; exact e1, by rw [List.getD_eq_getElem?_getD, List.getElem?_set, if_neg e, ← List.getD_eq_getElem?_getD]; exact e2⟩
theorem IrAt.nil (w : World) (B : Nat) : IrAt w B (.slice none 0 0) [] := ⟨none, 0, rfl, Nat.le_refl _, ⟨by omega, fun _ => rfl⟩, fun k hk => absurd hk (by simp)⟩
theorem iv_nils (w : World) (B n : Nat) : IvAt w B (List.replicate n (.slice none 0 0)) (List.replicate n []) := ⟨by rw [List.length_replicate, List.length_replicate], fun k hk => by
  rw [List.length_replicate] at hk
  exact ⟨.slice none 0 0, by rw [List.getElem?_replicate, if_pos hk], by rw [List.getD_eq_getElem?_getD, List.getElem?_replicate, if_pos hk]; exact IrAt.nil w B⟩⟩
theorem CsAt.stay {w w' : World} {g : Nat} {cs : Array Value} {t e' : TypeId} (h : CsAt w g cs t) (hk : Kept e' w w') (hne : t ≠ e') : CsAt w' g cs t := (hk g h.lt fun cs' e => by rw [show w.heap[g]? = _ from h] at e; cases e; exact hne rfl).trans h
theorem cs_of_full {w : World} {base e g n : Nat} {xs : List Value} (h : w.ownsRow base e 1 (.slice (some ⟨g, 0, none⟩) n n) n xs) : CsAt w g xs.toArray e := by
  rcases h.2 with ⟨h1, _⟩ | ⟨g', cap, cur, hv, hb, hg, hnc, hcm, hcs, htk⟩
  · cases h1
  · cases hv
    have : cur = xs.toArray := by
      apply Array.toList_inj.1
      rw [← htk, List.take_of_length_le (by rw [Array.length_toList]; omega)]
    rw [← this]; exact hg
theorem full_of_cs {w : World} {base e g : Nat} {xs : List Value} {n : Nat} (h : CsAt w g xs.toArray e) (hb : base ≤ g) (hn : xs.length = n) (hm : n ≤ maxLen) : w.ownsRow base e 1 (.slice (some ⟨g, 0, none⟩) n n) n xs :=
  ⟨by omega, .inr ⟨g, n, xs.toArray, rfl, hb, h, Nat.le_refl _, hm, by rw [List.size_toArray]; omega, by rw [List.take_of_length_le (by show xs.length ≤ _; omega)]⟩⟩
theorem kept_of_cs {w w' : World} {g : Nat} {cs : Array Value} {t : TypeId} (hc : CsAt w g cs t) (hb : But g w w') : Kept t w w' := fun b hl hne => hb.rest b hl fun e => by
  subst e
  exact hne cs hc
set_option maxRecDepth 100000 in
set_option maxHeartbeats 3200000 in
theorem inner_any {p : Nat} (R : List (Nat × List Int)) (n : Nat) (hR : RuOk R n) (hRl : R.length ≤ 1048576) (T : Nat) (hTb : T ≤ 128) (vr : Value) (w : World) (hp : p < w.heap.size) (hpt : w.cell? ⟨p, 2, none⟩ = some (.int .i64 (T : Int))) (hpc : w.cell? ⟨p, 4, none⟩ = some vr) (hr : RuAt w vr R) : Calls Tryd.prog 56 #[.pointer (some ⟨p, 0, none⟩)] w fun e w' => ∃ g vs, e = .returned (.slice (some ⟨g, 0, none⟩) R.length R.length) ∧ CsAt w' g vs.toArray 27 ∧ IvAt w' w'.heap.size vs (llTo T R R.length) ∧ w.heap.size ≤ g ∧ Below w.heap.size w w' := by
  obtain ⟨ar, cr, rfl, hrc⟩ := hr
  have HRC := hidD hrc
  have HRO := hidD hR
  have HPT := hidD hpt
  have HPC := hidD hpc
  have HGP := hidD hp
  have HLL := hidD (ll_len T R)
  have HLN : Hid (∀ k, llTo T R (k + 1) = (llTo T R k).set k (inS T (R.getD k (0, [])).2)) := fun _ => rfl
  have HL0 : Hid (llTo T R 0 = List.replicate R.length []) := rfl
  have HIN := hidD (fun (r : List Int) q (hq : q < r.length) => in_next (T := T) hq)
  have HIL := hidD (fun r q => in_len T r q)
  have HI0 : Hid (∀ r : List Int, inS T (r.take 0) = []) := fun r => by show inS T (r.take 0) = []; rw [List.take_zero]; rfl
  obtain ⟨i27, hi27, hz270, hz271, hz272⟩ := info_parts Tryd.info27
  obtain ⟨hz76, hsz76⟩ := zero_of_info Tryd.zero76
  have HAL : Hid (∀ (w' : World) o, Below w'.heap.size w' (w'.alloc o)) := fun w' o => (Below.refl _ _).alloc (Nat.le_refl _) o
  clear hrc hR hpt
  generalize hRn : R.length = rn at *
  have HRN := hidD hRn
  clear hRn
  go_enter Tryd.func56, Tryd.ntmps56
  go_wp2_with (refine wpList_make_full w rfl _ _ 104 rfl w.heap.size 27 i27 _ 1 Tryd.under104 hi27 hz270 hz271 .i64 .i64 (rn : Int) (rn : Int) rn rfl rfl rfl rfl (by rw [hz272]; omega) (by unfold maxLen; omega) (Nat.le_refl _) ?_; intro w1 ho1 hg1; have HC1 := hidD (cs_of_full ho1); have HB1 := hidD (below_none hg1); have g4 : w1.cell? ⟨p, 4, none⟩ = some (.slice ar rn cr) := (HB1.out.cell (p := ⟨p, 4, none⟩) HGP.out).trans HPC.out; clear ho1 hg1)
  rw [show (madeCells (Value.slice none 0 0).cells (rn * 1)).toList = List.replicate rn (.slice none 0 0) by rw [Nat.mul_one]; exact toList_madeCells_one _ _] at HC1
  clear g4
  generalize hgi : w.heap.size = gi at *
  have HGI := hidD hgi
  clear hgi
  go_loopw [19] (fun i wr => ∃ (k : Nat) (vs : List Value), k ≤ rn ∧ i = .int .i64 k ∧ CsAt wr gi vs.toArray 27 ∧ IvAt wr wr.heap.size vs (llTo T R k) ∧ (∀ j, k ≤ j → j < rn → vs[j]? = some (.slice none 0 0)) ∧ Below gi w wr) (fun i _ => rn - (intOf i).toNat)
  case atStart => exact ⟨0, _, Nat.zero_le _, rfl, HC1.out, by rw [HL0.out]; exact iv_nils _ _ _, fun j _ hj => by rw [List.getElem?_replicate, if_pos hj], HB1.out⟩
  case round =>
    obtain ⟨k, vs, hk, rfl, hcs, hiv, hnil, hbel⟩ := hrel
    have HCS := hidD hcs
    have HIV := hidD hiv
    have HNI := hidD hnil
    have HBW := hidD hbel
    by_cases hlt : k < rn
    · have hlti : (k : Int) < rn := by omega
      obtain ⟨gr, orr, rv, har, hgr, hc1, hc2, hil⟩ := HRC.out k hlt
      obtain ⟨hleft, hrl, hrs⟩ := HRO.out k (by rw [HRN.out]; exact hlt)
      subst har
      have f0 : wr.cell? ⟨gr, orr + k * 2, none⟩ = some (.int .i64 ((R.getD k (0, [])).1 : Int)) := (hbel.cell (p := ⟨gr, orr + k * 2, none⟩) hgr).trans hc1
      have f1 : wr.cell? ⟨gr, orr + k * 2 + 1, none⟩ = some rv := (hbel.cell (p := ⟨gr, orr + k * 2 + 1, none⟩) hgr).trans hc2
      obtain ⟨a2, c2, hrv, hrc1, hrc2, hrcell⟩ := hil
      subst hrv
      have HRCL := hidD hrcell
      have HNK := hidD (HLN.out k)
      have HVL : Hid (vs.length = rn) := by show _ = _; rw [hiv.1, HLL.out]; try exact HRN.out
      obtain ⟨wp, hwp⟩ : ∃ wp, wp = wr := ⟨_, rfl⟩
      subst hwp
      generalize hLF : (R.getD k (0, [])).1 = LF at *
      generalize hRR : (R.getD k (0, [])).2 = RR at *
      clear hLF hRR hcs hiv hnil hbel hc1 hc2 hrcell hrs
      generalize hmm : RR.length = m at *
      have HMM := hidD hmm
      clear hmm
      go_wp2_with fail
      have HB5 : Hid (Below wp.heap.size wp (wp.alloc (.cells #[.int .i64 (LF : Int), .slice a2 m c2] (76 : TypeId)))) := (Below.refl _ _).alloc (Nat.le_refl _) _
      have HC5 := hidD (HCS.out.next HB5.out)
      have HI5 := hidD (HIV.out.next HB5.out)
      have HBW5 : Hid (Below gi w (wp.alloc (.cells #[.int .i64 (LF : Int), .slice a2 m c2] (76 : TypeId)))) := HBW.out.trans (HB5.out.mono (by have := HBW.out.size; have := HGI.out; omega))
      generalize hw5 : (wp.alloc (.cells #[.int .i64 (LF : Int), .slice a2 m c2] (76 : TypeId))) = w5 at *
      clear hw5 f0 f1
      have HSET : Hid (vs.set k (.slice none 0 0) = vs) := by
        show _ = _
        apply List.ext_getElem?
        intro j
        rw [List.getElem?_set]
        by_cases e : k = j
        · subst e; rw [if_pos rfl, if_pos (by rw [HVL.out]; exact hlt), HNI.out k (Nat.le_refl _) hlt]
        · rw [if_neg e]
      have HBKL : Hid (wp.heap.size ≤ w5.heap.size) := HB5.out.size
      have HGB : Hid (gi ≤ wp.heap.size) := Nat.le_of_lt HCS.out.lt
      generalize hbk : wp.heap.size = Bk at *
      clear hbk
      have HTM : Hid (inS T (RR.take m) = inS T RR) := by show _ = _; rw [← HMM.out, List.take_length]
      go_loopw [27] (fun i wr => ∃ (q : Nat) (u : Value), q ≤ m ∧ i = .int .i64 q ∧ CsAt wr gi (vs.set k u).toArray 27 ∧ wr.ownsRow Bk 3 1 u (inS T (RR.take q)).length ((inS T (RR.take q)).map encI) ∧ IvAt wr Bk vs (llTo T R k) ∧ Bk ≤ wr.heap.size ∧ Below gi w wr) (fun i _ => m - (intOf i).toNat)
      case atStart => exact ⟨0, .slice none 0 0, Nat.zero_le _, rfl, by rw [HSET.out]; exact HC5.out, by rw [HI0.out]; exact World.ownsRow_nil _ _ _ _, HI5.out, HBKL.out, HBW5.out⟩
      case round =>
        obtain ⟨q, u, hq, rfl, hcs, hown, hiv, hbk, hbel⟩ := hrel
        have HQC := hidD hcs
        have HQO := hidD hown
        have HQI := hidD hiv
        have HQB := hidD hbk
        have HQW := hidD hbel
        have HILQ := hidD (HIL.out RR q)
        obtain ⟨a9, c9, h9⟩ := row_shape hown
        subst h9
        by_cases hqt : q < m
        · have hqti : (q : Int) < m := by omega
          obtain ⟨gs, os, rfl, hgs, hcs2⟩ := HRCL.out q hqt
          rw [HGI.out] at hgs
          have f4 : wr.cell? ⟨gs, os + q, none⟩ = some (.int .i64 (RR.getD q 0)) := (hbel.cell (p := ⟨gs, os + q, none⟩) hgs).trans hcs2
          have f5 : wr.cell? ⟨p, 2, none⟩ = some (.int .i64 (T : Int)) := (hbel.cell (p := ⟨p, 2, none⟩) HGP.out).trans HPT.out
          have HINQ := hidD (HIN.out RR q (by rw [HMM.out]; exact hqt))
          have f6 : wr.cell? ⟨gi, k, none⟩ = some (.slice a9 (inS T (RR.take q)).length c9) := (hcs.cell k).trans (by rw [List.getElem?_toArray, List.getElem?_set, if_pos rfl, if_pos (by rw [HVL.out]; exact hlt)])
          clear hcs hown hiv hbk hbel hcs2
          generalize RR.getD q 0 = sq at *
          generalize hIQ : inS T (RR.take q) = IQ at *
          clear hIQ
          generalize hiq : IQ.length = iq at *
          have HIQN := hidD hiq
          have hiqb : iq ≤ 1048576 := by have := HILQ.out; omega
          clear hiq
          by_cases hT : (T : Int) ≤ sq
          · rw [if_pos hT] at HINQ
            have HC6 := hidD (fun o => HQC.out.next (HAL.out wr o))
            have HIA := hidD (fun o => HQI.out.next (HAL.out wr o))
            have HWA : Hid (∀ o, Below gi w (wr.alloc o)) := fun o => HQW.out.trans ((HAL.out wr o).mono (by have := HQB.out; have := HGB.out; omega))
            have HVK : Hid ((vs.set k (.slice a9 iq c9)).toArray[k]? = some (.slice a9 iq c9)) := by show _ = _; rw [List.getElem?_toArray, List.getElem?_set, if_pos rfl, if_pos (by rw [HVL.out]; exact hlt)]
            have HSS : Hid (∀ u v : Value, (vs.set k u).toArray.setIfInBounds k v = (vs.set k v).toArray) := fun u v => by rw [List.setIfInBounds_toArray, List.set_set]
            go_wp2_with (at_builtin; refine wpList_append_one Tryd.info3 rfl (by decide) Tryd.underlying27' rfl _ _ rfl Bk (.slice a9 iq c9) iq (IQ.map encI) rfl (HQO.out.alloc _) wr.heap.size (.int .i64 sq) rfl (new_cell1 wr (.int .i64 sq) 3 0 _ rfl) rfl (by omega) (by have := HQB.out; simp; omega) ?_; intro v8 w8 h81 h82 h83; obtain ⟨a8, c8, h8⟩ := row_shape h81; subst h8; have HX1 := hidD h81; have HX2 := hidD ((HWA.out _).trans (h82.mono HGB.out)); have HX3 := hidD ((HC6.out _).stay h83 (by decide)); have HX4 := hidD ((HIA.out _).below h82 (Nat.le_refl _)); have HX5 : Hid (Bk ≤ w8.heap.size) := Nat.le_trans HQB.out (Nat.le_trans (HAL.out _ _).size h82.size); have z1 : w8.cell? ⟨gi, k, none⟩ = some (.slice a9 iq c9) := (HX3.out.cell k).trans HVK.out; have z2 := HX3.out.frz k; clear h81 h82 h83)
            go_roundw
            case rel =>
              have hq9 : But gi w8 (w8.setCell ⟨gi, k, none⟩ (.slice a8 (iq + 1) c8)) := (But.refl _ _).put k _
              have hk9 := kept_of_cs HX3.out hq9
              refine ⟨q + 1, .slice a8 (iq + 1) c8, by omega, by go_num, ?_, ?_, HX4.out.stay hk9 (by decide), Nat.le_trans HX5.out hq9.bel.size, HX2.out.trans hq9.bel⟩
              · have := HX3.out.put k (.slice a8 (iq + 1) c8)
                rw [HSS.out] at this
                exact this
              · rw [HINQ.out, List.length_append, List.length_singleton, HIQN.out, List.map_append]
                exact Kept.row HX1.out hk9 (by decide)
            case measure => simp [intOf]; omega
          · rw [if_neg hT] at HINQ
            go_wp2
            go_roundw
            case rel => exact ⟨q + 1, _, by omega, by go_num, HQC.out, by rw [HINQ.out, HIQN.out]; exact HQO.out, HQI.out, HQB.out, HQW.out⟩
            case measure => simp [intOf]; omega
        · obtain rfl : m = q := by omega
          clear hcs hown hiv hbk hbel
          go_wp2
          go_roundw
          case rel =>
            refine ⟨k + 1, vs.set k (.slice a9 (inS T (RR.take m)).length c9), by omega, by go_num, HQC.out, ?_, fun j h1 h2 => ?_, HQW.out⟩
            · have hi := ir_of_own (ss := inS T (RR.take m)) HQO.out rfl
              rw [HNK.out, ← HTM.out]
              exact (HQI.out.mono HQB.out).set hi (by have h := HLL.out k; omega)
            · rw [List.getElem?_set, if_neg (by omega)]
              exact HNI.out j (by omega) h2
          case measure => simp [intOf]; omega
    · obtain rfl : rn = k := by omega
      clear hcs hiv hnil hbel
      go_wp2
      go_ret
      exact ⟨gi, vs, rfl, HCS.out, HIV.out, by rw [HGI.out]; exact Nat.le_refl _, by rw [HGI.out]; exact HBW.out⟩
end Go.Proofs.YtgmbkelmgolkpabDoor
