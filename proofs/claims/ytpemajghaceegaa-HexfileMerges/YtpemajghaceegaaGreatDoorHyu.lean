/- HexfileMerges: the law's walk. -/
import Derived.Test.YtpemajghaceegaaGreatDoorHyt
namespace Go.Proofs.YtpemajghaceegaaGreatDoor
open Go.RowKit
set_option linter.unusedVariables false

theorem pb_of_own {B : Nat} {w : World} {l : Value} {T : List Sgb} (h : OwnAt B w l T) : PbAt w l (T.map pbT) := by
  rcases Nat.eq_zero_or_pos T.length with h0 | h0
  · obtain ⟨a, cap, rfl⟩ := row_shape h.1
    exact ⟨a, cap, by rw [List.length_map], fun k hk => by rw [List.length_map] at hk; omega⟩
  · obtain ⟨g, cap, cur, rfl, hb, hg, h1, h2, h3⟩ := row_cells h.1 h0
    refine ⟨_, cap, by rw [List.length_map], fun k hk => ?_⟩
    rw [List.length_map] at hk
    have hrow := h.2 T[k] (List.getElem_mem hk)
    have hfl : T = T.take k ++ [T[k]] ++ T.drop (k + 1) := by rw [List.append_assoc, List.singleton_append, List.getElem_cons_drop, List.take_append_drop]
    have hx : (flatB T)[k * 2]? = some (.int .i64 (T[k]).1) ∧ (flatB T)[k * 2 + 1]? = some (T[k]).2.1 := by
      have hl : (T.take k).length = k := by rw [List.length_take]; omega
      have hf := flat_get (T0 := T.take k) (t := T[k])
      rw [hl] at hf
      have hlen : (flatB (T.take k ++ [T[k]])).length = 2 * (k + 1) := by rw [flatB_len, List.length_append, hl]; rfl
      have e1 : flatB T = flatB (T.take k ++ [T[k]]) ++ flatB (T.drop (k + 1)) := by rw [← flatB_app, ← hfl]
      rw [e1, List.getElem?_append_left (by omega), List.getElem?_append_left (by omega)]
      exact hf
    obtain ⟨b, c, hv⟩ := row_shape hrow
    refine ⟨g, 0, b, (T[k]).2.2.length, c, rfl, row_lt hg, ?_, ?_, ?_⟩
    · rw [cell_of_row _ _ _ _ _ _ hg, Nat.zero_add, h3 _ (by omega), hx.1, List.getElem_map]; rfl
    · rw [cell_of_row _ _ _ _ _ _ hg, Nat.zero_add, h3 _ (by omega), hx.2, hv]
    · rw [List.getElem_map, ← hv]; exact by_of_own hrow
/- what both Merges tell -/
noncomputable def mgL (P : List Pb) : List Pb := match mergeP P with | .ok M => M | .error _ => []
noncomputable def mgE (P : List Pb) : Int := match mergeP P with | .ok _ => 0 | .error n => n
theorem mg_both {et : TypeId} {P : List Pb} {e : Ending} {w w' : World} (h : MgIs et (mergeP P) e w w') : ∃ l T, e = .returned (.tuple #[l, .int .i64 (mgE P)]) ∧ T.map pbT = mgL P ∧ SegsAt et w.heap.size w' l T ∧ Below w.heap.size w w' := by
  obtain ⟨hb, h⟩ := h
  unfold mgL mgE
  cases hm : mergeP P with
  | error n =>
    rw [hm] at h
    exact ⟨_, [], h, rfl, ⟨World.ownsRow_nil _ _ _ _, fun t ht => absurd ht (by simp)⟩, hb⟩
  | ok M =>
    rw [hm] at h
    obtain ⟨l, T, he, hT, hS⟩ := h
    exact ⟨l, T, he, hT, hS, hb⟩
theorem mgL_len (P : List Pb) : (mgL P).length ≤ 65536 := by
  unfold mgL
  cases hm : mergeP P with
  | error n => exact Nat.zero_le _
  | ok M => exact (merge_len hm).1
theorem mgL_els (P : List Pb) : ∀ x ∈ mgL P, x.2.length ≤ 65536 := by
  unfold mgL
  cases hm : mergeP P with
  | error n => intro x hx; cases hx
  | ok M => exact (merge_len hm).2
/- rows of bytes that may be written -/
def MutAt (B : Nat) (w : World) (T : List Sgb) : Prop := ∀ t ∈ T, ∃ b cap cur, t.2.1 = .slice (some ⟨b, 0, none⟩) t.2.2.length cap ∧ t.2.2.length ≤ cap ∧ B ≤ b ∧ w.heap[b]? = some (.cells cur (5 : TypeId) (0, 0)) ∧ ∀ j, j < t.2.2.length → ∃ n : Nat, n < 256 ∧ cur[j]? = some (.int .u8 (n : Int))
theorem mut_of_segs {e : TypeId} {B : Nat} {w : World} {l : Value} {T : List Sgb} (h : SegsAt e B w l T) : MutAt B w T := fun t ht => by
  obtain ⟨h1, h2⟩ := h.2 t ht
  obtain ⟨b, cap, cur, hv, hb, hg, h3, h4, h5⟩ := row_cells h1 h2
  refine ⟨b, cap, cur, hv, h3, hb, hg, fun j hj => ?_⟩
  refine ⟨(t.2.2.getD j 0).toNat, (t.2.2.getD j 0).toNat_lt, ?_⟩
  rw [h5 j (by omega), List.getElem?_map, List.getElem?_eq_getElem hj, List.getD_eq_getElem?_getD, List.getElem?_eq_getElem hj]; rfl
theorem MutAt.keep {B : Nat} {w w' : World} {T : List Sgb} (h : MutAt B w T) (hb : Below w.heap.size w w') : MutAt B w' T := fun t ht => by
  obtain ⟨b, cap, cur, h1, h2, h3, h4, h5⟩ := h t ht
  exact ⟨b, cap, cur, h1, h2, h3, (hb.block b (row_lt h4)).trans h4, h5⟩
theorem MutAt.put {B : Nat} {w : World} {T : List Sgb} (h : MutAt B w T) {b k n : Nat} (hn : n < 256) : MutAt B (w.setCell ⟨b, k, none⟩ (.int .u8 (n : Int))) T := fun t ht => by
  obtain ⟨b', cap, cur, h1, h2, h3, h4, h5⟩ := h t ht
  by_cases hbb : b' = b
  · subst hbb
    refine ⟨b', cap, _, h1, h2, h3, heap_setCell_same w b' k _ _ _ h4, fun j hj => ?_⟩
    rw [Array.getElem?_setIfInBounds]
    by_cases hjk : k = j
    · subst hjk
      obtain ⟨m, hm, hc⟩ := h5 k hj
      have hs : k < cur.size := by
        by_cases hh : k < cur.size
        · exact hh
        · rw [Array.getElem?_eq_none (by omega)] at hc; cases hc
      rw [if_pos rfl, if_pos hs]
      exact ⟨n, hn, rfl⟩
    · rw [if_neg hjk]; exact h5 j hj
  · exact ⟨b', cap, cur, h1, h2, h3, (heap_setCell_other w ⟨b, k, none⟩ b' _ hbb).trans h4, h5⟩
theorem list_cell {w : World} {B k : Nat} {e : TypeId} {l : Value} {T : List Sgb} (h : w.ownsRow B e 2 l T.length (flatB T)) (hk : k < T.length) :
    ∃ g cap, l = .slice (some ⟨g, 0, none⟩) T.length cap ∧ g < w.heap.size ∧ (∃ cur, w.heap[g]? = some (.cells cur e (0, 0))) ∧ w.cell? ⟨g, k * 2 + 1, none⟩ = some (T[k]).2.1 := by
  obtain ⟨g, cap, cur, rfl, hb, hg, h1, h2, h3⟩ := row_cells h (by omega)
  refine ⟨g, cap, rfl, row_lt hg, ⟨cur, hg⟩, ?_⟩
  have hfl : T = T.take k ++ [T[k]] ++ T.drop (k + 1) := by rw [List.append_assoc, List.singleton_append, List.getElem_cons_drop, List.take_append_drop]
  have hl : (T.take k).length = k := by rw [List.length_take]; omega
  have hf := (flat_get (T0 := T.take k) (t := T[k])).2
  rw [hl] at hf
  have hlen : (flatB (T.take k ++ [T[k]])).length = 2 * (k + 1) := by rw [flatB_len, List.length_append, hl]; rfl
  have e1 : flatB T = flatB (T.take k ++ [T[k]]) ++ flatB (T.drop (k + 1)) := by rw [← flatB_app, ← hfl]
  rw [cell_of_row _ _ _ _ _ _ hg, h3 _ (by omega), e1, List.getElem?_append_left (by omega)]
  exact hf
theorem cell0_under {w w' : World} {m : Int} (h : w.cell? ⟨0, 0, none⟩ = some (.int .i64 m)) (hb : Below w.heap.size w w') : w'.cell? ⟨0, 0, none⟩ = some (.int .i64 m) := (hb.cell (p := ⟨0, 0, none⟩) (cell0_lt h)).trans h
theorem xor85 : ∀ n < 256, bits BinOp.xor IntKind.u8 ((n : Nat) : Int) 85 = ((n ^^^ 85 : Nat) : Int) ∧ n ^^^ 85 < 256 := by decide +kernel
set_option maxRecDepth 100000 in
set_option maxHeartbeats 12800000 in
theorem merges_any (v u : Value) (P Q : List Pb) (hP : P.length ≤ 4398046510976) (hQ : Q.length ≤ 4398046510976) (hpl : ∀ x ∈ P, x.2.length ≤ 140737488355000) (hql : ∀ x ∈ Q, x.2.length ≤ 140737488355000) (m : Int) (w : World) (hv : PbAt w v P) (hu : PbAt w u Q) (hm : w.cell? ⟨0, 0, none⟩ = some (.int .i64 m)) :
    Calls Tryz.prog 3 #[v, u] w fun e w' => e = .returned (.bool true) ∧ Below w.heap.size w w' := by
  have hpl2 : ∀ x ∈ P, x.2.length ≤ 140737488355328 := fun x hx => Nat.le_trans (hpl x hx) (by omega)
  have hql2 : ∀ x ∈ Q, x.2.length ≤ 140737488355328 := fun x hx => Nat.le_trans (hql x hx) (by omega)
  have HO1 := hidD (own_any v P hP hpl w hv)
  have HO2 := hidD (fun w hu => own_any u Q hQ hql w hu)
  have HME := hidD (fun x w h => (Merge_pb x P hP hpl2 w h).mono fun e w' h => mg_both h)
  have HRM := hidD (fun w h => (refMerge21_any v P hP hpl2 w h).mono fun e w' h => mg_both h)
  have HSA := hidD (fun x y w h h' => Same_any x y P Q hP hQ hpl2 hql2 w h h')
  have HRS := hidD (fun w h h' => refSame_any v u P Q hP hQ hpl2 hql2 w h h')
  have HLP := hidD (fun x w h h' => like_any x v P P hP hP w h h')
  have HLM := hidD (fun x y w h h' => like_any x y (mgL P) (mgL P) (by have := mgL_len P; omega) (by have := mgL_len P; omega) w h h')
  have HAV := hidD (fun w (hm : w.cell? ⟨0, 0, none⟩ = some (.int .i64 m)) => alive_any m w hm)
  have HM := hidD hm
  have HV := hidD hv
  have HU := hidD hu
  obtain ⟨la, lc, rfl⟩ := hv.len
  obtain ⟨la2, lc2, rfl⟩ := hu.len
  have HML := hidD (mgL_len P)
  have HMX := hidD (mgL_els P)
  rw [show decide (P = P) = true from decide_eq_true rfl] at HLP
  rw [show decide (mgL P = mgL P) = true from decide_eq_true rfl] at HLM
  generalize sameP P Q = sp at *
  generalize mgL P = ML at *
  generalize mgE P = me at *
  clear hv hu hm hpl hql hpl2 hql2 hP hQ
  go_enter Tryz.func3, Tryz.ntmps3
  go_wp2_with fail
  go_at_call 9
  refine HO1.out.mono ?_
  rintro e w1 ⟨x, Tx, rfl, hTx, hOx, hb⟩
  have HB1 := hidD hb
  have HX1 : Hid (PbAt w1 x P) := by show PbAt w1 x P; rw [← hTx]; exact pb_of_own hOx
  obtain ⟨xa, xc, rfl⟩ := HX1.out.len
  clear hTx hOx hb HO1
  go_wp2_with fail
  go_at_call 10
  refine (HME.out _ _ HX1.out).mono ?_
  rintro e w2 ⟨l, T, rfl, hT, hS, hb⟩
  have HS2 := hidD hS
  have HT := hidD hT
  have HC2 := hidD hb
  have HB2 := hidD (Below.next HB1.out hb)
  obtain ⟨ga, gc, rfl⟩ := row_shape hS.1
  clear hT hS hb HME
  go_wp2_with fail
  go_at_call 11
  refine (HRM.out _ (HV.out.next HB2.out)).mono ?_
  rintro e w3 ⟨l', T', rfl, hT', hS', hb⟩
  have HR3 : Hid (PbAt w3 l' ML) := by show PbAt w3 l' ML; rw [← hT']; exact pb_of_segs hS'
  have HC3 := hidD (Below.next HC2.out hb)
  have HB3 := hidD (Below.next HB2.out hb)
  have HP3 : Hid (PbAt w3 (.slice ga T.length gc) ML) := by have := (pb_of_segs HS2.out).next hb; rw [HT.out] at this; exact this
  have HS3 : Hid (SegsAt 36 w1.heap.size w3 (.slice ga T.length gc) T) := ⟨row_below HS2.out.1 hb, fun t ht => ⟨row_below (HS2.out.2 t ht).1 hb, (HS2.out.2 t ht).2⟩⟩
  obtain ⟨ra, rc, rfl⟩ := HR3.out.len
  clear hT' hS' hb HRM HS2
  have hme : (me != me) = false := bne_self_eq_false _
  have hsp : (sp != sp) = false := bne_self_eq_false _
  go_wp2_with first
    | (go_at_call 15
       refine (HAV.out _ (cell0_under HM.out HB8.out)).mono ?_
       rintro e w9 ⟨rfl, hb⟩
       have HB9 := hidD (Below.next HB8.out hb)
       have HC9 := hidD (Below.next HC8.out hb)
       have HD9 := hidD (Below.next HD8.out hb)
       clear hb HAV)
    | (go_at_call 12
       have := HB7
       clear this
       refine (HLP.out _ _ (HX1.out.next HC7.out) (HV.out.next HB7.out)).mono ?_
       rintro e w8 ⟨rfl, hb⟩
       have HB8 := hidD (Below.next HB7.out hb)
       have HC8 := hidD (Below.next HC7.out hb)
       have HD8 := hidD (Below.next HD7.out hb)
       clear hb)
    | (go_at_call 14
       refine (HRS.out _ (HV.out.next HB6.out) (HU.out.next HB6.out)).mono ?_
       rintro e w7 ⟨rfl, hb⟩
       have HB7 := hidD (Below.next HB6.out hb)
       have HC7 := hidD (Below.next HC6.out hb)
       have HD7 := hidD (Below.next HD6.out hb)
       clear hb HRS)
    | (go_at_call 13
       refine (HSA.out _ _ _ (HX1.out.next HC5.out) HY5.out).mono ?_
       rintro e w6 ⟨rfl, hb⟩
       have HB6 := hidD (Below.next HB5.out hb)
       have HC6 := hidD (Below.next HC5.out hb)
       have HD6 := hidD (Below.next HD5.out hb)
       clear hb HSA)
    | (go_at_call 9
       refine (HO2.out _ (HU.out.next HB4.out)).mono ?_
       rintro e w5 ⟨y, Ty, rfl, hTy, hOy, hb⟩
       have HY5 : Hid (PbAt w5 y Q) := by show PbAt w5 y Q; rw [← hTy]; exact pb_of_own hOy
       have HB5 := hidD (Below.next HB4.out hb)
       have HC5 := hidD (Below.next HC4.out hb)
       have HD5 := hidD (Below.next HD4.out hb)
       obtain ⟨ya, yc, rfl⟩ := HY5.out.len
       clear hb hTy hOy HO2)
    | (go_at_call 12
       refine (HLM.out _ _ _ HP3.out HR3.out).mono ?_
       rintro e w4 ⟨rfl, hb⟩
       have HB4 := hidD (Below.next HB3.out hb)
       have HC4 := hidD (Below.next HC3.out hb)
       have HD4 := hidD hb
       clear hb HLM)
  have HL9 := hidD (row_below HS3.out.1 HD9.out)
  have HM9 := hidD ((mut_of_segs HS3.out).keep HD9.out)
  have HTE : Hid (∀ t ∈ T, t.2.2.length ≤ 65536) := fun t ht => HMX.out (pbT t) (by rw [← HT.out]; exact List.mem_map_of_mem ht)
  have htl : T.length ≤ 65536 := by have h1 := congrArg List.length HT.out; rw [List.length_map] at h1; have h2 := HML.out; omega
  clear HS3 HP3 HR3 HY5 HML
  go_loopw [10] (fun i wr => ∃ k : Nat, k ≤ T.length ∧ i = .int .i64 k ∧ Below w1.heap.size w1 wr ∧ wr.ownsRow w1.heap.size 36 2 (.slice ga T.length gc) T.length (flatB T) ∧ MutAt w1.heap.size wr T) (fun i _ => T.length - (intOf i).toNat)
  case atStart => exact ⟨0, Nat.zero_le _, rfl, HC9.out, HL9.out, HM9.out⟩
  case round =>
    obtain ⟨k, hk, rfl, hbel, hrow, hmut⟩ := hrel
    have HBW := hidD hbel
    have HRW := hidD hrow
    have HMW := hidD hmut
    clear hbel hrow hmut
    by_cases hlt : k < T.length
    · have hlti : (k : Int) < T.length := by omega
      obtain ⟨g, cap, hgv, -, -, -⟩ := list_cell HRW.out hlt
      cases hgv
      have HTM := hidD (List.getElem_mem hlt)
      obtain ⟨bb, bcap, -, hbv, hbc, -, -, -⟩ := HMW.out T[k] HTM.out
      have HLC : Hid (∀ W : World, W.ownsRow w1.heap.size 36 2 (.slice (some ⟨g, 0, none⟩) T.length gc) T.length (flatB T) → g < W.heap.size ∧ (∃ cur, W.heap[g]? = some (.cells cur (36 : TypeId) (0, 0))) ∧ W.cell? ⟨g, k * 2 + 1, none⟩ = some (T[k]).2.1) := fun W hW => by
        obtain ⟨g', cap', e, h1, h2, h3⟩ := list_cell hW hlt
        cases e
        exact ⟨h1, h2, h3⟩
      obtain ⟨t, HTX⟩ : ∃ t, Hid (T[k] = t) := ⟨T[k], hidD rfl⟩
      rw [HTX.out] at HTM hbv hbc HLC
      obtain ⟨ta, tv, tb⟩ := t
      change tv = .slice (some ⟨bb, 0, none⟩) tb.length bcap at hbv
      subst hbv
      change tb.length ≤ bcap at hbc
      have htn : tb.length ≤ 65536 := HTE.out _ HTM.out
      obtain ⟨tn, HTN⟩ : ∃ tn, Hid (tb.length = tn) := ⟨_, rfl⟩
      rw [HTN.out] at HLC hbc htn
      have k1 := (HLC.out _ HRW.out).2.2
      go_wp2_with fail
      go_loopw [11] (fun j wr2 => ∃ j' : Nat, j' ≤ tn ∧ j = .int .i64 j' ∧ Below w1.heap.size w1 wr2 ∧ wr2.ownsRow w1.heap.size 36 2 (.slice (some ⟨g, 0, none⟩) T.length gc) T.length (flatB T) ∧ MutAt w1.heap.size wr2 T) (fun j _ => tn - (intOf j).toNat)
      case atStart => exact ⟨0, Nat.zero_le _, rfl, HBW.out, HRW.out, HMW.out⟩
      case round =>
        obtain ⟨j, hj, rfl, hbel, hrow, hmut⟩ := hrel
        have HBV := hidD hbel
        have HRV := hidD hrow
        have HMV := hidD hmut
        obtain ⟨hgl, ⟨gcur, hgc⟩, k1⟩ := HLC.out _ hrow
        have HGC := hidD hgc
        clear hbel hrow hmut hgc
        by_cases hjl : j < tn
        · have hji : (j : Int) < tn := by omega
          obtain ⟨b', cap', cur, hbv, hbc', hbB, hbh, hbn⟩ := HMV.out _ HTM.out
          have e2 : Value.slice (some ⟨bb, 0, none⟩) tb.length bcap = .slice (some ⟨b', 0, none⟩) tb.length cap' := hbv
          injection e2 with e3 e4 e5
          injection e3 with e3
          injection e3 with e3
          subst e3
          obtain ⟨nn, hn256, hcj⟩ := hbn j (by show j < tb.length; rw [HTN.out]; exact hjl)
          have d0 := (cell_of_row _ _ _ _ _ _ hbh).trans hcj
          have f0 := frozen_of_row _ _ j _ _ hbh
          have hbl : bb < wr.heap.size := row_lt hbh
          have hne : g ≠ bb := by
            rintro rfl
            rw [HGC.out] at hbh
            cases hbh
          obtain ⟨hx1, hx2⟩ := xor85 nn hn256
          have HPU := hidD (HMV.out.keep (below_drewN (Below.refl _ _) 1))
          have HPQ := hidD (HPU.out.put (b := bb) (k := j) hx2)
          have HRD := hidD (row_below HRV.out (below_drewN (Below.refl _ _) 1))
          have HRP := hidD (row_set (g := bb) (o := j) HRD.out (fun y hy => by cases hy; exact hne) (.int .u8 ((nn ^^^ 85 : Nat) : Int)))
          have HBP := hidD ((below_drewN HBV.out 1).setCell (p := ⟨bb, j, none⟩) hbB (.int .u8 ((nn ^^^ 85 : Nat) : Int)))
          have m0 : ∀ i : KB wr [g, bb], i.v.cell? ⟨g, k * 2 + 1, none⟩ = some (.slice (some ⟨bb, 0, none⟩) tn bcap) := fun i => (i.cell (b := g) (by simp) _).trans k1
          have m1 : ∀ i : KB wr [g, bb], i.v.cell? ⟨bb, j, none⟩ = some (.int .u8 (nn : Int)) := fun i => (i.cell (b := bb) (by simp) _).trans d0
          clear hbv e5 hbn hcj hbh hbc'
          generalize nn ^^^ 85 = nx at *
          go_wp2_with fail
          refine wp_region_seg [0, 0, 0, 0, 0, 0, 0, 0, 0, 0, 0, 0, 0, 0, 0, 0, 99] 0 16 [g, bb] (by kernel_rfl) (by kernel_rfl) (by kernel_rfl) (by kernel_rfl) (by kernel_rfl) (by kernel_rfl) (by kernel_rfl) (by kernel_rfl) (fun _ _ _ _ _ h => h) ?_
          simp only [SegW, pk, Nat.reduceMul, Nat.reduceBEq, cond_true, cond_false]
          repeat (go_big_quiet_step (fail))
          refine wpQuiet_nil ?_
          go_wp2_with fail
          go_roundw
          case rel => exact ⟨j + 1, by omega, by go_num, HBP.out, HRP.out, HPQ.out⟩
          case measure => simp [intOf]; omega
        · obtain rfl : j = tn := by omega
          have hjl' : ¬ (j : Int) < j := by omega
          clear hjl
          go_wp2_with fail
          go_roundw
          case rel => exact ⟨k + 1, by omega, by go_num, HBV.out, HRV.out, HMV.out⟩
          case measure => simp [intOf]; omega
    · obtain rfl : k = T.length := by omega
      have hlt' : ¬ (T.length : Int) < T.length := by omega
      have HBF := hidD (Below.next HB1.out HBW.out)
      clear hlt
      go_wp2_with (go_at_call 12
                   refine (HLP.out _ _ (HX1.out.next HBW.out) (HV.out.next HBF.out)).mono ?_
                   rintro e w10 ⟨rfl, hb⟩
                   have HBG := hidD (Below.next HBF.out hb)
                   clear hb)
      go_ret
      exact ⟨rfl, HBG.out⟩
end Go.Proofs.YtpemajghaceegaaGreatDoor
