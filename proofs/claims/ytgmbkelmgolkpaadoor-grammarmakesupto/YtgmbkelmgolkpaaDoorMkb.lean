/- What the document's New answers. -/
import Derived.Test.YtgmbkelmgolkpaaDoorMka
import Derived.Test.YtgmbkelmgolkpaaDoorRgb
import Derived.Deep.CutRange
namespace Go.Proofs.YtgmbkelmgolkpaaDoor
open Go.RowKit Go.Maps
set_option linter.unusedVariables false

theorem StAt.take {w : World} {B n c k : Nat} {a : Option Addr} {A : List Tx} (h : StAt w B (.slice a n c) A) (hk : k ≤ A.length) : StAt w B (.slice a k c) (A.take k) := by
  obtain ⟨a2, cap2, h1, h2, h3, h4⟩ := h
  cases h1
  have hl : (A.take k).length = k := by rw [List.length_take]; omega
  refine ⟨a, c, by rw [hl], by omega, h3, fun j hj => ?_⟩
  rw [hl] at hj
  obtain ⟨g, o, e1, e2, e3⟩ := h4 j (by omega)
  refine ⟨g, o, e1, e2, ?_⟩
  rw [e3, List.getD_eq_getElem?_getD, List.getD_eq_getElem?_getD, List.getElem?_take, if_pos hj]
theorem allS_take {L : List (List Tx)} (p : List Tx → Bool) {k : Nat} (hk : k < L.length) : (L.take (k + 1)).all p = ((L.take k).all p && p (L.getD k [])) := by
  rw [List.take_succ_eq_append_getElem hk, List.all_append, List.getD_eq_getElem?_getD, List.getElem?_eq_getElem hk]
  simp
theorem allS_take1 {L : List Tx} (p : Tx → Bool) {k : Nat} (hk : k < L.length) : (L.take (k + 1)).all p = ((L.take k).all p && p (L.getD k [])) := by
  rw [List.take_succ_eq_append_getElem hk, List.all_append, List.getD_eq_getElem?_getD, List.getElem?_eq_getElem hk]
  simp
theorem un_bool5 {b : Bool} {c : Prop} (h : some undef = some (Value.bool b)) : False := by simp [undef] at h
set_option maxRecDepth 100000 in
set_option maxHeartbeats 3200000 in
theorem refNew_any (T O : List Tx) (hT : TxOk T) (hO : TxOk O) (hTl : T.length ≤ 1048576) (hOl : O.length ≤ 1048576) (s : Tx) (L : List (List Tx)) (hll : L.length ≤ 1048576) (hrl : ∀ r ∈ L, r.length ≤ 1048576) (Bt Bo : Nat) (v0 v1 v3 : Value) (w : World) (h0 : StAt w Bt v0 T) (h1 : StAt w Bo v1 O) (h3 : RqAt w v3 L) :
    Calls Tryd.prog 16 #[v0, v1, encT s, v3] w fun e w' => Below w.heap.size w w' ∧ (docE T O s L ≠ 0 → e = .returned (.tuple #[.pointer none, .int .i64 (docE T O s L)])) ∧ (docE T O s L = 0 → ∃ p, e = .returned (.tuple #[.pointer (some ⟨p, 0, none⟩), .int .i64 0]) ∧ w.heap.size ≤ p ∧ RgAt w' p T O (L.map (dnF T O)) (atS O s) ∧ FarS w.heap.size w' p 0 ∧ FarS w.heap.size w' p 1) := by
  have HDE : Hid (docE T O s L = if docO T O s L then (if L.length ≤ 128 ∧ T.length + O.length + 1 ≤ 128 then 0 else 3) else 130) := rfl
  have HDO : Hid (docO T O s L = (decide (0 ≤ atS O s) && decide (1 ≤ L.length) && okA (T ++ O) (T ++ O).length && L.all (okR O (T ++ O)))) := rfl
  have HASM : Hid (docE T O s L = 0 → ∀ wB : World, Below w.heap.size w wB → Calls Tryd.prog 47 #[v0, v1, encT s, v3] wB fun e w' => ∃ p, e = .returned (.pointer (some ⟨p, 0, none⟩)) ∧ wB.heap.size ≤ p ∧ RgAt w' p T O (L.map (dnF T O)) (atS O s) ∧ Below wB.heap.size wB w' ∧ FarS wB.heap.size w' p 0 ∧ FarS wB.heap.size w' p 1) := fun hE wB hb => by
    obtain ⟨hn, _, hr, _⟩ := doc_ok hE
    exact assembled_own T O (by omega) (by omega) s L (by omega) (fun r hm => ⟨(hr r hm).1, hrl r hm⟩) (fun r hm => (hn.find (.inr (hr r hm).2.1)).2.1) Bt Bo v0 v1 v3 wB (h0.next hb) (h1.next hb) (h3.next hb)
  have HAT : Hid (∀ (x : Tx) (wB : World), Below w.heap.size w wB → Calls Tryd.prog 46 #[v1, encT x] wB fun e w' => e = .returned (.int .i64 (atS O x)) ∧ Below wB.heap.size wB w') := fun x wB hb => (refAt_st O (by omega) Bo v1 x wB (h1.next hb)).mono fun e w' h => ⟨h.1, by rw [h.2]; exact Below.refl _ _⟩
  have HT := hidD h0
  have HO := hidD h1
  have HL := hidD h3
  have HTO : Hid (TxOk (T ++ O)) := fun x hx => by
    rcases List.mem_append.1 hx with h | h
    · exact hT x h
    · exact hO x h
  have HAA : Hid (∀ (wB : World) o, Below wB.heap.size wB (wB.alloc o)) := fun wB o => (Below.refl _ _).alloc (Nat.le_refl _) o
  have HRL := hidD hrl
  obtain ⟨a0, c0, rfl⟩ := h0.shape
  obtain ⟨a1, c1, rfl⟩ := h1.shape
  obtain ⟨a3, c3, rfl, hc31, hc32, _⟩ := h3
  have HAL : Hid ((T ++ O).length = T.length + O.length) := List.length_append
  have HOKN : Hid (∀ k, okA (T ++ O) (k + 1) = (okA (T ++ O) k && (nmS ((T ++ O).getD k []) && decide (atS ((T ++ O).take k) ((T ++ O).getD k []) < 0)))) := fun _ => rfl
  have HOK0 : Hid (okA (T ++ O) 0 = true) := rfl
  clear h0 h1 hT hO hrl
  unfold encT
  unfold encT at HASM HAT
  generalize hnT : T.length = nT at *
  generalize hnO : O.length = nO at *
  generalize hnL : L.length = nL at *
  have HNT := hidD hnT
  have HNO := hidD hnO
  have HNL := hidD hnL
  clear hnT hnO hnL
  have HATS := hidD (HAT.out s)
  generalize bA s = SS at *
  generalize hz : atS O s = z at *
  clear hz
  go_enter Tryd.func16, Tryd.ntmps16
  go_upto_region 2 with (first
    | (at_builtin; have := M1; clear this; refine wpList_append_st rfl _ _ rfl w.heap.size (.slice aT nT cT) nT T rfl HOT.out Bo (.slice a1 nO c1) O rfl (HO.out.next HB1.out) (by rw [HNO.out]; omega) HB1.out.size ?_; intro vA wA hoA hbA hkA; rw [HNO.out] at hoA; have HOA := hidD hoA; obtain ⟨aA, cA, hvA⟩ := row_shape hoA; subst hvA; have HBA := hidD (Below.trans HB1.out hbA); clear hoA hbA hkA)
    | (at_builtin; refine wpList_append_st rfl _ _ rfl w.heap.size (.slice (some ⟨w.heap.size, 0, none⟩) 0 0) 0 [] rfl (own_empty w) Bt (.slice a0 nT c0) T rfl (HT.out.next (HAA.out _ _)) (by rw [HNT.out]; omega) (by simp) ?_; intro vT w1 hoT hbT hkT; rw [HNT.out, Nat.zero_add, List.nil_append] at hoT; have HOT := hidD hoT; obtain ⟨aT, cT, hvT⟩ := row_shape hoT; subst hvT; have HB1 := hidD (Below.trans (HAA.out w (.cells #[] (9 : TypeId))) hbT); have M1 := trivial; clear hoT hbT hkT))
  clear HT HO HOT M1
  have HSA : Hid (StAt wA wA.heap.size (.slice aA (nT + nO) cA) (T ++ O)) := (sr_of_own HOA.out (by rw [HAL.out])).st
  clear HOA
  have HTOE : Hid (nT + nO ≤ 2097152) := by show _ ≤ _; omega
  generalize hA : T ++ O = A at *
  have HA := hidD hA
  clear hA
  generalize hnA : nT + nO = nA at *
  have HNA := hidD hnA
  clear hnA
  have hnAb : nA ≤ 2097152 := HTOE.out
  go_cut [11] from 20 to 28 (fun x wx => x = .bool (decide (0 ≤ z) && decide (1 ≤ nL)) ∧ Below wA.heap.size wA wx)
  case first =>
    by_cases hz0 : 0 ≤ z
    · have hzd : decide (0 ≤ z) = true := decide_eq_true hz0
      by_cases hn0 : 1 ≤ nL
      · have hnd : decide ((0 : Int) < (nL : Int)) = true := decide_eq_true (by omega)
        have hni : (0 : Int) < (nL : Int) := by omega
        have hnn : decide (0 < nL) = true := decide_eq_true (by omega)
        go_wp2_with (go_at_call 46; refine (HATS.out _ HBA.out).mono ?_; rintro e wx ⟨rfl, hbx⟩)
        all_goals first | exact (un_bool5 (by assumption)).elim | skip
        go_meet
        case rel => exact ⟨by rw [decide_eq_true hn0, hzd]; rfl, hbx⟩
      · have hnd : decide ((0 : Int) < (nL : Int)) = false := decide_eq_false (by omega)
        have hni : ¬ (0 : Int) < (nL : Int) := by omega
        have hnn : decide (0 < nL) = false := decide_eq_false (by omega)
        go_wp2_with (go_at_call 46; refine (HATS.out _ HBA.out).mono ?_; rintro e wx ⟨rfl, hbx⟩)
        all_goals first | exact (un_bool5 (by assumption)).elim | skip
        go_meet
        case rel => exact ⟨by rw [decide_eq_false hn0, hzd]; rfl, hbx⟩
    · have hzd : decide (0 ≤ z) = false := decide_eq_false hz0
      go_wp2_with (go_at_call 46; refine (HATS.out _ HBA.out).mono ?_; rintro e wx ⟨rfl, hbx⟩)
      all_goals first | exact (un_bool5 (by assumption)).elim | skip
      go_meet
      case rel => exact ⟨by rw [hzd]; rfl, hbx⟩
  case rest =>
    obtain ⟨rfl, hbx⟩ := hcut
    have HBX := hidD (Below.next HBA.out hbx)
    have HSX := hidD (HSA.out.next hbx)
    clear HSA HBA hbx HATS
    generalize hb0 : (decide (0 ≤ z) && decide (1 ≤ nL)) = b0 at *
    have HB0 := hidD hb0
    clear hb0
    go_wp2_with fail
    go_loopw [11, 12] (fun x i wr => ∃ k : Nat, k ≤ nA ∧ i = .int .i64 (k : Int) ∧ x = .bool (b0 && okA A k) ∧ Below wc.heap.size wc wr) (fun _ i _ => nA - (intOf i).toNat)
    case atStart => exact ⟨0, Nat.zero_le _, rfl, by rw [HOK0.out, Bool.and_true], Below.refl _ _⟩
    case round =>
      obtain ⟨k, hk, rfl, rfl, hbel⟩ := hrel
      have HBR := hidD hbel
      clear hbel
      by_cases hlt : k < nA
      · have hlti : (k : Int) < (nA : Int) := by omega
        have HOK := hidD (HOKN.out k)
        obtain ⟨gA, oA, rfl, hgA, _, f0⟩ := (HSX.out.next HBR.out).cell (k := k) (by rw [HAL.out]; exact hlt)
        have HNM := hidD (fun (wB : World) => refName_any (A.getD k []) wB (HTO.out.get (k := k) (by rw [HAL.out]; exact hlt)))
        have HTKS := hidD (fun (wB : World) (hb : Below wr.heap.size wr wB) => refAt_st (A.take k) (by rw [List.length_take]; omega) 0 (.slice (some ⟨gA, oA, none⟩) k cA) (A.getD k []) wB (((HSX.out.next HBR.out).next hb).take (by rw [HAL.out]; omega)))
        have hkc : (k : Int) ≤ (cA : Int) := by
          obtain ⟨_, _, e, e2, _⟩ := HSX.out
          cases e
          rw [HAL.out] at e2
          omega
        unfold encT at f0 HNM HTKS
        generalize hq : nmS (A.getD k []) = q at *
        clear hq
        generalize bA (A.getD k []) = X at *
        generalize hy : atS (A.take k) (A.getD k []) = y at *
        clear hy
        cases hb : (b0 && okA A k) with
        | false =>
          have HNX : Hid ((b0 && okA A (k + 1)) = false) := by show _ = _; rw [HOK.out, ← Bool.and_assoc, hb]; rfl
          clear hb
          have i0 : ∀ i : BW wr, i.v.cell? ⟨gA, oA + k, none⟩ = some (.string X) := fun i => (i.cell hgA).trans f0
          clear f0
          go_wp2_with fail
          refine wp_region_below (by kernel_rfl) (by kernel_rfl) ?_
          repeat (go_big_quiet_step (fail))
          refine wpQuiet_nil ?_
          intro i
          have HBI := hidD (Below.next HBR.out i.below)
          clear i0
          generalize i.v = w2 at *
          go_wp2_with fail
          go_roundw
          case rel => exact ⟨k + 1, by omega, by go_num, by rw [HNX.out], HBI.out⟩
          case measure => simp [intOf]; omega
        | true =>
          have HNX : Hid ((b0 && okA A (k + 1)) = (q && decide (y < 0))) := by show _ = _; rw [HOK.out, ← Bool.and_assoc, hb, Bool.true_and]
          clear hb
          have i0 : ∀ i : BW wr, i.v.cell? ⟨gA, oA + k, none⟩ = some (.string X) := fun i => (i.cell hgA).trans f0
          have q45 := hidD (fun (i : BW wr) => ((HNM.out i.v).mono fun e w' h => ⟨h.1, by rw [h.2]; exact Below.refl _ _⟩ : Calls Tryd.prog 45 #[.string X] i.v fun e w' => e = .returned (.bool q) ∧ Below i.v.heap.size i.v w'))
          have q46 := hidD (fun (i : BW wr) => ((HTKS.out i.v i.below).mono fun e w' h => ⟨h.1, by rw [h.2]; exact Below.refl _ _⟩ : Calls Tryd.prog 46 #[.slice (some ⟨gA, oA, none⟩) k cA, .string X] i.v fun e w' => e = .returned (.int .i64 y) ∧ Below i.v.heap.size i.v w'))
          clear f0
          cases q with
          | false =>
            go_wp2_with fail
            refine wp_region_below (by kernel_rfl) (by kernel_rfl) ?_
            repeat (go_big_quiet_step (first | (go_at_call 45; exact Calls.below_of (q45.out _)) | (go_at_call 46; exact Calls.below_of (q46.out _))))
            refine wpQuiet_nil ?_
            intro i
            have HBI := hidD (Below.next HBR.out i.below)
            clear i0 q45 q46
            generalize i.v = w2 at *
            go_wp2_with fail
            go_roundw
            case rel => exact ⟨k + 1, by omega, by go_num, by rw [HNX.out]; rfl, HBI.out⟩
            case measure => simp [intOf]; omega
          | true =>
            go_wp2_with fail
            refine wp_region_below (by kernel_rfl) (by kernel_rfl) ?_
            repeat (go_big_quiet_step (first | (go_at_call 45; exact Calls.below_of (q45.out _)) | (go_at_call 46; exact Calls.below_of (q46.out _))))
            refine wpQuiet_nil ?_
            intro i
            have HBI := hidD (Below.next HBR.out i.below)
            clear i0 q45 q46
            generalize i.v = w2 at *
            go_wp2_with fail
            go_roundw
            case rel => exact ⟨k + 1, by omega, by go_num, by rw [HNX.out]; rfl, HBI.out⟩
            case measure => simp [intOf]; omega
      · obtain rfl : k = nA := by omega
        generalize hb1 : (b0 && okA A k) = b1 at *
        have HB1 := hidD hb1
        clear hb1
        have HATA : Hid (∀ (x : Tx) (wB : World), Below wr.heap.size wr wB → Calls Tryd.prog 46 #[.slice aA k cA, encT x] wB fun e w' => e = .returned (.int .i64 (atS A x)) ∧ Below wB.heap.size wB w') := fun x wB hb => (refAt_st A (by rw [HAL.out]; omega) 0 _ x wB ((HSX.out.next HBR.out).next hb)).mono fun e w' h => ⟨h.1, by rw [h.2]; exact Below.refl _ _⟩
        unfold encT at HATA
        have HBD := hidD (Below.next HBX.out HBR.out)
        have HALL := hidD (fun m (hm : m < L.length) => allS_take (okR O A) hm)
        rw [HNL.out] at HALL
        have HOR : Hid (∀ r, okR O A r = (decide (1 ≤ r.length) && decide (0 ≤ atS O (r.getD 0 [])) && (r.drop 1).all (fun x => decide (0 ≤ atS A x)))) := fun _ => rfl
        have HALE : Hid (L.take nL = L) := by show _ = _; rw [← HNL.out]; exact List.take_length
        clear HSX HBX HBR HOKN HOK0 HTO
        go_wp2_with fail
        obtain ⟨wd, hwd⟩ : ∃ wd, wd = wr := ⟨_, rfl⟩
        subst hwd
        go_loopw [11, 13, 14] (fun x i _ wr => ∃ m : Nat, m ≤ nL ∧ i = .int .i64 (m : Int) ∧ x = .bool (b1 && (L.take m).all (okR O A)) ∧ Below wd.heap.size wd wr) (fun _ i _ _ => nL - (intOf i).toNat)
        case atStart => exact ⟨0, Nat.zero_le _, rfl, by simp, Below.refl _ _⟩
        case round =>
          obtain ⟨m, hm, rfl, rfl, hbel⟩ := hrel
          have HBE := hidD (Below.next HBD.out hbel)
          have HBL := hidD hbel
          clear hbel
          obtain ⟨we, hwe⟩ : ∃ we, we = wr := ⟨_, rfl⟩
          subst hwe
          by_cases hmt : m < nL
          · have hmti : (m : Int) < (nL : Int) := by omega
            obtain ⟨g3, o3, u, e4, hg3, f3, hst⟩ := rq_cell (HL.out.next HBE.out) (k := m) (by rw [HNL.out]; exact hmt)
            subst e4
            obtain ⟨ar, cr, rfl⟩ := hst.shape
            have HST := hidD hst
            have HAM := hidD (HALL.out m hmt)
            rw [HOR.out] at HAM
            have hrb : (L.getD m []).length ≤ 1048576 := HRL.out _ (by rw [List.getD_eq_getElem?_getD, List.getElem?_eq_getElem (by rw [HNL.out]; exact hmt)]; exact List.getElem_mem _)
            generalize hb2 : (L.take m).all (okR O A) = b2 at *
            generalize L.getD m [] = r at *
            have HAR := hidD (HAT.out (r.getD 0 []))
            have HR0 : Hid (1 ≤ r.length → ∃ gr orr, ar = some ⟨gr, orr, none⟩ ∧ gr < we.heap.size ∧ we.cell? ⟨gr, orr + 0, none⟩ = some (.string (bA (r.getD 0 [])))) := fun h => by
              obtain ⟨gr, orr, e1, e2, _, e3⟩ := HST.out.cell (k := 0) h
              exact ⟨gr, orr, e1, e2, e3⟩
            generalize hX0 : bA (r.getD 0 []) = X0 at *
            generalize hz2 : atS O (r.getD 0 []) = z2 at *
            clear hst hb2 hX0 hz2
            generalize hnr : r.length = nr at *
            have HNR := hidD hnr
            clear hnr
            go_upto_region 10 with fail
            go_cut [11] from 54 to 101 (fun x wx => x = .bool ((b1 && b2) && (decide (1 ≤ nr) && decide (0 ≤ z2))) ∧ Below we.heap.size we wx)
            case first =>
              cases hb : (b1 && b2) with
              | false =>
                go_wp2_with fail
                all_goals first | exact (un_bool5 (by assumption)).elim | skip
                go_meet
                case rel => exact ⟨by first | rfl | rw [hb]; rfl, Below.refl _ _⟩
              | true =>
                by_cases hn0 : 1 ≤ nr
                · obtain ⟨gr, orr, e1, e2, e3⟩ := HR0.out hn0
                  subst e1
                  rw [Nat.add_zero] at e3
                  have hnd : decide ((0 : Int) < (nr : Int)) = true := decide_eq_true (by omega)
                  have hni : (0 : Int) < (nr : Int) := by omega
                  have hnn : decide (0 < nr) = true := decide_eq_true (by omega)
                  have HBB := hidD hb
                  clear hb
                  by_cases hz0 : 0 ≤ z2
                  · have hzd : decide (0 ≤ z2) = true := decide_eq_true hz0
                    go_wp2_with (go_at_call 46; refine (HAR.out _ HBE.out).mono ?_; rintro e wx ⟨rfl, hbx⟩)
                    all_goals first | exact (un_bool5 (by assumption)).elim | skip
                    go_meet
                    case rel => exact ⟨by rw [HBB.out, decide_eq_true hn0, hzd]; rfl, hbx⟩
                  · have hzd : decide (0 ≤ z2) = false := decide_eq_false hz0
                    go_wp2_with (go_at_call 46; refine (HAR.out _ HBE.out).mono ?_; rintro e wx ⟨rfl, hbx⟩)
                    all_goals first | exact (un_bool5 (by assumption)).elim | skip
                    go_meet
                    case rel => exact ⟨by rw [HBB.out, decide_eq_true hn0, hzd]; rfl, hbx⟩
                · have hnd : decide ((0 : Int) < (nr : Int)) = false := decide_eq_false (by omega)
                  have hni : ¬ (0 : Int) < (nr : Int) := by omega
                  have hnn : decide (0 < nr) = false := decide_eq_false (by omega)
                  have HBB := hidD hb
                  clear hb
                  go_wp2_with fail
                  all_goals first | exact (un_bool5 (by assumption)).elim | skip
                  go_meet
                  case rel => exact ⟨by rw [HBB.out, decide_eq_false hn0]; rfl, Below.refl _ _⟩
            case rest =>
              obtain ⟨rfl, hbx⟩ := hcut
              have HBF := hidD hbx
              clear HR0 HAR hbx
              generalize hc0 : ((b1 && b2) && (decide (1 ≤ nr) && decide (0 ≤ z2))) = c0 at *
              have HC0 := hidD hc0
              clear hc0
              have f4 : wc.cell? ⟨g3, o3 + m, none⟩ = some (.slice ar nr cr) := (HBF.out.cell (p := ⟨g3, o3 + m, none⟩) hg3).trans f3
              have hg4 : g3 < wc.heap.size := Nat.lt_of_lt_of_le hg3 HBF.out.size
              have HBG := hidD (Below.next HBL.out HBF.out)
              have HSTF := hidD (HST.out.next HBF.out)
              have HTKR := hidD (fun q (hq : q < (r.drop 1).length) => allS_take1 (fun x => decide (0 ≤ atS A x)) hq)
              have HDL : Hid ((r.drop 1).length = nr - 1) := by show _ = _; rw [List.length_drop, HNR.out]
              have HDG : Hid (∀ q, 1 ≤ q → (r.drop 1).getD (q - 1) [] = r.getD q []) := fun q h => by rw [List.getD_eq_getElem?_getD, List.getD_eq_getElem?_getD, List.getElem?_drop, show 1 + (q - 1) = q by omega]
              have HDA : Hid (∀ q, nr ≤ q → (r.drop 1).take (q - 1) = r.drop 1) := fun q h => List.take_of_length_le (by rw [HDL.out]; omega)
              clear HST f3
              go_wp2_with fail
              go_loopw [11, 14] (fun x i wr => ∃ q : Nat, 1 ≤ q ∧ (q ≤ nr ∨ q = 1) ∧ i = .int .i64 (q : Int) ∧ x = .bool (c0 && ((r.drop 1).take (q - 1)).all (fun x => decide (0 ≤ atS A x))) ∧ Below wc.heap.size wc wr) (fun _ i _ => nr - (intOf i).toNat)
              case atStart => exact ⟨1, Nat.le_refl _, .inr rfl, rfl, by simp, Below.refl _ _⟩
              case round =>
                obtain ⟨q, hq1, hq2, rfl, rfl, hbel⟩ := hrel
                have HBH := hidD hbel
                have f5 : wr.cell? ⟨g3, o3 + m, none⟩ = some (.slice ar nr cr) := (hbel.cell (p := ⟨g3, o3 + m, none⟩) hg4).trans f4
                clear hbel
                by_cases hqt : q < nr
                · have hqti : (q : Int) < (nr : Int) := by omega
                  obtain ⟨gr, orr, e1, e2, _, e3⟩ := (HSTF.out.next HBH.out).cell (k := q) (by rw [HNR.out]; exact hqt)
                  subst e1
                  have HTQ := hidD (HTKR.out (q - 1) (by rw [HDL.out]; omega))
                  rw [show q - 1 + 1 = q + 1 - 1 by omega, HDG.out q hq1] at HTQ
                  have HAR := hidD (HATA.out (r.getD q []))
                  unfold encT at e3
                  generalize hXq : bA (r.getD q []) = XQ at *
                  generalize hzq : atS A (r.getD q []) = zq at *
                  generalize hbq : ((r.drop 1).take (q - 1)).all (fun x => decide (0 ≤ atS A x)) = bq at *
                  clear hXq hzq hbq
                  have HBI := hidD (Below.next HBG.out HBH.out)
                  cases hb : (c0 && bq) with
                  | false =>
                    have HNX : Hid ((c0 && ((r.drop 1).take (q + 1 - 1)).all (fun x => decide (0 ≤ atS A x))) = false) := by show _ = _; rw [HTQ.out, ← Bool.and_assoc, hb]; rfl
                    clear hb
                    go_wp2_with fail
                    all_goals first | exact (un_bool5 (by assumption)).elim | skip
                    go_roundw
                    case rel => exact ⟨q + 1, by omega, .inl (by omega), by go_num, by rw [HNX.out], HBH.out⟩
                    case measure => simp [intOf]; omega
                  | true =>
                    have HNX : Hid ((c0 && ((r.drop 1).take (q + 1 - 1)).all (fun x => decide (0 ≤ atS A x))) = decide (0 ≤ zq)) := by show _ = _; rw [HTQ.out, ← Bool.and_assoc, hb, Bool.true_and]
                    clear hb
                    by_cases hz0 : 0 ≤ zq
                    · have hzd : decide (0 ≤ zq) = true := decide_eq_true hz0
                      go_wp2_with (go_at_call 46; refine (HAR.out _ HBI.out).mono ?_; rintro e wx ⟨rfl, hbx⟩)
                      all_goals first | exact (un_bool5 (by assumption)).elim | skip
                      go_roundw
                      case rel => exact ⟨q + 1, by omega, .inl (by omega), by go_num, by rw [HNX.out, hzd], Below.next HBH.out hbx⟩
                      case measure => simp [intOf]; omega
                    · have hzd : decide (0 ≤ zq) = false := decide_eq_false hz0
                      go_wp2_with (go_at_call 46; refine (HAR.out _ HBI.out).mono ?_; rintro e wx ⟨rfl, hbx⟩)
                      all_goals first | exact (un_bool5 (by assumption)).elim | skip
                      go_roundw
                      case rel => exact ⟨q + 1, by omega, .inl (by omega), by go_num, by rw [HNX.out, hzd], Below.next HBH.out hbx⟩
                      case measure => simp [intOf]; omega
                · have hqni : ¬ (q : Int) < (nr : Int) := by omega
                  have HFIN : Hid ((b1 && (L.take (m + 1)).all (okR O A)) = (c0 && ((r.drop 1).take (q - 1)).all (fun x => decide (0 ≤ atS A x)))) := by
                    show _ = _
                    rw [HAM.out, HDA.out q (by omega), ← HC0.out]
                    simp only [Bool.and_assoc]
                  have HBI := hidD (Below.next HBG.out HBH.out)
                  generalize (c0 && ((r.drop 1).take (q - 1)).all (fun x => decide (0 ≤ atS A x))) = cf at *
                  go_wp2_with fail
                  go_roundw
                  case rel => exact ⟨m + 1, by omega, by go_num, by rw [HFIN.out], HBI.out⟩
                  case measure => simp [intOf]; omega
          · obtain rfl : m = nL := by omega
            have HDD : Hid (docO T O s L = (b1 && (L.take m).all (okR O A))) := by
              show _ = _
              rw [HDO.out, HALE.out, ← HB1.out, ← HB0.out, HAL.out]
            generalize hbd : (b1 && (L.take m).all (okR O A)) = bd at *
            clear hbd
            cases bd with
            | false =>
              have HE : Hid (docE T O s L = 130) := by show _ = _; rw [HDE.out, HDD.out]; rfl
              go_wp2_with fail
              refine bodyPost_ret (v := .tuple #[.pointer none, .int .i64 130]) (by simp [results, Tryd.results16, go_sem]) rfl ?_
              exact ⟨HBE.out, fun _ => by rw [HE.out], fun h => by rw [HE.out] at h; cases h⟩
            | true =>
              rw [HDD.out, if_pos rfl] at HDE
              by_cases c1 : m ≤ 128
              · have c1n : ¬ (128 : Int) < (m : Int) := by omega
                have c1d : decide ((128 : Int) < (m : Int)) = false := decide_eq_false c1n
                by_cases c2 : k + 1 ≤ 128
                · have c2n : ¬ (128 : Int) < (k : Int) + 1 := by omega
                  have c2d : decide ((128 : Int) < (k : Int) + 1) = false := decide_eq_false c2n
                  have HE : Hid (docE T O s L = 0) := by show _ = _; rw [HDE.out, if_pos ⟨c1, c2⟩]
                  have HAS := hidD (HASM.out HE.out we HBE.out)
                  go_wp2_with (go_at_call 47; refine HAS.out.mono ?_; rintro e w9 ⟨p, rfl, hp, hrg, hb9, hf0, hf1⟩; have HP := hidD hp; have HRG := hidD hrg; have HB9 := hidD hb9; have HF0 := hidD hf0; have HF1 := hidD hf1; clear hp hrg hb9 hf0 hf1)
                  all_goals first | exact (un_bool5 (by assumption)).elim | skip
                  refine bodyPost_ret (v := .tuple #[.pointer (some ⟨p, 0, none⟩), .int .i64 0]) (by simp [results, Tryd.results16, go_sem]) rfl ?_
                  have hs := HBE.out.size
                  exact ⟨Below.next HBE.out HB9.out, fun h => absurd HE.out h, fun _ => ⟨p, rfl, Nat.le_trans hs HP.out, HRG.out, fun g o n c h => Nat.le_trans hs (HF0.out g o n c h), fun g o n c h => Nat.le_trans hs (HF1.out g o n c h)⟩⟩
                · have c2n : (128 : Int) < (k : Int) + 1 := by omega
                  have c2d : decide ((128 : Int) < (k : Int) + 1) = true := decide_eq_true c2n
                  have HE : Hid (docE T O s L = 3) := by show _ = _; rw [HDE.out, if_neg (fun h => c2 h.2)]
                  go_wp2_with fail
                  all_goals first | exact (un_bool5 (by assumption)).elim | skip
                  refine bodyPost_ret (v := .tuple #[.pointer none, .int .i64 3]) (by simp [results, Tryd.results16, go_sem]) rfl ?_
                  exact ⟨HBE.out, fun _ => by rw [HE.out], fun h => by rw [HE.out] at h; cases h⟩
              · have c1n : (128 : Int) < (m : Int) := by omega
                have c1d : decide ((128 : Int) < (m : Int)) = true := decide_eq_true c1n
                have HE : Hid (docE T O s L = 3) := by show _ = _; rw [HDE.out, if_neg (fun h => c1 h.1)]
                go_wp2_with fail
                all_goals first | exact (un_bool5 (by assumption)).elim | skip
                refine bodyPost_ret (v := .tuple #[.pointer none, .int .i64 3]) (by simp [results, Tryd.results16, go_sem]) rfl ?_
                exact ⟨HBE.out, fun _ => by rw [HE.out], fun h => by rw [HE.out] at h; cases h⟩
end Go.Proofs.YtgmbkelmgolkpaaDoor
