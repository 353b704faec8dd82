/- What the document's unhex answers: digits as bytes. -/
import Derived.Test.YtpemajghaceegaaGreatDoorRfa
namespace Go.Proofs.YtpemajghaceegaaGreatDoor
open Go.RowKit
set_option linter.unusedVariables false

theorem dg_va (c : UInt8) : dgV c.toNat = match vaS c with | none => -1 | some v => (v.toNat : Int) := by
  have h2 : ∀ n : Fin 256, dgV (UInt8.ofNat n.val).toNat = match vaS (UInt8.ofNat n.val) with | none => -1 | some v => (v.toNat : Int) := by decide +kernel
  have := h2 ⟨c.toNat, c.toNat_lt⟩
  simpa using this
theorem un_odd {s : List UInt8} (h : s.length % 2 = 1) : unS s = none := by
  cases hu : unS s with
  | none => rfl
  | some b => have := un_len _ _ hu; omega
set_option maxRecDepth 100000 in
set_option maxHeartbeats 3200000 in
theorem refUnhex_any (s : List UInt8) (hs : s.length ≤ 140737488355000) (w : World) : Calls Tryz.prog 43 #[.string (bA s)] w fun e w' => UnIs s e w w' := by
  have HSZ := hidD (ba_size s)
  have HBG := hidD (fun k h => ba_get s k h)
  generalize bA s = B at *
  have HDI : Hid (∀ (c : Nat) (hc : c < 256) (w : World), Calls Tryz.prog 82 #[.int .u8 (c : Int)] w fun e w' => e = .returned (.int .i64 (dgV c)) ∧ w' = w) := fun c hc w => refDigit_any c hc w
  have hsb : (B.size : Int) ≤ 140737488355000 := by rw [HSZ.out]; omega
  go_enter Tryz.func43, Tryz.ntmps43
  go_wp2_with fail
  go_loopw [4, 5] (fun oo i wr => ∃ (O : List UInt8) (p : Nat), i = .int .i64 (p : Int) ∧ p % 2 = 0 ∧ InB s p O 0 ∧ wr.ownsRow w.heap.size 5 1 oo O.length (O.map encB) ∧ Below w.heap.size w wr) (fun _ i _ => s.length - (intOf i).toNat)
  case atStart => exact ⟨[], 0, rfl, rfl, InB.start _ _, World.ownsRow_nil _ _ _ _, Below.refl _ _⟩
  case round =>
    obtain ⟨O, p, rfl, hp2, hinv, hown, hbel⟩ := hrel
    have HI := hidD hinv
    have HOW := hidD hown
    have HBL := hidD hbel
    have hps : p ≤ B.size := by rw [HSZ.out]; exact hinv.1
    obtain ⟨a3, c3, rfl⟩ := row_shape hown
    clear hinv hown hbel
    by_cases hp : p + 1 < B.size
    · have hpi : (p : Int) + 1 < B.size := by omega
      have hpl : (p : Int) < B.size := by omega
      have hpa : p < B.size := by omega
      have HG0 := hidD (HBG.out p hpa)
      have HG1 := hidD (HBG.out (p + 1) hp)
      have HP0 : Hid (p < s.length) := by show _ < _; rw [← HSZ.out]; exact hpa
      have HP1 : Hid (p + 1 < s.length) := by show _ < _; rw [← HSZ.out]; exact hp
      have HD0 := hidD (fun w => HDI.out (B[p]'hpa).toNat (B[p]'hpa).toNat_lt w)
      have HD1 := hidD (fun w => HDI.out (B[p + 1]'hp).toNat (B[p + 1]'hp).toNat_lt w)
      have HV0 := hidD (dg_va (B[p]'hpa))
      have HV1 := hidD (dg_va (B[p + 1]'hp))
      cases hv0 : vaS (B[p]'hpa) with
      | none =>
        have HUN : Hid (unS s = none) := InB.bad HP0.out (by rw [← HG0.out]; exact hv0)
        rw [HV0.out, hv0] at HD0
        clear hv0 HD1 HDI HBG HG0 HG1 HV1 HV0
        go_wp2_with (go_at_call 82; refine (HD0.out _).mono ?_; rintro e w2 ⟨rfl, hw2⟩; subst w2; clear HD0)
        go_ret2
        exact ⟨none, 0, 0, false, rfl, fun b hb => (by rw [HUN.out] at hb; cases hb), fun _ => rfl, HBL.out⟩
      | some x =>
        rw [HV0.out, hv0] at HD0
        dsimp only at HD0
        have HX16 := hidD (va_lt hv0)
        have HVX : Hid (vaS (s.getD p 0) = some x) := by show _ = _; rw [← HG0.out]; exact hv0
        have hx0 : ¬ ((x.toNat : Int) < 0) := by omega
        cases hv1 : vaS (B[p + 1]'hp) with
        | none =>
          have HUN : Hid (unS s = none) := InB.bad HP1.out (by rw [← HG1.out]; exact hv1)
          rw [HV1.out, hv1] at HD1
          clear hv0 hv1 HDI HBG HG0 HG1 HV1 HV0
          go_wp2_with first
            | (go_at_call 82; have := HX16; clear this HX16; refine (HD0.out _).mono ?_; rintro e w2 ⟨rfl, hw2⟩; subst w2; clear HD0)
            | (go_at_call 82; refine (HD1.out _).mono ?_; rintro e w2 ⟨rfl, hw2⟩; subst w2; clear HD1)
          go_ret2
          exact ⟨none, 0, 0, false, rfl, fun b hb => (by rw [HUN.out] at hb; cases hb), fun _ => rfl, HBL.out⟩
        | some y =>
          rw [HV1.out, hv1] at HD1
          dsimp only at HD1
          have HY16 := hidD (va_lt hv1)
          have HVY : Hid (vaS (s.getD (p + 1) 0) = some y) := by show _ = _; rw [← HG1.out]; exact hv1
          have HNX := hidD ((HI.out.even hp2 HP0.out HVX.out).odd (by omega) HP1.out HVY.out 0)
          have hy0 : ¬ ((y.toNat : Int) < 0) := by omega
          have hx16 := HX16.out
          have hy16 := HY16.out
          generalize x.toNat = xn at *
          generalize y.toNat = yn at *
          have HOL : Hid (O.length ≤ 140737488355000) := by have := HI.out.len; show _ ≤ _; omega
          have HBY : Hid (∀ (w : World) (z : Int), z = 16 * (xn : Int) + yn → ByAt (w.alloc (.cells #[.int .u8 z] (5 : TypeId))) (.slice (some ⟨w.heap.size, 0, none⟩) 1 1) [UInt8.ofNat (16 * xn + yn)]) := fun w z hz => by
            have := by_one w (UInt8.ofNat (16 * xn + yn))
            rwa [of_nat, show (16 * xn + yn) % 256 = 16 * xn + yn by omega, show ((16 * xn + yn : Nat) : Int) = z by omega] at this
          clear hv0 hv1 HDI HBG HG0 HG1 HV1 HV0 HVX HVY
          have HD0' := hidD HD0.out
          have HD1' := hidD HD1.out
          go_wp2_with first
            | (go_at_call 82; have := HX16; clear this HX16; refine (HD0.out _).mono ?_; rintro e w2 ⟨rfl, hw2⟩; subst w2; clear HD0)
            | (go_at_call 82; refine (HD1.out _).mono ?_; rintro e w2 ⟨rfl, hw2⟩; subst w2; clear HD1)
          have HKK : Hid (∀ w', Below wr.heap.size wr w' → ∃ i : KB wr [], w' = i.v) := fun w' hb => ⟨⟨w', fun y hy => by simp at hy⟩, rfl⟩
          have HDR : Hid (Below wr.heap.size wr wr.drew) := below_drewN (Below.refl _ _) 1
          refine wp_region_seg [0, 0, 0, 0, 1, 2, 0, 0, 0, 0, 3, 4, 4, 5, 99, 99] 3 14 [] (by kernel_rfl) (by kernel_rfl) (by kernel_rfl) (by kernel_rfl) (by kernel_rfl) (by kernel_rfl) (by kernel_rfl) (by kernel_rfl) (fun _ _ _ _ _ h => h) ?_
          simp only [SegW, pk, Nat.reduceMul, Nat.reduceAdd, Nat.reduceBEq, cond_true, cond_false]
          repeat (go_big_quiet_step (fail))
          refine wpQuiet_nil ?_
          go_wp2_with (go_at_call 82; refine (HD0'.out _).mono ?_; rintro e w2 ⟨rfl, hw2⟩; subst w2; clear HD0')
          refine ⟨HKK.out _ HDR.out, ?_⟩
          repeat (go_big_quiet_step (fail))
          refine wpQuiet_nil ?_
          go_wp2_with (go_at_call 82; refine (HD1'.out _).mono ?_; rintro e w2 ⟨rfl, hw2⟩; subst w2; clear HD1')
          refine ⟨HKK.out _ HDR.out, ?_⟩
          repeat (go_big_quiet_step (fail))
          refine wpQuiet_nil ?_
          go_wp2_with fail
          refine ⟨HKK.out _ (Below.next HDR.out ((Below.refl wr.drew.heap.size wr.drew).alloc (Nat.le_refl _) _)), ?_⟩
          repeat (go_big_quiet_step (fail))
          refine wpQuiet_nil ?_
          have HO3 := hidD (fun o => row_below HOW.out (Below.next HDR.out ((Below.refl wr.drew.heap.size wr.drew).alloc (Nat.le_refl _) o)))
          have HY3 := hidD (HBY.out wr.drew _ rfl)
          refine wpList_append_by rfl _ _ rfl w.heap.size (.slice a3 O.length c3) O.length (O.map encB) rfl ?_ (.slice (some ⟨wr.drew.heap.size, 0, none⟩) 1 1) [UInt8.ofNat (16 * xn + yn)] rfl ?_ ?_ ?_ ?_
          · exact HO3.out _
          · exact HY3.out
          · have := HOL.out; rw [List.length_singleton]; omega
          · have := HBL.out.size; show _ ≤ (wr.drew.heap.push _).size; rw [Array.size_push]; exact Nat.le_succ_of_le this
          intro v4 w4 hown4 hg4
          have HB4 : Hid (Below w.heap.size w w4) := row_grown (HO3.out (.cells #[.int .u8 (16 * (xn : Int) + (yn : Int))] (5 : TypeId))) (HBL.out.trans ((Below.next HDR.out ((Below.refl wr.drew.heap.size wr.drew).alloc (Nat.le_refl _) _)).mono HBL.out.size)) hg4 (by have := HBL.out.size; show _ ≤ (wr.drew.heap.push _).size; rw [Array.size_push]; exact Nat.le_succ_of_le this)
          have HO4 : Hid (w4.ownsRow w.heap.size 5 1 v4 (O ++ [UInt8.ofNat (16 * xn + yn)]).length ((O ++ [UInt8.ofNat (16 * xn + yn)]).map encB)) := by
            show World.ownsRow _ _ _ _ _ _ _
            simpa using hown4
          clear hown4 hg4 HO3 HY3
          go_wp2_with fail
          go_roundw
          case rel => exact ⟨O ++ [UInt8.ofNat (16 * xn + yn)], p + 2, by go_num, by omega, HNX.out, HO4.out, HB4.out⟩
          case measure => simp [intOf]; have := HP1.out; omega
    · have hpi : ¬ (p : Int) + 1 < B.size := by omega
      by_cases he : p = B.size
      · obtain ⟨rfl, h1, h2⟩ := HI.out.stop (by rw [← HSZ.out]; omega)
        have HU := hidD (h1 hp2)
        have h2b : ((B.size : Int) % 2 == 0) = true := by rw [beq_iff_eq, HSZ.out]; omega
        clear h1 h2 hp2 he HBG HDI HI
        go_wp2_with fail
        go_ret2
        refine ⟨a3, O.length, c3, true, ?_, fun b hb => ?_, fun hb => (by rw [HU.out] at hb; cases hb), HBL.out⟩
        · rfl
        · rw [HU.out] at hb; cases hb; exact ⟨rfl, HOW.out⟩
      · have HU : Hid (unS s = none) := un_odd (by rw [← HSZ.out]; omega)
        have h2b : ((B.size : Int) % 2 == 0) = false := by rw [beq_eq_false_iff_ne]; omega
        clear hp2 he HBG HDI HI
        go_wp2_with fail
        go_ret2
        refine ⟨a3, O.length, c3, false, ?_, fun b hb => (by rw [HU.out] at hb; cases hb), fun _ => rfl, HBL.out⟩
        rfl
end Go.Proofs.YtpemajghaceegaaGreatDoor
