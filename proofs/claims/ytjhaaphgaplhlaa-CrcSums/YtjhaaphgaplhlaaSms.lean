/- The walk of CrcSums. -/
import Derived.Test.YtjhaaphgaplhlaaRtb
namespace Go.Proofs.Ytjhaaphgaplhlaa
open Go.RowKit
set_option linter.unusedVariables false

set_option maxRecDepth 100000 in
set_option maxHeartbeats 2000000 in
theorem sums_of (m : Mw) (bs : List UInt8) (hl : bs.length ≤ 140737488355200) (vb : Bool) (S K R n : Nat) (f : Nat → Nat) (AP : List UInt8) (z za zr : Int)
    (hV1 : ∀ w, Calls Try.prog 25 #[m.v] w fun e w' => e = .returned (.bool vb) ∧ Below w.heap.size w w')
    (hV2 : ∀ w, Calls Try.prog 26 #[m.v] w fun e w' => e = .returned (.bool vb) ∧ Below w.heap.size w w')
    (hS1 : ∀ v w, ByAt w v bs → Calls Try.prog 24 #[m.v, v] w fun e w' => e = .returned (.tuple #[.int .u64 S, .int .i64 z]) ∧ Below w.heap.size w w')
    (hS2 : ∀ v w, ByAt w v bs → Calls Try.prog 19 #[m.v, v] w fun e w' => e = .returned (.tuple #[.int .u64 S, .int .i64 z]) ∧ Below w.heap.size w w')
    (hn : n ≤ 256)
    (hT1 : ∀ w, Calls Try.prog 29 #[m.v] w fun e w' => ∃ v, e = .returned (.tuple #[v, .int .i64 z]) ∧ NsAt w' .u64 v n f ∧ Below w.heap.size w w')
    (hT2 : ∀ w, Calls Try.prog 30 #[m.v] w fun e w' => ∃ v, e = .returned (.tuple #[v, .int .i64 z]) ∧ NsAt w' .u64 v n f ∧ Below w.heap.size w w')
    (hAl : AP.length ≤ 140737488355300)
    (hA1 : ∀ v w, ByAt w v bs → Calls Try.prog 32 #[m.v, v] w fun e w' => ∃ x, e = .returned (.tuple #[x, .int .i64 za]) ∧ w'.ownsRow w.heap.size 5 1 x AP.length (AP.map encB) ∧ Below w.heap.size w w')
    (hA2 : ∀ v w, ByAt w v bs → Calls Try.prog 33 #[m.v, v] w fun e w' => ∃ x, e = .returned (.tuple #[x, .int .i64 za]) ∧ w'.ownsRow w.heap.size 5 1 x AP.length (AP.map encB) ∧ Below w.heap.size w w')
    (hR1 : ∀ w, Calls Try.prog 34 #[m.v] w fun e w' => e = .returned (.tuple #[.int .u64 R, .int .i64 zr]) ∧ Below w.heap.size w w')
    (hR2 : ∀ w, Calls Try.prog 35 #[m.v] w fun e w' => e = .returned (.tuple #[.int .u64 R, .int .i64 zr]) ∧ Below w.heap.size w w')
    (hC1 : ∀ w, Calls Try.prog 36 #[m.v] w fun e w' => e = .returned (.tuple #[.int .u64 K, .int .i64 z]) ∧ Below w.heap.size w w')
    (hC2 : ∀ v w, ByAt w v chk → Calls Try.prog 19 #[m.v, v] w fun e w' => e = .returned (.tuple #[.int .u64 K, .int .i64 z]) ∧ Below w.heap.size w w')
    (sl : Value) (w : World) (hs : ByAt w sl bs) : Calls Try.prog 4 #[m.v, sl] w fun e w' => e = .returned (.bool true) ∧ Below w.heap.size w w' := by
  have HL := hidD live_any
  have HM := hidD (fun w => mine_any m w)
  have HT := hidD (fun w => theirs_any m w)
  have HN := hidD no_any
  have HV1 := hidD hV1
  have HV2 := hidD hV2
  have HS1 := hidD hS1
  have HS2 := hidD hS2
  have HT1 := hidD hT1
  have HT2 := hidD hT2
  have HA1 := hidD hA1
  have HA2 := hidD hA2
  have HR1 := hidD hR1
  have HR2 := hidD hR2
  have HC1 := hidD hC1
  have HC2 : Hid (∀ w0 : World, Calls Try.prog 19 #[m.v, .slice (some ⟨w0.heap.size, 0, none⟩) 9 9] (w0.alloc (.cells #[.int .u8 49, .int .u8 50, .int .u8 51, .int .u8 52, .int .u8 53, .int .u8 54, .int .u8 55, .int .u8 56, .int .u8 57] 5 (9, 10))) fun e w2 => e = .returned (.tuple #[.int .u64 K, .int .i64 z]) ∧ Below (w0.alloc (.cells #[.int .u8 49, .int .u8 50, .int .u8 51, .int .u8 52, .int .u8 53, .int .u8 54, .int .u8 55, .int .u8 56, .int .u8 57] 5 (9, 10))).heap.size (w0.alloc (.cells #[.int .u8 49, .int .u8 50, .int .u8 51, .int .u8 52, .int .u8 53, .int .u8 54, .int .u8 55, .int .u8 56, .int .u8 57] 5 (9, 10))) w2) := fun w0 => hC2 _ _ (chk_at w0 5)
  have HSB : Hid (∀ s1 s2 w, ByAt w s1 bs → ByAt w s2 bs → Calls Try.prog 28 #[s1, s2] w fun e w' => e = .returned (.bool true) ∧ Below w.heap.size w w') := fun s1 s2 w h1 h2 => sameBytes_same bs (by omega) s1 s2 w h1 h2
  have HSA : Hid (∀ s1 s2 w, ByAt w s1 AP → ByAt w s2 AP → Calls Try.prog 28 #[s1, s2] w fun e w' => e = .returned (.bool true) ∧ Below w.heap.size w w') := fun s1 s2 w h1 h2 => sameBytes_same AP (by omega) s1 s2 w h1 h2
  have HSL : Hid (∀ s1 s2 w, NsAt w .u64 s1 n f → NsAt w .u64 s2 n f → Calls Try.prog 31 #[s1, s2] w fun e w' => e = .returned (.bool true) ∧ Below w.heap.size w w') := fun s1 s2 w h1 h2 => sameLongs_same n f (by omega) s1 s2 w h1 h2
  have HOWN : Hid (∀ w', Below w.heap.size w w' → Calls Try.prog 21 #[sl] w' fun e w2 => ∃ v, e = .returned v ∧ w2.ownsRow w'.heap.size 5 1 v bs.length (bs.map encB) ∧ Below w'.heap.size w' w2) := fun w' h => own_any bs (by omega) _ w' (hs.below h (Nat.le_refl _))
  have HBY : Hid (∀ w', Below w.heap.size w w' → ByAt w' sl bs) := fun w' h => hs.below h (Nat.le_refl _)
  have HM0 := hidD (MwAt.new m w 46)
  have HSZ : Hid (w.heap.size < (w.alloc (.cells m.cells 46)).heap.size) := by show _ < _; simp
  have HB0 : Hid (Below w.heap.size w (w.alloc (.cells m.cells 46))) := (Below.refl _ _).alloc (Nat.le_refl _) _
  have HMN : Hid (∀ (w : World) (t : TypeId), MwAt (w.alloc (.cells m.cells t)) w.heap.size m) := fun w t => MwAt.new m w t
  have kc := conv_const
  clear hV1 hV2 hS1 hS2 hT1 hT2 hA1 hA2 hR1 hR2 hC1 hC2 hs
  obtain ⟨nm, W, P, I, inn, out, X⟩ := m
  simp only [Mw.v, Mw.cells] at *
  go_enter Try.func4, Try.ntmps4
  go_wp2_with (first
    | (go_at_call 22; refine (HM.out _).mono ?_; rintro e w1 ⟨rfl, hb1⟩; have HM1 := hidD (HM0.out.below hb1 HSZ.out); have HG1 := hidD (Nat.lt_of_lt_of_le HSZ.out hb1.size); have HB1 := hidD (Below.next HB0.out hb1); have HX := hidD (HMN.out w1 35); obtain ⟨k0, k1, k2, k3, k4, k5, k6⟩ := HM1.out.below ((Below.refl w1.heap.size w1).alloc (Nat.le_refl _) (.cells #[.string nm, .int .i64 W, .int .u64 P, .int .u64 I, .bool inn, .bool out, .int .u64 X] 35)) HG1.out; clear hb1)
    | (go_at_call 23; refine (HT.out _).mono ?_; rintro e w2 ⟨rfl, hb2⟩; clear k0 k1 k2 k3 k4 k5 k6; have HX2 := hidD (HX.out.below hb2 (by simp)); have HGX2 : Hid (w1.heap.size < w2.heap.size) := Nat.lt_of_lt_of_le (by simp) hb2.size; have HB2 := hidD (Below.next (Below.more HB1.out _) hb2); have HY := hidD (HMN.out w2 36); clear hb2)
    | (go_at_call 21; refine (HOWN.out _ (Below.more HB2.out _)).mono ?_; rintro e w5 ⟨vM, rfl, hown5, hb5⟩; have HX5 := hidD ((HX2.out.below ((Below.refl w2.heap.size w2).alloc (Nat.le_refl _) _) HGX2.out).below hb5 (Nat.lt_trans HGX2.out (by simp))); have HY5 := hidD (HY.out.below hb5 (by simp)); have HGX : Hid (w1.heap.size < w5.heap.size) := Nat.lt_of_lt_of_le (Nat.lt_trans HGX2.out (by simp)) hb5.size; have HGY : Hid (w2.heap.size < w5.heap.size) := Nat.lt_of_lt_of_le (by simp) hb5.size; have HB5 := hidD (Below.next (Below.more HB2.out _) hb5); have HMI := hidD (row_by hown5); have HQ := hidD (Below.refl w5.heap.size w5); obtain ⟨k0, k1, k2, k3, k4, k5, k6⟩ := HX5.out.below HQ.out HGX.out; obtain ⟨q0, q1, q2, q3, q4, q5, q6⟩ := HY5.out.below HQ.out HGY.out; simp only at k0 k1 k2 k3 k4 k5 k6 q0 q1 q2 q3 q4 q5 q6; clear hb5 hown5)
    | (go_at_call 24; refine (HS1.out _ _ (HMI.out.below HQ.out (Nat.le_refl _))).mono ?_; rintro e wz ⟨rfl, hbz⟩; have HQn := hidD (Below.next HQ.out hbz);  clear HQ hbz; have HQ := HQn; clear HQn; clear k0 k1 k2 k3 k4 k5 k6 q0 q1 q2 q3 q4 q5 q6; obtain ⟨k0, k1, k2, k3, k4, k5, k6⟩ := HX5.out.below HQ.out HGX.out; obtain ⟨q0, q1, q2, q3, q4, q5, q6⟩ := HY5.out.below HQ.out HGY.out; simp only at k0 k1 k2 k3 k4 k5 k6 q0 q1 q2 q3 q4 q5 q6)
    | (go_at_call 19; refine (HS2.out _ _ (HBY.out _ (Below.next HB5.out HQ.out))).mono ?_; rintro e w19 ⟨rfl, hbz⟩; have HQn := hidD (Below.next HQ.out hbz);  clear HQ hbz; have HQ := HQn; clear HQn; clear k0 k1 k2 k3 k4 k5 k6 q0 q1 q2 q3 q4 q5 q6; obtain ⟨k0, k1, k2, k3, k4, k5, k6⟩ := HX5.out.below HQ.out HGX.out; obtain ⟨q0, q1, q2, q3, q4, q5, q6⟩ := HY5.out.below HQ.out HGY.out; simp only at k0 k1 k2 k3 k4 k5 k6 q0 q1 q2 q3 q4 q5 q6))
  clear k0 k1 k2 k3 k4 k5 k6 q0 q1 q2 q3 q4 q5 q6
  have hclx : ∀ i : BW w19, MwAt i.v w1.heap.size ⟨nm, W, P, I, inn, out, X⟩ := fun i => HX5.out.below (Below.next HQ.out i.below) HGX.out
  have hcly : ∀ i : BW w19, MwAt i.v w2.heap.size ⟨nm, W, P, I, inn, out, X⟩ := fun i => HY5.out.below (Below.next HQ.out i.below) HGY.out
  have k0 := fun i => (hclx i).c0
  have q0 := fun i => (hcly i).c0
  have k1 := fun i => (hclx i).c1
  have q1 := fun i => (hcly i).c1
  have k2 := fun i => (hclx i).c2
  have q2 := fun i => (hcly i).c2
  have k3 := fun i => (hclx i).c3
  have q3 := fun i => (hcly i).c3
  have k4 := fun i => (hclx i).c4
  have q4 := fun i => (hcly i).c4
  have k5 := fun i => (hclx i).c5
  have q5 := fun i => (hcly i).c5
  have k6 := fun i => (hclx i).c6
  have q6 := fun i => (hcly i).c6
  simp only at k0 k1 k2 k3 k4 k5 k6 q0 q1 q2 q3 q4 q5 q6
  clear hclx hcly
  refine wp_region_below (by kernel_rfl) (by kernel_rfl) ?_
  repeat (go_big_quiet_step ((first | (go_at_call 25; exact Calls.below_of (HV1.out _)) | (go_at_call 26; exact Calls.below_of (HV2.out _)) | (go_at_call 27; exact Calls.below_of (HN.out _ _)) | (go_at_call 28; exact Calls.below_of (HSB.out _ _ _ (HMI.out.below (Below.next HQ.out (BW.below _)) (Nat.le_refl _)) (HBY.out _ (Below.next HB5.out (Below.next HQ.out (BW.below _)))))) | (go_at_call 13; exact Calls.below_of (HL.out _)))))
  refine wpQuiet_nil ?_
  intro i
  have HQi := hidD (Below.next HQ.out i.below)
  clear HQ k0 k1 k2 k3 k4 k5 k6 q0 q1 q2 q3 q4 q5 q6
  have HQ := HQi
  clear HQi
  generalize i.v = w20 at *
  obtain ⟨k0, k1, k2, k3, k4, k5, k6⟩ := HX5.out.below HQ.out HGX.out
  obtain ⟨q0, q1, q2, q3, q4, q5, q6⟩ := HY5.out.below HQ.out HGY.out
  simp only at k0 k1 k2 k3 k4 k5 k6 q0 q1 q2 q3 q4 q5 q6
  go_wp2_with (first
    | (go_at_call 29; refine (HT1.out _).mono ?_; rintro e wz ⟨v29, rfl, hns29, hbz⟩; have HQn := hidD (Below.next HQ.out hbz); have HN29 := hidD hns29; clear hns29; clear HQ hbz; have HQ := HQn; clear HQn; clear k0 k1 k2 k3 k4 k5 k6 q0 q1 q2 q3 q4 q5 q6; obtain ⟨k0, k1, k2, k3, k4, k5, k6⟩ := HX5.out.below HQ.out HGX.out; obtain ⟨q0, q1, q2, q3, q4, q5, q6⟩ := HY5.out.below HQ.out HGY.out; simp only at k0 k1 k2 k3 k4 k5 k6 q0 q1 q2 q3 q4 q5 q6)
    | (go_at_call 30; refine (HT2.out _).mono ?_; rintro e wz ⟨v30, rfl, hns30, hbz⟩; have HQn := hidD (Below.next HQ.out hbz); have HN29b := hidD (HN29.out.below hbz); have HN30 := hidD hns30; clear hns30; clear HQ hbz; have HQ := HQn; clear HQn; clear k0 k1 k2 k3 k4 k5 k6 q0 q1 q2 q3 q4 q5 q6; obtain ⟨k0, k1, k2, k3, k4, k5, k6⟩ := HX5.out.below HQ.out HGX.out; obtain ⟨q0, q1, q2, q3, q4, q5, q6⟩ := HY5.out.below HQ.out HGY.out; simp only at k0 k1 k2 k3 k4 k5 k6 q0 q1 q2 q3 q4 q5 q6)
    | (go_at_call 31; refine (HSL.out _ _ _ HN29b.out HN30.out).mono ?_; rintro e wz ⟨rfl, hbz⟩; have HQn := hidD (Below.next HQ.out hbz);  clear HQ hbz; have HQ := HQn; clear HQn; clear k0 k1 k2 k3 k4 k5 k6 q0 q1 q2 q3 q4 q5 q6; obtain ⟨k0, k1, k2, k3, k4, k5, k6⟩ := HX5.out.below HQ.out HGX.out; obtain ⟨q0, q1, q2, q3, q4, q5, q6⟩ := HY5.out.below HQ.out HGY.out; simp only at k0 k1 k2 k3 k4 k5 k6 q0 q1 q2 q3 q4 q5 q6)
    | (go_at_call 27; refine (HN.out _ _).mono ?_; rintro e wz ⟨rfl, hbz⟩; have HQn := hidD (Below.next HQ.out hbz); have HO32d := hidD (row_below HO32c.out hbz); clear HO32c; clear HQ hbz; have HQ := HQn; clear HQn; clear k0 k1 k2 k3 k4 k5 k6 q0 q1 q2 q3 q4 q5 q6; obtain ⟨k0, k1, k2, k3, k4, k5, k6⟩ := HX5.out.below HQ.out HGX.out; obtain ⟨q0, q1, q2, q3, q4, q5, q6⟩ := HY5.out.below HQ.out HGY.out; simp only at k0 k1 k2 k3 k4 k5 k6 q0 q1 q2 q3 q4 q5 q6)
    | (go_at_call 27; refine (HN.out _ _).mono ?_; rintro e wz ⟨rfl, hbz⟩; have HQn := hidD (Below.next HQ.out hbz);  clear HQ hbz; have HQ := HQn; clear HQn; clear k0 k1 k2 k3 k4 k5 k6 q0 q1 q2 q3 q4 q5 q6; obtain ⟨k0, k1, k2, k3, k4, k5, k6⟩ := HX5.out.below HQ.out HGX.out; obtain ⟨q0, q1, q2, q3, q4, q5, q6⟩ := HY5.out.below HQ.out HGY.out; simp only at k0 k1 k2 k3 k4 k5 k6 q0 q1 q2 q3 q4 q5 q6)
    | (go_at_call 32; refine (HA1.out _ _ (HMI.out.below HQ.out (Nat.le_refl _))).mono ?_; rintro e wz ⟨x32, rfl, ho32, hbz⟩; have HQn := hidD (Below.next HQ.out hbz); obtain ⟨ax, cx, rfl⟩ := row_shape ho32; have HO32 := hidD (row_mono ho32 HQ.out.size); clear ho32; clear HQ hbz; have HQ := HQn; clear HQn; clear k0 k1 k2 k3 k4 k5 k6 q0 q1 q2 q3 q4 q5 q6; obtain ⟨k0, k1, k2, k3, k4, k5, k6⟩ := HX5.out.below HQ.out HGX.out; obtain ⟨q0, q1, q2, q3, q4, q5, q6⟩ := HY5.out.below HQ.out HGY.out; simp only at k0 k1 k2 k3 k4 k5 k6 q0 q1 q2 q3 q4 q5 q6)
    | (go_at_call 33; refine (HA2.out _ _ (HBY.out _ (Below.next HB5.out HQ.out))).mono ?_; rintro e wz ⟨x33, rfl, ho33, hbz⟩; have HQn := hidD (Below.next HQ.out hbz); have HO32b := hidD (row_below HO32.out hbz); have HY33 := hidD (row_by ho33); clear ho33 HO32; clear HQ hbz; have HQ := HQn; clear HQn; clear k0 k1 k2 k3 k4 k5 k6 q0 q1 q2 q3 q4 q5 q6; obtain ⟨k0, k1, k2, k3, k4, k5, k6⟩ := HX5.out.below HQ.out HGX.out; obtain ⟨q0, q1, q2, q3, q4, q5, q6⟩ := HY5.out.below HQ.out HGY.out; simp only at k0 k1 k2 k3 k4 k5 k6 q0 q1 q2 q3 q4 q5 q6)
    | (go_at_call 28; refine (HSA.out _ _ _ (row_by HO32b.out) HY33.out).mono ?_; rintro e wz ⟨rfl, hbz⟩; have HQn := hidD (Below.next HQ.out hbz); have HO32c := hidD (row_below HO32b.out hbz); clear HO32b; clear HQ hbz; have HQ := HQn; clear HQn; clear k0 k1 k2 k3 k4 k5 k6 q0 q1 q2 q3 q4 q5 q6; obtain ⟨k0, k1, k2, k3, k4, k5, k6⟩ := HX5.out.below HQ.out HGX.out; obtain ⟨q0, q1, q2, q3, q4, q5, q6⟩ := HY5.out.below HQ.out HGY.out; simp only at k0 k1 k2 k3 k4 k5 k6 q0 q1 q2 q3 q4 q5 q6))
  clear k0 k1 k2 k3 k4 k5 k6 q0 q1 q2 q3 q4 q5 q6
  have HAL : Hid (∀ j, j < AP.length → ∃ b : Nat, b < 256 ∧ (AP.map encB)[j]? = some (.int .u8 (b : Int))) := fun j hj => ⟨(AP[j]).toNat, (AP[j]).toNat_lt, by rw [List.getElem?_map, List.getElem?_eq_getElem hj]; rfl⟩
  go_loopw [16] (fun i wr => ∃ (k : Nat) (xs : List Value), k ≤ AP.length ∧ i = .int .i64 k ∧ wr.ownsRow w5.heap.size 5 1 (.slice ax AP.length cx) AP.length xs ∧ (∀ j, j < AP.length → ∃ b : Nat, b < 256 ∧ xs[j]? = some (.int .u8 (b : Int))) ∧ Below w5.heap.size w5 wr) (fun i _ => AP.length - (intOf i).toNat)
  case atStart => exact ⟨0, AP.map encB, Nat.zero_le _, rfl, HO32d.out, HAL.out, HQ.out⟩
  case round =>
    clear HO32d HQ
    obtain ⟨k, xs, hk, rfl, hown, hxs, hbel⟩ := hrel
    have HBL := hidD hbel
    by_cases hlt : k < AP.length
    · obtain ⟨gc, cc, hsh, hgb, hgl, _⟩ := row_shapeC hown (by omega)
      simp only [Value.slice.injEq] at hsh
      obtain ⟨rfl, _, rfl⟩ := hsh
      obtain ⟨b, hb256, hxb⟩ := hxs k hlt
      have hce : wr.cell? ⟨gc, k, none⟩ = some (.int .u8 (b : Int)) := by rw [hown.cellAt k (by omega)]; exact hxb
      have hfr := hown.frozenAt k
      have HST := hidD (fun u => (hown.stored k u).1)
      have hlti : (k : Int) < AP.length := by omega
      have HXS : Hid (∀ c : Nat, c < 256 → ∀ j, j < AP.length → ∃ b : Nat, b < 256 ∧ (xs.set k (.int .u8 (c : Int)))[j]? = some (.int .u8 (b : Int))) := fun c hc j hj => by
        rw [List.getElem?_set]
        by_cases hkj : k = j
        · have hxl : k < xs.length := by have := hown.1; omega
          rw [if_pos hkj, if_pos (by omega)]; exact ⟨c, hc, rfl⟩
        · rw [if_neg hkj]; exact hxs j hj
      have HGB := hidD hgb
      obtain ⟨c, hc, hc2⟩ : ∃ c : Nat, c < 256 ∧ ((b : Int) + 1) % 256 = (c : Int) := ⟨(b + 1) % 256, by omega, by omega⟩
      have HCC := hidD hc
      clear hown hxs hxb hbel hgb hc
      generalize AP.length = nA at *
      go_wp2_with fail
      go_roundw
      case rel => exact ⟨k + 1, _, by omega, by go_num, HST.out _, HXS.out c HCC.out, HBL.out.setCell (p := ⟨gc, k, none⟩) HGB.out _⟩
      case measure => simp [intOf]; omega
    · have HQ := HBL
      obtain ⟨k0, k1, k2, k3, k4, k5, k6⟩ := HX5.out.below HQ.out HGX.out
      obtain ⟨q0, q1, q2, q3, q4, q5, q6⟩ := HY5.out.below HQ.out HGY.out
      simp only at k0 k1 k2 k3 k4 k5 k6 q0 q1 q2 q3 q4 q5 q6
      clear hown hxs hbel
      go_wp2_with (first
        | (go_at_call 34; refine (HR1.out _).mono ?_; rintro e wz ⟨rfl, hbz⟩; have HQn := hidD (Below.next HQ.out hbz);  clear HQ hbz; have HQ := HQn; clear HQn; clear k0 k1 k2 k3 k4 k5 k6 q0 q1 q2 q3 q4 q5 q6; obtain ⟨k0, k1, k2, k3, k4, k5, k6⟩ := HX5.out.below HQ.out HGX.out; obtain ⟨q0, q1, q2, q3, q4, q5, q6⟩ := HY5.out.below HQ.out HGY.out; simp only at k0 k1 k2 k3 k4 k5 k6 q0 q1 q2 q3 q4 q5 q6)
        | (go_at_call 35; refine (HR2.out _).mono ?_; rintro e wz ⟨rfl, hbz⟩; have HQn := hidD (Below.next HQ.out hbz);  clear HQ hbz; have HQ := HQn; clear HQn; clear k0 k1 k2 k3 k4 k5 k6 q0 q1 q2 q3 q4 q5 q6; obtain ⟨k0, k1, k2, k3, k4, k5, k6⟩ := HX5.out.below HQ.out HGX.out; obtain ⟨q0, q1, q2, q3, q4, q5, q6⟩ := HY5.out.below HQ.out HGY.out; simp only at k0 k1 k2 k3 k4 k5 k6 q0 q1 q2 q3 q4 q5 q6)
        | (go_at_call 36; refine (HC1.out _).mono ?_; rintro e wz ⟨rfl, hbz⟩; have HQn := hidD (Below.next HQ.out hbz);  clear HQ hbz; have HQ := HQn; clear HQn; clear k0 k1 k2 k3 k4 k5 k6 q0 q1 q2 q3 q4 q5 q6; obtain ⟨k0, k1, k2, k3, k4, k5, k6⟩ := HX5.out.below HQ.out HGX.out; obtain ⟨q0, q1, q2, q3, q4, q5, q6⟩ := HY5.out.below HQ.out HGY.out; simp only at k0 k1 k2 k3 k4 k5 k6 q0 q1 q2 q3 q4 q5 q6)
        | (go_at_call 19; refine (HC2.out _).mono ?_; rintro e wz ⟨rfl, hbz⟩; have HQn := hidD (Below.next (Below.more HQ.out _) hbz);  clear HQ hbz; have HQ := HQn; clear HQn; clear k0 k1 k2 k3 k4 k5 k6 q0 q1 q2 q3 q4 q5 q6; obtain ⟨k0, k1, k2, k3, k4, k5, k6⟩ := HX5.out.below HQ.out HGX.out; obtain ⟨q0, q1, q2, q3, q4, q5, q6⟩ := HY5.out.below HQ.out HGY.out; simp only at k0 k1 k2 k3 k4 k5 k6 q0 q1 q2 q3 q4 q5 q6)
        | (go_at_call 28; refine (HSB.out _ _ _ (HMI.out.below HQ.out (Nat.le_refl _)) (HBY.out _ (Below.next HB5.out HQ.out))).mono ?_; rintro e wz ⟨rfl, hbz⟩; have HQn := hidD (Below.next HQ.out hbz);  clear HQ hbz; have HQ := HQn; clear HQn; clear k0 k1 k2 k3 k4 k5 k6 q0 q1 q2 q3 q4 q5 q6; obtain ⟨k0, k1, k2, k3, k4, k5, k6⟩ := HX5.out.below HQ.out HGX.out; obtain ⟨q0, q1, q2, q3, q4, q5, q6⟩ := HY5.out.below HQ.out HGY.out; simp only at k0 k1 k2 k3 k4 k5 k6 q0 q1 q2 q3 q4 q5 q6)
        | (go_at_call 27; refine (HN.out _ _).mono ?_; rintro e wz ⟨rfl, hbz⟩; have HQn := hidD (Below.next HQ.out hbz);  clear HQ hbz; have HQ := HQn; clear HQn; clear k0 k1 k2 k3 k4 k5 k6 q0 q1 q2 q3 q4 q5 q6; obtain ⟨k0, k1, k2, k3, k4, k5, k6⟩ := HX5.out.below HQ.out HGX.out; obtain ⟨q0, q1, q2, q3, q4, q5, q6⟩ := HY5.out.below HQ.out HGY.out; simp only at k0 k1 k2 k3 k4 k5 k6 q0 q1 q2 q3 q4 q5 q6))
      go_ret
      exact ⟨rfl, Below.next HB5.out HQ.out⟩
end Go.Proofs.Ytjhaaphgaplhlaa
