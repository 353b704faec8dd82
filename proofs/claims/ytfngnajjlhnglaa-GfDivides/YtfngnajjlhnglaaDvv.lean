/- GfDivides' walk, the other cases. -/
import Derived.Test.YtfngnajjlhnglaaDvs
namespace Go.Proofs.Ytfngnajjlhnglaa
open Go.RowKit
set_option linter.unusedVariables false

set_option maxRecDepth 100000 in
set_option maxHeartbeats 4000000 in
theorem divides_nn (p q : List UInt8) (x : UInt8) (hy : evalS 29 x p ≠ 0) (hq0 : trimS q ≠ []) (hpl : p.length ≤ 140737488351232) (hql : q.length ≤ 140737488351232) (vp vq : Value) (w : World) (hp : SlAt w vp p) (hq : SlAt w vq q) : Calls Try.prog 8 #[vp, vq, .int .u8 (x.toNat : Int)] w fun e w' => e = .returned (.bool true) ∧ Below w.heap.size w w' := by
  have HA := hidD (fun w => alive_any w)
  have HN := hidD (fun w => new_ok 29 2 285 rfl irr_d one_d w)
  have HSP := hidD (fun (w' : World) (h : Below w.heap.size w w') => hp.next h)
  have HSQ := hidD (fun (w' : World) (h : Below w.heap.size w w') => hq.next h)
  have HT1 := hidD (fun w' k (h : Kept k vp vq p q w') => times_any one_d p q (by omega) vp vq w' h.1 h.2.1 h.2.2)
  have HPL := hidD (fun w' k (h : Kept k vp vq p q w') => plus_any (b := k) p q (by omega) (by omega) vp vq w' h.2.1 h.2.2)
  have HE1 := hidD (fun w' k v (h : Kept k vp vq p q w') (hv : SlAt w' v (mulS 29 p q)) => eval_any one_d (mulS 29 p q) x v w' h.1 hv)
  rw [eval_mul] at HE1
  have HE4 := hidD (fun w' k v (h : Kept k vp vq p q w') (hv : SlAt w' v (trimS (plusS p q))) => eval_any one_d (trimS (plusS p q)) x v w' h.1 hv)
  rw [eval_trim, eval_plus] at HE4
  have HEP := hidD (fun w' k (h : Kept k vp vq p q w') => eval_any one_d p x vp w' h.1 h.2.1)
  have HEQ := hidD (fun w' k (h : Kept k vp vq p q w') => eval_any one_d q x vq w' h.1 h.2.2)
  have HM := hidD (fun w' k (h : Kept k vp vq p q w') => mul_any one_d (evalS 29 x p) (evalS 29 x q) w' h.1)
  have hxx := u8_xor_nat (evalS 29 x p).toNat (evalS 29 x q).toNat (u8_lt _) (u8_lt _)
  rw [← UInt8.toNat_xor] at hxx
  have hrl := root_left one_d p x
  have HD1 := hidD (fun w' k v (h : Kept k vp vq p q w') (hv : SlAt w' v [x, 1]) => divide_any one_d p [x, 1] (by rw [hrl.1]; simp) (by omega) vp v w' h.1 h.2.1 hv)
  rw [hrl.2, if_neg hy] at HD1
  have HD2 := hidD (fun w' k (h : Kept k vp vq p q w') => divide_any one_d p q hq0 (by omega) vp vq w' h.1 h.2.1 h.2.2)
  have HTQ := hidD (fun w' k (h : Kept k vp vq p q w') => refTrim_any q (by omega) vq w' h.2.2)
  have HTP := hidD (fun w' k (h : Kept k vp vq p q w') => refTrim_any p (by omega) vp w' h.2.1)
  have hq1 := quo_length' 29 p q hq0
  have hq2 := mul_length 29 (quoS 29 p q) q
  have hq3 := mod_length 29 p q
  have hshort := mod_short one_d (p := p) hq0
  have HT2 := hidD (fun w' k v (h : Kept k vp vq p q w') (hv : SlAt w' v (quoS 29 p q)) => times_any one_d (quoS 29 p q) q (by omega) v vq w' h.1 hv h.2.2)
  have HP2 := hidD (fun w' k v u (h : Kept k vp vq p q w') (hv : SlAt w' v (mulS 29 (quoS 29 p q) q)) (hu : SlAt w' u (modS 29 p q)) => plus_any (b := k) (mulS 29 (quoS 29 p q) q) (modS 29 p q) (by omega) (by omega) v u w' hv hu)
  rw [div_back one_d hq0] at HP2
  have HBY := hidD (fun w' v u (hv : SlAt w' v (trimS p)) (hu : SlAt w' u (trimS p)) => bytes_any (trimS p) (trimS p) v u w' hv.by' hu.by')
  have hbt : decide (trimS p = trimS p) = true := by simp
  rw [hbt] at HBY
  clear hbt hq1 hq2 hq3
  have HBR := hidD (fun w' v u (hv : SlAt w' v [evalS 29 x p]) (hu : SlAt w' u [evalS 29 x p]) => bytes_any [evalS 29 x p] [evalS 29 x p] v u w' hv.by' hu.by')
  have hbr : decide ([evalS 29 x p] = [evalS 29 x p]) = true := by simp
  rw [hbr] at HBR
  clear hbr
  have hy0 := u8_ne hy
  have hyb := u8_bne hy
  have HS1 := hidD (fun w' => sl_one w' (evalS 29 x p))
  have HS2 := hidD (fun w' => sl_two w' x)
  have HAL : Hid (∀ (w' : World) o, Below w'.heap.size w' (w'.alloc o)) := fun w' o => (Below.refl _ _).alloc (Nat.le_refl _) o
  obtain ⟨⟨ap, cp, rfl, hcp1, hcp2⟩, hpb⟩ := hp
  obtain ⟨⟨aq, cq, rfl, hcq1, hcq2⟩, hqb⟩ := hq
  clear hpb hqb hcp1 hcp2 hcq1 hcq2 hpl hql hrl
  generalize ((bm 29 (evalS 29 x p) (evalS 29 x q)).toNat : Int) = X1 at *
  generalize ((evalS 29 x p ^^^ evalS 29 x q).toNat : Int) = X2 at *
  have HEP1 := hidD HEP.out
  have HEP2 := hidD HEP.out
  have HEP3 := hidD HEP.out
  have HEQ1 := hidD HEQ.out
  have HEQ2 := hidD HEQ.out
  clear HEP HEQ
  generalize hyg : evalS 29 x p = Y at *
  generalize hzg : evalS 29 x q = Z at *
  clear hyg hzg hy
  generalize (Z.toNat : Int) = zv at *
  have hsi : ((modS 29 p q).length : Int) < ((trimS q).length : Int) := by omega
  generalize mulS 29 (quoS 29 p q) q = lMU at *
  generalize quoS 29 p q = lQU at *
  generalize modS 29 p q = lMO at *
  generalize trimS q = lTQ at *
  clear hshort
  generalize trimS (plusS p q) = lPS at *
  generalize mulS 29 p q = lM1 at *
  generalize trimS p = lTP at *
  generalize p.length = lp at *
  generalize q.length = lq at *
  go_enter Try.func8, Try.ntmps8
  go_wp2_with (first
    | (go_at_call 15; refine (HA.out _).mono ?_; rintro e w0 ⟨rfl, hb0⟩; have HB := hidD hb0; clear hb0 HA)
    | (go_at_call 16; refine (HN.out _).mono ?_; rintro e w1 ⟨k, rfl, hwb, hfd, hb3⟩; have HB := hidD (Below.next HB.out hb3); have HK : Hid (Kept k _ _ p q w1) := ⟨hfd, HSP.out _ HB.out, HSQ.out _ HB.out⟩; clear hb3 hwb hfd HN)
    | (go_at_call 37; refine (HT1.out _ _ HK.out).mono ?_; rintro e w3 ⟨v1, rfl, hs3, hb3⟩; have HV1 := hidD hs3; have HK := hidD (HK.out.next hb3); have HB := hidD (Below.next HB.out hb3); clear hb3 hs3 HT1)
    | (go_at_call 32; refine (HE1.out _ _ _ HK.out HV1.out).mono ?_; rintro e w3 ⟨rfl, hb3⟩; have HK := hidD (HK.out.next hb3); have HB := hidD (Below.next HB.out hb3); clear hb3 HE1)
    | (go_at_call 32; refine (HEP1.out _ _ HK.out).mono ?_; rintro e w3 ⟨rfl, hb3⟩; have HK := hidD (HK.out.next hb3); have HB := hidD (Below.next HB.out hb3); clear hb3 HEP1)
    | (go_at_call 32; refine (HEQ1.out _ _ HK.out).mono ?_; rintro e w3 ⟨rfl, hb3⟩; have HK := hidD (HK.out.next hb3); have HB := hidD (Below.next HB.out hb3); clear hb3 HEQ1)
    | (go_at_call 26; refine (HM.out _ _ HK.out).mono ?_; rintro e w3 ⟨rfl, hb3⟩; have HK := hidD (HK.out.next hb3); have HB := hidD (Below.next HB.out hb3); clear hb3 HM)
    | (go_at_call 35; refine (HPL.out _ _ HK.out).mono ?_; rintro e w3 ⟨v2, rfl, hs3, hb3⟩; have HV2 := hidD hs3; have HK := hidD (HK.out.next hb3); have HB := hidD (Below.next HB.out hb3); clear hb3 hs3 HPL)
    | (go_at_call 32; refine (HE4.out _ _ _ HK.out HV2.out).mono ?_; rintro e w3 ⟨rfl, hb3⟩; have HK := hidD (HK.out.next hb3); have HB := hidD (Below.next HB.out hb3); clear hb3 HE4)
    | (go_at_call 32; refine (HEP2.out _ _ HK.out).mono ?_; rintro e w3 ⟨rfl, hb3⟩; have HK := hidD (HK.out.next hb3); have HB := hidD (Below.next HB.out hb3); clear hb3 HEP2)
    | (go_at_call 32; refine (HEQ2.out _ _ HK.out).mono ?_; rintro e w3 ⟨rfl, hb3⟩; have HK := hidD (HK.out.next hb3); have HB := hidD (Below.next HB.out hb3); clear hb3 HEQ2)
    | (go_at_call 30; refine (HD1.out _ _ _ (HK.out.next (HAL.out _ _)) (HS2.out _)).mono ?_; rintro e w3 ⟨va, vr, rfl, hsa, hsr, hb3⟩; have HK := hidD ((HK.out.next (HAL.out _ _)).next hb3); have HB := hidD (Below.next (Below.next HB.out (HAL.out _ _)) hb3); obtain ⟨⟨ar, cr, rfl, hcr1, hcr2⟩, hrb⟩ := hsr; have HVR : Hid (SlAt w3 (.slice ar 1 cr) [Y]) := ⟨⟨ar, cr, rfl, hcr1, hcr2⟩, hrb⟩; clear hb3 hsa hcr1 hcr2 hrb HD1)
    | (go_at_call 32; refine (HEP3.out _ _ HK.out).mono ?_; rintro e w3 ⟨rfl, hb3⟩; have HK := hidD (HK.out.next hb3); have HB := hidD (Below.next HB.out hb3); have HVR := hidD (HVR.out.next hb3); clear hb3 HEP3)
    | (go_at_call 34; refine (HBR.out (w3.alloc (.cells #[.int .u8 (Y.toNat : Int)] (5 : TypeId))) (.slice ar 1 cr) (.slice (some ⟨w3.heap.size, 0, none⟩) 1 1) (HVR.out.next (HAL.out _ _)) (HS1.out w3)).mono ?_; rintro e w4 ⟨rfl, hb4⟩; have HK := hidD (HK.out.next (HAL.out w3 (.cells #[.int .u8 (Y.toNat : Int)] (5 : TypeId)))); have HB := hidD (Below.next HB.out (HAL.out w3 (.cells #[.int .u8 (Y.toNat : Int)] (5 : TypeId)))); clear HBR)
    | (go_at_call 30; refine (HD2.out _ _ HK.out).mono ?_; rintro e w3 ⟨v3, v4, rfl, hs3, hs4, hb3⟩; have HV3 := hidD hs3; obtain ⟨⟨a4, c4, rfl, hc41, hc42⟩, hs4b⟩ := hs4; have HV4 : Hid (SlAt w3 _ lMO) := ⟨⟨_, _, rfl, hc41, hc42⟩, hs4b⟩; have HK := hidD (HK.out.next hb3); have HB := hidD (Below.next HB.out hb3); clear hb3 hs3 hs4b hc41 hc42 HD2)
    | (go_at_call 47; refine (HTQ.out _ _ HK.out).mono ?_; rintro e w3 ⟨v5, rfl, hs3, hb3⟩; obtain ⟨⟨a5, c5, rfl, hc51, hc52⟩, hs5b⟩ := hs3; have HK := hidD (HK.out.next hb3); have HB := hidD (Below.next HB.out hb3); have HV3 := hidD (HV3.out.next hb3); have HV4 := hidD (HV4.out.next hb3); clear hb3 hs5b hc51 hc52 HTQ)
    | (go_at_call 37; refine (HT2.out _ _ _ HK.out HV3.out).mono ?_; rintro e w3 ⟨v6, rfl, hs3, hb3⟩; have HV6 := hidD hs3; have HV4 := hidD (HV4.out.next hb3); have HK := hidD (HK.out.next hb3); have HB := hidD (Below.next HB.out hb3); clear hb3 hs3 HT2)
    | (go_at_call 35; refine (HP2.out _ _ _ _ HK.out HV6.out HV4.out).mono ?_; rintro e w3 ⟨v7, rfl, hs3, hb3⟩; have HV7 := hidD hs3; have HK := hidD (HK.out.next hb3); have HB := hidD (Below.next HB.out hb3); clear hb3 hs3 HP2)
    | (go_at_call 47; refine (HTP.out _ _ HK.out).mono ?_; rintro e w3 ⟨v8, rfl, hs3, hb3⟩; have HV8 := hidD hs3; have HV7 := hidD (HV7.out.next hb3); have HK := hidD (HK.out.next hb3); have HB := hidD (Below.next HB.out hb3); clear hb3 hs3 HTP)
    | (go_at_call 34; refine (HBY.out _ _ _ HV7.out HV8.out).mono ?_; rintro e w4 ⟨rfl, hb4⟩; clear HBY))
  go_ret
  exact ⟨rfl, HB.out⟩
end Go.Proofs.Ytfngnajjlhnglaa
