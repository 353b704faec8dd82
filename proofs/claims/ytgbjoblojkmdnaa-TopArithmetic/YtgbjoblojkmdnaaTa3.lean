/- The walk of TopArithmetic (decimal: true, carry: true). -/
import Derived.Test.YtgbjoblojkmdnaaTar
import Derived.Test.YtgbjoblojkmdnaaTaq
import Derived.Test.YtgbjoblojkmdnaaTas
import Derived.Test.YtgbjoblojkmdnaaAlf
import Derived.Test.YtgbjoblojkmdnaaAlm
import Derived.Test.YtgbjoblojkmdnaaQuietB
namespace Go.Proofs.Ytgbjoblojkmdnaa
open Go.RowKit
set_option linter.unusedVariables false

set_option maxRecDepth 100000 in
set_option maxHeartbeats 16000000 in
theorem top_11 (LA LB ca cb n : Nat) (aa ab : Option Addr) (u v : Nat → Nat) (hu : ∀ j, u j < 256) (hv : ∀ j, v j < 256) (w : World) (hLA : LA ≤ 140737488351232) (hLB : LB ≤ 140737488351232) (hn7 : n ≤ 7) (hnA : n ≤ LA) (hnB : n ≤ LB) (m : Nat) (em0 : (if (LB : Int) < (LA : Int) then (LB : Int) else (LA : Int)) = (m : Int)) (em1 : (if LB < LA then (LB : Int) else (LA : Int)) = (m : Int)) (em2 : (if (7 : Int) < (m : Int) then 7 else (m : Int)) = (n : Int)) (em3 : (if 7 < m then (7 : Int) else (m : Int)) = (n : Int))
    (HRA : Hid (∀ wr, Below w.heap.size w wr → ∀ k, k < n → ∃ g off, aa = some ⟨g, off, none⟩ ∧ wr.cell? ⟨g, off + k, none⟩ = some (.int .u8 (u k : Int))))
    (HRB : Hid (∀ wr, Below w.heap.size w wr → ∀ k, k < n → ∃ g off, ab = some ⟨g, off, none⟩ ∧ wr.cell? ⟨g, off + k, none⟩ = some (.int .u8 (v k : Int)))) :
    Calls Try.prog 3 #[.slice aa LA ca, .slice ab LB cb, .bool true, .bool true] w fun e w' => e = .returned (.bool true) ∧ Below w.heap.size w w' := by
  have HU := hidD hu
  have HV := hidD hv
  have HA2 : Hid (W1 6 #[.int .u8 2, .int .u8 3, .int .u8 0] (.tuple #[.int .u8 5, .int .u8 0])) := by
    have h := add_any 2 3 0 (by decide) (by decide) (by decide)
    rw [show addV 2 3 0 = 5 from by decide +kernel, show addF 2 3 0 = 0 from by decide +kernel] at h
    exact h
  clear hu hv
  have ec : bits .and .u8 9 1 = 1 := by decide +kernel
  have eo : bits .or .u8 8 1 = 9 := by decide +kernel
  have hlc : (n : Int) ≤ 7 := by omega
  go_enter Try.func3, Try.ntmps3
  go_wp2_with fail
  go_loopw [14, 15, 16] (fun l m i wr => ∃ k : Nat, k ≤ n ∧ i = .int .i64 k ∧ wr.ownsRow w.heap.size 5 1 l k (numC (fun j => gN true (u j)) k) ∧ wr.ownsRow w.heap.size 5 1 m k (numC (fun j => gN true (v j)) k) ∧ Apart l m ∧ Below w.heap.size w wr) (fun _ _ i _ => n - (intOf i).toNat)
  case atStart => exact ⟨0, Nat.zero_le _, rfl, World.ownsRow_nil _ _ _ _, World.ownsRow_nil _ _ _ _, .inl rfl, Below.refl _ _⟩
  case round =>
    obtain ⟨k, hk, rfl, hl, hm, hap, hbel⟩ := hrel
    obtain ⟨ad1, cd1, hde1⟩ := row_shape hl
    obtain ⟨ad2, cd2, hde2⟩ := row_shape hm
    subst hde1 hde2
    have HBL := hidD hbel
    have hwz := hbel.size
    by_cases hlt : k < n
    · have hlti : (k : Int) < n := by omega
      have hkA : (k : Int) < LA := by omega
      have hkB : (k : Int) < LB := by omega
      have HL := hidD hl
      have HM := hidD hm
      have HAP := hidD hap
      have huk := HU.out k
      have hvk := HV.out k
      have HN1 := hidD (numC_next (fun j => gN true (u j)) k)
      have HN2 := hidD (numC_next (fun j => gN true (v j)) k)
      obtain ⟨ga, oa, rfl, hca⟩ := HRA.out _ hbel k hlt
      have HRBk := hidD (fun wr hb => HRB.out wr hb k hlt)
      obtain ⟨gb, ob, rfl, _⟩ := HRBk.out _ hbel
      have HCB : Hid (∀ wr, Below w.heap.size w wr → wr.cell? ⟨gb, ob + k, none⟩ = some (.int .u8 (v k : Int))) := fun wr hb => by
        obtain ⟨g, o, he, hc⟩ := HRBk.out wr hb
        cases he; exact hc
      clear HRBk HRA HRB hbel hl hm hap
      generalize numC (fun j => gN true (u j)) k = xs at *
      generalize numC (fun j => gN true (v j)) k = ys at *
      generalize u k = uk at *
      generalize v k = vk at *
      go_wp2_with (first
        | (go_at_call 4; refine (digitL_any true _ (by assumption) _).mono ?_; rintro e w2 ⟨rfl, rfl⟩)
        | (at_builtin; refine wpList_append_one rfl _ _ rfl w.heap.size (.slice ad1 k cd1) k xs rfl (row_below HL.out ((Below.refl _ _).alloc (Nat.le_refl _) _)) _ (.int .u8 (gN true uk : Int)) rfl (by rw [World.cell?_alloc_new]; rfl) rfl (by omega) (by simp; omega) ?_; intro v4 w4 hown4 hbel4 hg4 hm4; have HL4 := hidD hown4; have HMa := row_below HM.out ((Below.refl _ _).alloc (Nat.le_refl _) (.cells #[.int .u8 (gN true uk : Int)] (5 : TypeId))); have HM4 := hidD (World.ownsRow.kept HMa hg4 HAP.out.symm); have HAP4 := hidD (Apart.next HAP.out HMa hm4); have HB4 := hidD ((HBL.out.alloc hwz _).trans hbel4); have hcb4 := HCB.out _ HB4.out; have hwz4 := HB4.out.size; obtain ⟨ad3, cd3, hde3⟩ := row_shape hown4; subst hde3; clear hown4 hbel4 hg4 hm4 HMa HL HM HAP hca)
        | (at_builtin; refine wpList_append_one rfl _ _ rfl w.heap.size (.slice ad2 k cd2) k ys rfl (row_below HM4.out ((Below.refl _ _).alloc (Nat.le_refl _) _)) _ (.int .u8 (gN true vk : Int)) rfl (by rw [World.cell?_alloc_new]; rfl) rfl (by omega) (by simp; omega) ?_; intro v6 w6 hown6 hbel6 hg6 hm6; have HLa := row_below HL4.out ((Below.refl _ _).alloc (Nat.le_refl _) (.cells #[.int .u8 (gN true vk : Int)] (5 : TypeId))); have HL6 := hidD (World.ownsRow.kept HLa hg6 HAP4.out); have HAP6 := hidD (Apart.next HAP4.out.symm HLa hm6).symm; have HB6 := hidD ((HB4.out.alloc hwz4 _).trans hbel6); clear hbel6 hg6 hm6 HLa))
      go_roundw
      case rel => exact ⟨k + 1, by omega, by go_num, by rw [HN1.out]; exact HL6.out, by rw [HN2.out]; exact hown6, HAP6.out, HB6.out⟩
      case measure => simp [intOf]; omega
    · obtain rfl : n = k := by omega
      have HNL := hidD (NuAt.row hl)
      have HNM := hidD (NuAt.row hm)
      clear hl hm hap hbel HRA HRB hlt hwz
      generalize wr = WA at *
      have HWAu : Hid (∀ j, wN true (gN true (u j)) < 100) := fun j => wg_lt true (HU.out j)
      have HWAv : Hid (∀ j, wN true (gN true (v j)) < 100) := fun j => wg_lt true (HV.out j)
      have HXL := hidD (fun k hk => xF_lt (f := fun j => wN true (gN true (u j))) (B := 100) (n := n) (fun j _ => HWAu.out j) k hk)
      have HYL := hidD (fun k hk => xF_lt (f := fun j => wN true (gN true (v j))) (B := 100) (n := n) (fun j _ => HWAv.out j) k hk)
      have HPW : Hid (∀ i, i ≤ 7 → 100 ^ i ≤ 72057594037927936) := fun i hi => pow_small true hi
      have HPK1 : Hid (∀ j, true = true → pkd (gN true (u j)) = true) := fun j => wg_pkd true (u j)
      have HPK2 : Hid (∀ j, true = true → pkd (gN true (v j)) = true) := fun j => wg_pkd true (v j)
      have HGL1 : Hid (∀ j, gN true (u j) < 256) := fun j => gN_lt true (HU.out j)
      have HGL2 : Hid (∀ j, gN true (v j) < 256) := fun j => gN_lt true (HV.out j)
      go_wp2_with fail
      go_loopw [12, 13, 17, 18] (fun x y q i w2 => ∃ k : Nat, k ≤ n ∧ i = .int .i64 ((n : Int) - 1 - k) ∧ x = .int .u64 (xF (fun j => wN true (gN true (u j))) 100 n k : Int) ∧ y = .int .u64 (xF (fun j => wN true (gN true (v j))) 100 n k : Int) ∧ q = .int .u64 ((100 ^ k : Nat) : Int) ∧ Below WA.heap.size WA w2) (fun _ _ _ i _ => (intOf i + 1).toNat)
      case atStart => exact ⟨0, Nat.zero_le _, by simp, rfl, rfl, rfl, Below.refl _ _⟩
      case round =>
        obtain ⟨k, hk, rfl, rfl, rfl, rfl, hb2⟩ := hrel
        have HB2 := hidD hb2
        by_cases hlt : k < n
        · obtain ⟨g1, rfl, hg1, hc1⟩ := (HNL.out.next hb2) (n - 1 - k) (by omega)
          obtain ⟨g2, rfl, hg2, hc2⟩ := (HNM.out.next hb2) (n - 1 - k) (by omega)
          clear hb2
          replace hc1 : wr.cell? ⟨g1, n - 1 - k, none⟩ = some (.int .u8 (gN true (u (n - 1 - k)) : Int)) := hc1
          replace hc2 : wr.cell? ⟨g2, n - 1 - k, none⟩ = some (.int .u8 (gN true (v (n - 1 - k)) : Int)) := hc2
          have hj : (n : Int) - 1 - (k : Int) = ((n - 1 - k : Nat) : Int) := by omega
          have hjn : n - 1 - k < n := by omega
          have l1 := HGL1.out (n - 1 - k)
          have l2 := HGL2.out (n - 1 - k)
          have K1 := HPK1.out (n - 1 - k) (by trivial)
          have K2 := HPK2.out (n - 1 - k) (by trivial)
          have b1 := HWAu.out (n - 1 - k)
          have b2 := HWAv.out (n - 1 - k)
          have x1 := HXL.out (k + 1) (by omega)
          have y1 := HYL.out (k + 1) (by omega)
          have p1 := HPW.out (k + 1) (by omega)
          have ex : (xF (fun j => wN true (gN true (u j))) 100 n k : Int) * 100 + (wN true (gN true (u (n - 1 - k))) : Int) = (xF (fun j => wN true (gN true (u j))) 100 n (k + 1) : Int) := by
            show _ = ((xF (fun j => wN true (gN true (u j))) 100 n k * 100 + wN true (gN true (u (n - 1 - k))) : Nat) : Int)
            omega
          have ey : (xF (fun j => wN true (gN true (v j))) 100 n k : Int) * 100 + (wN true (gN true (v (n - 1 - k))) : Int) = (xF (fun j => wN true (gN true (v j))) 100 n (k + 1) : Int) := by
            show _ = ((xF (fun j => wN true (gN true (v j))) 100 n k * 100 + wN true (gN true (v (n - 1 - k))) : Nat) : Int)
            omega
          have eq : ((100 ^ k : Nat) : Int) * 100 = ((100 ^ (k + 1) : Nat) : Int) := by rw [Nat.pow_succ]; simp
          have HE : Hid ((n : Int) - 1 - ((k + 1 : Nat) : Int) = (n : Int) - 1 - (k : Int) - 1) := by show _ = _; omega
          have HE2 := hidD hj
          clear HNL HNM HXL HYL HPW HPK1 HPK2 HGL1 HGL2 HWAu HWAv HU HV hg1 hg2
          generalize hEX2 : xF (fun j => wN true (gN true (u j))) 100 n (k + 1) = X2 at *
          have HEX2 := hidD hEX2
          clear hEX2
          generalize hEY2 : xF (fun j => wN true (gN true (v j))) 100 n (k + 1) = Y2 at *
          have HEY2 := hidD hEY2
          clear hEY2
          generalize xF (fun j => wN true (gN true (u j))) 100 n k = X1 at *
          generalize xF (fun j => wN true (gN true (v j))) 100 n k = Y1 at *
          generalize hEQ2 : 100 ^ (k + 1) = Q2 at *
          have HEQ2 := hidD hEQ2
          clear hEQ2
          generalize 100 ^ k = Q1 at *
          generalize n - 1 - k = j at *
          generalize gN true (u j) = c1 at *
          generalize gN true (v j) = c2 at *
          rw [hj]
          clear hj
          go_wp2_with (go_at_call 5; refine (worthL_any true _ (by assumption) (fun _ => by assumption) _).mono ?_; rintro e w2 ⟨rfl, rfl⟩)
          go_roundw
          case rel => exact ⟨k + 1, by omega, by rw [HE.out, HE2.out], by rw [HEX2.out], by rw [HEY2.out], by rw [HEQ2.out], HB2.out⟩
          case measure => first | (simp [intOf]; done) | (simp [intOf]; omega)
        · obtain rfl : n = k := by omega
          rw [xF_all, xF_all]
          have HNL := hidD (HNL.out.next hb2)
          have HNM := hidD (HNM.out.next hb2)
          have HBW := hidD (Below.next HBL.out hb2)
          clear hb2 HB2 HBL
          generalize wr = WB at *
          have HUV : Hid (∀ i j, j < i → u j < 256 ∧ v j < 256) := fun i j _ => ⟨HU.out j, HV.out j⟩
          have HSI := hidD (fun i => sum_inv true u v 9 (by decide) (by decide) i (HUV.out i))
          have HDI := hidD (fun i => dif_inv true u v 9 (by decide) (by decide) i (HUV.out i))
          have HSL := hidD (fun i => vTo_lt (f := dA true u v 9) (B := 100) i (HSI.out i).2.2.2)
          have HDL := hidD (fun i => vTo_lt (f := dS true u v 9) (B := 100) i (HDI.out i).2.2.2)
          have HAS := hidD (fun i => add_step true (u i) (v i) (pA true u v 9 i) (HU.out i) (HV.out i) (HSI.out i).2.1 (HSI.out i).2.2.1)
          have HSS := hidD (fun i => sub_step true (u i) (v i) (pS true u v 9 i) (HU.out i) (HV.out i) (HDI.out i).2.1 (HDI.out i).2.2.1)
          have HXB := hidD (vTo_lt (f := fun j => wN true (gN true (u j))) (B := 100) n (fun j _ => HWAu.out j))
          have HYB := hidD (vTo_lt (f := fun j => wN true (gN true (v j))) (B := 100) n (fun j _ => HWAv.out j))
          have HXY := hidD (HSI.out n).1
          have HXD := hidD (HDI.out n).1
          clear HXL HYL HPK1 HPK2 HWAu HWAv hk hlt
          generalize hX : vTo (fun j => wN true (gN true (u j))) 100 n = X at *
          generalize hY : vTo (fun j => wN true (gN true (v j))) 100 n = Y at *
          have HX2 := hidD hX
          have HY2 := hidD hY
          clear hX hY
          have HWH := hidD (HPW.out n hn7)
          generalize hW : 100 ^ n = Wh at *
          have HW2 := hidD hW
          clear hW
          have HZ : Hid (∀ j : Nat, dA true u v 9 j = wN true (addV (gN true (u j)) (gN true (v j)) (pA true u v 9 j)) ∧ dS true u v 9 j = wN true (subV (gN true (u j)) (gN true (v j)) (pS true u v 9 j))) := fun j => ⟨rfl, rfl⟩
          go_wp2_with fail
          go_loopw [20, 21, 22, 23, 24, 25] (fun s p1 t p2 q i wq => ∃ k : Nat, k ≤ n ∧ i = .int .i64 k ∧ s = .int .u64 (vTo (dA true u v 9) 100 k : Int) ∧ p1 = .int .u8 (pA true u v 9 k : Int) ∧ t = .int .u64 (vTo (dS true u v 9) 100 k : Int) ∧ p2 = .int .u8 (pS true u v 9 k : Int) ∧ q = .int .u64 ((100 ^ k : Nat) : Int) ∧ Below WB.heap.size WB wq) (fun _ _ _ _ _ i _ => n - (intOf i).toNat)
          case atStart => exact ⟨0, Nat.zero_le _, by simp, rfl, rfl, rfl, rfl, rfl, Below.refl _ _⟩
          case round =>
            obtain ⟨k, hk, rfl, rfl, rfl, rfl, rfl, rfl, hbq⟩ := hrel
            have HBQ := hidD hbq
            by_cases hlt : k < n
            · have hlti : (k : Int) < n := by omega
              obtain ⟨g1, rfl, hg1, hc1⟩ := (HNL.out.next hbq) k hlt
              obtain ⟨g2, rfl, hg2, hc2⟩ := (HNM.out.next hbq) k hlt
              have HC1 : Hid (wr.cell? ⟨g1, k, none⟩ = some (.int .u8 (gN true (u k) : Int))) := hc1
              have HC2 : Hid (wr.cell? ⟨g2, k, none⟩ = some (.int .u8 (gN true (v k) : Int))) := hc2
              have HG1 := hidD hg1
              have HG2 := hidD hg2
              have l1 := HGL1.out k
              have l2 := HGL2.out k
              obtain ⟨-, s1, s2, s3, s4⟩ := HAS.out k
              obtain ⟨-, t1, t2, t3, t4⟩ := HSS.out k
              replace s2 := s2 (by trivial)
              replace t2 := t2 (by trivial)
              replace s1 : wN true (addV (gN true (u k)) (gN true (v k)) (pA true u v 9 k)) < 100 := s1
              replace t1 : wN true (subV (gN true (u k)) (gN true (v k)) (pS true u v 9 k)) < 100 := t1
              have q1 := (HSI.out k).2.1
              have q2 := (HDI.out k).2.1
              have r1 := HSL.out (k + 1)
              have r2 := HDL.out (k + 1)
              have r3 := HPW.out (k + 1) (by omega)
              have HA0 := add_any (gN true (u k)) (gN true (v k)) (pA true u v 9 k) l1 l2 q1
              have HS0 := sub_any (gN true (u k)) (gN true (v k)) (pS true u v 9 k) l1 l2 q2
              have n1 : vTo (dA true u v 9) 100 (k + 1) = vTo (dA true u v 9) 100 k + wN true (addV (gN true (u k)) (gN true (v k)) (pA true u v 9 k)) * 100 ^ k := rfl
              have n2 : vTo (dS true u v 9) 100 (k + 1) = vTo (dS true u v 9) 100 k + wN true (subV (gN true (u k)) (gN true (v k)) (pS true u v 9 k)) * 100 ^ k := rfl
              have e3 : ((100 ^ k : Nat) : Int) * 100 = ((100 ^ (k + 1) : Nat) : Int) := by rw [Nat.pow_succ]; simp
              have HP1 : Hid (pA true u v 9 (k + 1) = addF (gN true (u k)) (gN true (v k)) (pA true u v 9 k)) := (rfl : _ = _)
              have HP2 : Hid (pS true u v 9 (k + 1) = subF (gN true (u k)) (gN true (v k)) (pS true u v 9 k)) := (rfl : _ = _)
              rw [← HP1.out] at HA0
              rw [← HP2.out] at HS0
              have HA := hidD HA0
              have HS := hidD HS0
              clear HP1 HP2 HA0 HS0 s3 s4 t3 t4 hc1 hc2 hg1 hg2 HNL HNM HSI HDI HSL HDL HAS HSS HXB HYB HXY HXD HX2 HY2 HWH HW2 HZ HUV HGL1 HGL2 HPW HU HV hbq HA2
              have HSV := addV_lt (gN true (u k)) (gN true (v k)) (pA true u v 9 k)
              have HTV := subV_lt (gN true (u k)) (gN true (v k)) (pS true u v 9 k)
              generalize hEA2 : vTo (dA true u v 9) 100 (k + 1) = A2 at *
              have HEA2 := hidD hEA2
              clear hEA2
              generalize vTo (dA true u v 9) 100 k = A1 at *
              generalize hED2 : vTo (dS true u v 9) 100 (k + 1) = D2 at *
              have HED2 := hidD hED2
              clear hED2
              generalize vTo (dS true u v 9) 100 k = D1 at *
              generalize hEQ2 : 100 ^ (k + 1) = Q2 at *
              have HEQ2 := hidD hEQ2
              clear hEQ2
              generalize 100 ^ k = Q1 at *
              generalize hEpa2 : pA true u v 9 (k + 1) = pa2 at *
              have HEpa2 := hidD hEpa2
              clear hEpa2
              generalize hEps2 : pS true u v 9 (k + 1) = ps2 at *
              have HEps2 := hidD hEps2
              clear hEps2
              generalize addV (gN true (u k)) (gN true (v k)) (pA true u v 9 k) = sv at *
              generalize subV (gN true (u k)) (gN true (v k)) (pS true u v 9 k) = tv at *
              generalize pA true u v 9 k = pa1 at *
              generalize pS true u v 9 k = ps1 at *
              generalize gN true (u k) = c1 at *
              generalize gN true (v k) = c2 at *
              have m1 : (wN true sv : Int) * (Q1 : Int) = ((wN true sv * Q1 : Nat) : Int) := by simp
              have m2 : (wN true tv : Int) * (Q1 : Int) = ((wN true tv * Q1 : Nat) : Int) := by simp
              have lv1 : sv < 256 := HSV
              have lv2 : tv < 256 := HTV
              generalize wN true sv * Q1 = M1 at *
              generalize wN true tv * Q1 = M2 at *
              have a1 : (A1 : Int) + (M1 : Int) = (A2 : Int) := by omega
              have a2 : (D1 : Int) + (M2 : Int) = (D2 : Int) := by omega
              clear n1 n2
              go_wp2_with fail
              have kc1 : ∀ i : BW wr, i.v.cell? ⟨g1, k, none⟩ = some (.int .u8 (c1 : Int)) := fun i => (i.below.cell (p := ⟨g1, k, none⟩) HG1.out).trans HC1.out
              have kc2 : ∀ i : BW wr, i.v.cell? ⟨g2, k, none⟩ = some (.int .u8 (c2 : Int)) := fun i => (i.below.cell (p := ⟨g2, k, none⟩) HG2.out).trans HC2.out
              refine wp_region_below (by kernel_rfl) (by kernel_rfl) ?_
              repeat (go_big_quiet_step ((go_at_call 6; exact Calls.below_of ((HA.out _).mono (by rintro e w' ⟨rfl, rfl⟩; exact ⟨rfl, Below.refl _ _⟩)))))
              refine wpQuiet_nil ?_
              intro i7
              clear kc1 kc2
              go_wp2_with fail
              have kd1 : ∀ i : BW i7.v, i.v.cell? ⟨g1, k, none⟩ = some (.int .u8 (c1 : Int)) := fun i => (i.below.cell (p := ⟨g1, k, none⟩) (Nat.lt_of_lt_of_le HG1.out i7.below.size)).trans ((i7.below.cell (p := ⟨g1, k, none⟩) HG1.out).trans HC1.out)
              have kd2 : ∀ i : BW i7.v, i.v.cell? ⟨g2, k, none⟩ = some (.int .u8 (c2 : Int)) := fun i => (i.below.cell (p := ⟨g2, k, none⟩) (Nat.lt_of_lt_of_le HG2.out i7.below.size)).trans ((i7.below.cell (p := ⟨g2, k, none⟩) HG2.out).trans HC2.out)
              refine wp_region_below (by kernel_rfl) (by kernel_rfl) ?_
              repeat (go_big_quiet_step ((go_at_call 7; exact Calls.below_of ((HS.out _).mono (by rintro e w' ⟨rfl, rfl⟩; exact ⟨rfl, Below.refl _ _⟩)))))
              refine wpQuiet_nil ?_
              intro i8
              clear kd1 kd2
              go_wp2_with (go_at_call 5; refine (worthL_any true _ (by assumption) (fun _ => by assumption) _).mono ?_; rintro e w2 ⟨rfl, rfl⟩)
              go_roundw
              case rel => exact ⟨k + 1, by omega, by go_num, by rw [HEA2.out], by rw [HEpa2.out], by rw [HED2.out], by rw [HEps2.out], by rw [HEQ2.out], Below.next (Below.next HBQ.out i7.below) i8.below⟩
              case measure => simp [intOf]; omega
            · obtain rfl : n = k := by omega
              have z1 : vTo (dA true u v 9) 100 n + cyN (pA true u v 9 n) * Wh = X + Y + 1 := by have h := HXY.out; rw [← HX2.out, ← HY2.out, ← HW2.out]; exact h
              have z2 : vTo (dS true u v 9) 100 n + Y + 1 + cyN (pS true u v 9 n) * Wh = X + 1 + Wh := by have h := HXD.out; rw [← HX2.out, ← HY2.out, ← HW2.out]; exact h
              have q1 := and1N _ (HSI.out n).2.1
              have q2 := and1N _ (HDI.out n).2.1
              have r1 : vTo (dA true u v 9) 100 n < Wh := by rw [← HW2.out]; exact HSL.out n
              have r2 : vTo (dS true u v 9) 100 n < Wh := by rw [← HW2.out]; exact HDL.out n
              have r3 : X < Wh := HXB.out
              have r4 : Y < Wh := HYB.out
              have r5 : Wh ≤ 72057594037927936 := HWH.out
              have o1 := cy_lt (pA true u v 9 n)
              have o2 := cy_lt (pS true u v 9 n)
              have HBE := hidD (HBW.out.trans (HBQ.out.mono HBW.out.size))
              clear HNL HNM HSI HDI HSL HDL HAS HSS HXB HYB HXY HXD HX2 HY2 HWH HW2 HZ HUV HGL1 HGL2 HPW HU HV hbq hk hlt HBQ HBW
              generalize vTo (dA true u v 9) 100 n = A at *
              generalize vTo (dS true u v 9) 100 n = E at *
              generalize hpa : pA true u v 9 n = pa at *
              generalize hps : pS true u v 9 n = ps at *
              clear hpa hps
              generalize cyN pa = o at *
              generalize cyN ps = r at *
              have m1 : (o : Int) * (Wh : Int) = ((o * Wh : Nat) : Int) := by simp
              have b1 : (1 : Int) - (r : Int) = ((1 - r : Nat) : Int) := by omega
              have m2 : ((1 - r : Nat) : Int) * (Wh : Int) = (((1 - r) * Wh : Nat) : Int) := Int.natCast_mul _ _ |>.symm
              have z3 : E + Y + 1 = X + 1 + (1 - r) * Wh := by
                have h01 : r = 0 ∨ r = 1 := by omega
                rcases h01 with rfl | rfl
                · simp only [Nat.zero_mul, Nat.sub_zero, Nat.one_mul] at z2 ⊢; omega
                · simp only [Nat.one_mul, Nat.sub_self, Nat.zero_mul] at z2 ⊢; omega
              have hb1 : 1 - r ≤ 1 := by omega
              generalize 1 - r = bo at *
              generalize bo * Wh = M2 at *
              generalize o * Wh = M1 at *
              have e1 : (A : Int) + (M1 : Int) = (X : Int) + (Y : Int) + 1 := by omega
              have e2 : (E : Int) + (Y : Int) + 1 = (X : Int) + 1 + (M2 : Int) := by omega
              clear z2 z3
              go_wp2_with (go_at_call 6; refine (HA2.out _).mono ?_; rintro e w2 ⟨rfl, rfl⟩)
              go_ret
              exact ⟨by first | rfl | (simp; done) | (simp; omega), HBE.out⟩
end Go.Proofs.Ytgbjoblojkmdnaa
