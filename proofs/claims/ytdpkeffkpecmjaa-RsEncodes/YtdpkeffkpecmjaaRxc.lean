/- What Times of the document answers. -/
import Derived.Test.YtdpkeffkpecmjaaRxb
import Derived.Test.YtdpkeffkpecmjaaGh
import Derived.Laws.Build
namespace Go.Proofs.Ytdpkeffkpecmjaa
open Go.RowKit
set_option linter.unusedVariables false


set_option maxRecDepth 100000 in
set_option maxHeartbeats 800000 in
theorem refTimes_nil (vp vq : Value) (w : World) : Calls Try.prog 45 #[.pointer none, vp, vq] w fun e w' => e = .returned (.slice none 0 0) ∧ Below w.heap.size w w' := by
  have HW : Hid (Below w.heap.size w w) := Below.refl _ _
  go_enter Try.func45, Try.ntmps45
  go_wp2_with fail
  go_ret
  exact ⟨rfl, HW.out⟩
set_option maxRecDepth 100000 in
set_option maxHeartbeats 800000 in
theorem refTimes_none {b : Nat} (p q : List UInt8) (hpq : p = [] ∨ q = []) (vp vq : Value) (w : World) (hp : SlAt w vp p) (hq : SlAt w vq q) : Calls Try.prog 45 #[.pointer (some ⟨b, 0, none⟩), vp, vq] w fun e w' => e = .returned (.slice none 0 0) ∧ Below w.heap.size w w' := by
  obtain ⟨⟨a, ca, rfl, hca1, hca2⟩, hpb⟩ := hp
  obtain ⟨⟨d, cd, rfl, hcd1, hcd2⟩, hqb⟩ := hq
  have HW : Hid (Below w.heap.size w w) := Below.refl _ _
  have hl : p.length = 0 ∨ q.length = 0 := hpq.imp (fun h => by rw [h]; rfl) (fun h => by rw [h]; rfl)
  clear hpb hqb hpq
  generalize p.length = lp at *
  generalize q.length = lq at *
  by_cases h0 : lp = 0
  · subst h0
    clear hl
    go_enter Try.func45, Try.ntmps45
    go_wp2_with fail
    go_ret
    exact ⟨rfl, HW.out⟩
  · obtain rfl : lq = 0 := by omega
    have hb0 : ((lp : Int) == 0) = false := by simp; omega
    have hi0 : ¬ (lp : Int) = 0 := by omega
    clear hl
    go_enter Try.func45, Try.ntmps45
    go_wp2_with fail
    go_ret
    exact ⟨rfl, HW.out⟩
set_option maxRecDepth 100000 in
set_option maxHeartbeats 2000000 in
theorem refTimes_some {P G : UInt8} {b : Nat} (p q : List UInt8) (hp0 : p ≠ []) (hq0 : q ≠ []) (hsum : p.length + q.length ≤ 281474976710657) (vp vq : Value) (w : World) (hf : RfAt w b P G) (hp : SlAt w vp p) (hq : SlAt w vq q) :
    Calls Try.prog 45 #[.pointer (some ⟨b, 0, none⟩), vp, vq] w fun e w' => ∃ v, e = .returned v ∧ SlAt w' v (trimS (timesS P p q)) ∧ Below w.heap.size w w' := by
  obtain ⟨⟨a, ca, rfl, hca1, hca2⟩, hpb⟩ := hp
  obtain ⟨⟨d, cd, rfl, hcd1, hcd2⟩, hqb⟩ := hq
  have hpl : 0 < p.length := List.length_pos_iff.2 hp0
  have hql : 0 < q.length := List.length_pos_iff.2 hq0
  have HSP := hidD hpb.shape'.2
  have HSQ := hidD hqb.shape'.2
  have HFD := hidD hf
  have HMU := hidD (fun (x y : UInt8) w' (h : RfAt w' b P G) => calls_below (refMul_any x y w' h))
  have HALL : Hid (prodL P p q (p.length + q.length - 1) p.length = timesS P p q) := prodL_all P p q
  have HZ := hidD (prodL_zero P p q (p.length + q.length - 1))
  have HPS := hidD (fun i => prodL_step P p q (p.length + q.length - 1) i)
  have HPL := hidD (fun i => prodL_length P p q (p.length + q.length - 1) i)
  have HST := hidD (fun (L : List UInt8) i c k (hk : k < q.length) (h : i + q.length ≤ L.length) => addL_step P L i q c k hk h)
  have HA0 := hidD (fun (L : List UInt8) i c => addL_nil P L i c)
  have HAL := hidD (fun (L : List UInt8) i c k => addL_length P L i (q.take k) c)
  have HQT : Hid (q.take q.length = q) := List.take_length
  have HTR := hidD (fun w' v (h : SlAt w' v (timesS P p q)) => refTrim_any (timesS P p q) (by simp [timesS]; omega) v w' h)
  clear hpb hqb hp0 hq0 hf hca1 hca2 hcd1 hcd2
  generalize timesS P p q = S at *
  generalize hlp : p.length = tp at *
  generalize hlq : q.length = tq at *
  have HLP := hidD hlp
  have HLQ := hidD hlq
  obtain ⟨n, hn⟩ : ∃ n, tp + tq - 1 = n := ⟨_, rfl⟩
  rw [hn] at HALL HZ HPS HPL
  have hni : (tp : Int) + tq - 1 = (n : Int) := by omega
  have hnl : n ≤ 281474976710656 := by omega
  have htpb : tp ≤ 281474976710656 := by omega
  have htqb : tq ≤ 281474976710656 := by omega
  have hb0 : ((tp : Int) == 0) = false := by simp; omega
  have hi0 : ¬ (tp : Int) = 0 := by omega
  have hb1 : ((tq : Int) == 0) = false := by simp; omega
  have hi1 : ¬ (tq : Int) = 0 := by omega
  have HNN := hidD hn
  have HQ0 := hidD hql
  clear hn hlp hlq hpl hql hsum
  obtain ⟨i0, hi, hz0, hz1, hz2⟩ := info_parts Try.info5
  go_enter Try.func45, Try.ntmps45
  go_wp2_with (at_make; refine wpList_make_full _ rfl _ _ 22 rfl w.heap.size 5 i0 (.int .u8 0) 1 Try.underlying22 hi hz0 hz1 _ _ _ _ n rfl rfl (by omega) (by omega) (by rw [hz2]; omega) (by unfold maxLen; omega) (Nat.le_refl _) ?_; intro w3 hown3 hg3; have HR3 := hidD (row_of_made hown3); have HB3 : Hid (Below w.heap.size w w3) := ((Below.refl w.heap.size w).grown hg3 (Nat.le_refl _) (fun k hk => by cases hk)); clear hown3 hg3)
  have HR0 : Hid (RowAt w3 w.heap.size (prodL P p q n 0)) := by rw [HZ.out]; exact HR3.out
  clear hni HR3
  obtain ⟨g, hg⟩ : ∃ g, g = w.heap.size := ⟨_, rfl⟩
  rw [← hg] at HR0
  rw [← hg]
  have HG := hidD hg
  clear hg
  go_loopw [8, 9] (fun i j wr => ∃ k : Nat, k ≤ tp ∧ i = .int .i64 k ∧ RowAt wr g (prodL P p q n k) ∧ Below w.heap.size w wr) (fun i _ _ => tp - (intOf i).toNat)
  case atStart => exact ⟨0, Nat.zero_le _, rfl, HR0.out, HB3.out⟩
  case round =>
    obtain ⟨k, hk, rfl, hrow, hbel⟩ := hrel
    obtain ⟨wo, hwo⟩ : ∃ wo, wo = wr := ⟨_, rfl⟩
    subst hwo
    have HBO := hidD hbel
    by_cases hlt : k < tp
    · have hlti : (k : Int) < tp := by omega
      have HLT := hidD hlt
      obtain ⟨g1, o1, rfl, hg1, hc1⟩ := HSP.out k (by have := HLP.out; omega)
      have HC1 : Hid (∀ w', Below w.heap.size w w' → w'.cell? ⟨g1, o1 + k, none⟩ = some (.int .u8 ((cf p k).toNat : Int))) := fun w' h => by rw [h.cell (p := ⟨g1, _, none⟩) hg1]; exact hc1
      have HRI : Hid (RowAt wo g (addL P (prodL P p q n k) k (q.take 0) (cf p k))) := by rw [List.take_zero, HA0.out]; exact hrow
      have HSTk := hidD (fun j hj => HST.out (prodL P p q n k) k (cf p k) j hj (by rw [HPL.out]; have := HNN.out; omega))
      have HPSk := hidD (HPS.out k)
      have HLk := hidD (fun j => HAL.out (prodL P p q n k) k (cf p k) j)
      have HLn := hidD (HPL.out k)
      clear hrow hbel hc1 hg1
      generalize prodL P p q n k = L at *
      go_wp2_with fail
      go_loopw [9] (fun j wr => ∃ m : Nat, m ≤ tq ∧ j = .int .i64 m ∧ RowAt wr g (addL P L k (q.take m) (cf p k)) ∧ Below w.heap.size w wr) (fun j _ => tq - (intOf j).toNat)
      case atStart => exact ⟨0, Nat.zero_le _, rfl, HRI.out, HBO.out⟩
      case round =>
        obtain ⟨m, hm, rfl, hrow, hbel⟩ := hrel
        have HBL := hidD hbel
        have HRW := hidD hrow
        by_cases hmt : m < tq
        · have hmti : (m : Int) < tq := by omega
          obtain ⟨g2, o2, rfl, hg2, hc2⟩ := HSQ.out m (by have := HLQ.out; omega)
          have hc1 := HC1.out wr hbel
          have hc1n : ∀ n, (wr.drewN n).cell? ⟨g1, o1 + k, none⟩ = some (.int .u8 ((cf p k).toNat : Int)) := fun n => hc1
          have hc2' : wr.cell? ⟨g2, o2 + m, none⟩ = some (.int .u8 ((cf q m).toNat : Int)) := by rw [hbel.cell (p := ⟨g2, _, none⟩) hg2]; exact hc2
          have hc2n : ∀ n, (wr.drewN n).cell? ⟨g2, o2 + m, none⟩ = some (.int .u8 ((cf q m).toNat : Int)) := fun n => hc2'
          have hkmn : k + m < n := by have := HNN.out; omega
          have hcr0 : wr.cell? ⟨g, k + m, none⟩ = some (.int .u8 ((cf (addL P L k (q.take m) (cf p k)) (k + m)).toNat : Int)) := hrow.cell (by rw [HLk.out, HLn.out]; exact hkmn)
          have hcrn : ∀ n, (wr.drewN n).cell? ⟨g, k + m, none⟩ = some (.int .u8 ((cf (addL P L k (q.take m) (cf p k)) (k + m)).toNat : Int)) := fun n => hcr0
          have hkml : ((k + m : Nat) : Int) < n := by omega
          have hkw1 : IntKind.i64.wrap ((k : Int) + m) = ((k + m : Nat) : Int) := by rw [IntKind.wrap_i64]; omega
          have hkw2 : wrap64 ((k : Int) + m) = ((k + m : Nat) : Int) := by unfold wrap64; omega
          have HM := hidD (fun w' (hb : Below wr.heap.size wr w') => HMU.out (cf p k) (cf q m) w' (HFD.out.next (Below.next hbel hb)))
          have hx := u8_xor_nat (cf (addL P L k (q.take m) (cf p k)) (k + m)).toNat (bm P (cf p k) (cf q m)).toNat (u8_lt _) (u8_lt _)
          rw [← UInt8.toNat_xor] at hx
          have HS := hidD (HSTk.out m (by have := HLQ.out; omega))
          generalize hv : cf (addL P L k (q.take m) (cf p k)) (k + m) ^^^ bm P (cf p k) (cf q m) = v at *
          generalize (cf (addL P L k (q.take m) (cf p k)) (k + m)).toNat = x at *
          generalize (bm P (cf p k) (cf q m)).toNat = y at *
          generalize (cf q m).toNat = dq at *
          generalize (cf p k).toNat = dp at *
          generalize k + m = km at *
          clear hv hbel hrow hc2 hg2
          go_wp2_with fail
          go_region_with (go_at_call 58; refine (HM.out _ ((Below.refl wr.heap.size wr).drew)).mono ?_; rintro e w4 ⟨rfl, hb4⟩; have hb5 : Below wr.heap.size wr w4 := ((Below.refl wr.heap.size wr).drew).trans hb4; have HR4 := hidD (HRW.out.next hb5); have HB4 := hidD hb5; have j8 : w4.cell? ⟨g, km, none⟩ = some (.int .u8 (x : Int)) := (hb5.cell (p := ⟨g, km, none⟩) HRW.out.lt).trans hcr0; have f8 := HR4.out.frozen km; clear hb4 hb5)
          all_goals
            go_wp2
            go_roundw
            case rel => exact ⟨m + 1, by omega, by go_num, by rw [← HS.out]; exact HR4.out.set _ _, (Below.next HBL.out HB4.out).setCell (p := ⟨g, km, none⟩) (by rw [HG.out]; exact Nat.le_refl _) _⟩
            case measure => simp [intOf]; omega
        · obtain rfl : m = tq := by omega
          have HRN : Hid (RowAt wr g (prodL P p q n (k + 1))) := by
            have := hrow
            rw [HQT.out, HPSk.out] at this; exact this
          clear hrow hbel
          go_wp2_with fail
          go_roundw
          case rel => exact ⟨k + 1, HLT.out, by go_num, HRN.out, HBL.out⟩
          case measure => have := HLT.out; simp [intOf]; omega
    · obtain rfl : k = tp := by omega
      rw [HALL.out] at hrow
      have HT := hidD (HTR.out wo _ (SlAt.row hrow (by rw [← HALL.out, HPL.out]) (by omega)))
      clear hrow hbel
      go_wp2_with (go_at_call 46; refine HT.out.mono ?_; rintro e w9 ⟨v9, rfl, hs9, hb9⟩)
      go_ret
      exact ⟨_, rfl, hs9, Below.next HBO.out hb9⟩
end Go.Proofs.Ytdpkeffkpecmjaa
