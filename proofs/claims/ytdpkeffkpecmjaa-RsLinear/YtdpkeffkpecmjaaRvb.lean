/- RsLinear. -/
import Derived.Test.YtdpkeffkpecmjaaRva
import Derived.Test.YtdpkeffkpecmjaaRua
namespace Go.Proofs.Ytdpkeffkpecmjaa
open Go.RowKit
set_option linter.unusedVariables false

/-- What lies in memory while the law looks. -/
structure Lin (w : World) (c p f gx gy : Nat) (x y a b : List UInt8) (va vb : Value) : Prop where
  cd : CdAt w c p f
  rx : RowAt w gx x
  ry : RowAt w gy y
  sa : SlAt w va a
  sb : SlAt w vb b
theorem Lin.next {w w' : World} {c p f gx gy : Nat} {x y a b : List UInt8} {va vb : Value} (h : Lin w c p f gx gy x y a b va vb) (hb : Below w.heap.size w w') : Lin w' c p f gx gy x y a b va vb := ⟨h.cd.next hb, h.rx.next hb, h.ry.next hb, h.sa.next hb, h.sb.next hb⟩
theorem sl_cells {w : World} {a : Option Addr} {n cap : Nat} {l : List UInt8} (h : SlAt w (.slice a n cap) l) (h0 : 0 < l.length) : ∃ g o, a = some ⟨g, o, none⟩ ∧ g < w.heap.size ∧ ∀ j, j < l.length → w.cell? ⟨g, o + j, none⟩ = some (.int .u8 ((cf l j).toNat : Int)) := by
  rcases h.by' with ⟨hn, _⟩ | ⟨g, o, c, he, hg, hc⟩
  · rw [hn] at h0; simp at h0
  · injection he with e1 e2 e3
    exact ⟨g, o, e1, hg, hc⟩
theorem xor_u8c (x y : UInt8) : bits .xor .u8 (x.toNat : Int) (y.toNat : Int) = ((x ^^^ y).toNat : Int) := by rw [u8_xor_nat _ _ (u8_lt x) (u8_lt y), UInt8.toNat_xor]
theorem made_zero (n : Nat) : (madeCells (Value.cells (.int .u8 0)) (n * 1)).toList = (List.replicate n (0 : UInt8)).map encB := by
  rw [Nat.mul_one]
  apply List.ext_getElem
  · simp [madeCells]
  · intro i h1 h2
    simp [madeCells, Value.cells, encB, Nat.mod_one]
set_option maxRecDepth 100000 in
set_option maxHeartbeats 12800000 in
theorem rsLinear_in (p f : Nat) (h1 : 1 ≤ p) (h2 : p ≤ 254) (h3 : f ≤ 254) (a b : List UInt8) (N : Nat) (hN : N = min a.length b.length) (hn0 : 0 < N) (hn5 : N + p ≤ 255) (z : Int) (va vb : Value) (w : World) (hva : SlAt w va a) (hvb : SlAt w vb b) : Calls Try.prog 7 #[.int .i64 p, .int .i64 f, va, vb, .int .i64 z] w fun e w' => e = .returned (.bool true) ∧ Below w.heap.size w w' := by
  have HA := hidD (alive_any w)
  have HNW := hidD (rsnew_ok p f h1 h2 h3)
  have HVA := hidD hva
  have HVB := hidD hvb
  obtain ⟨⟨aa, ca, rfl, hca1, hca2⟩, hba⟩ := hva
  obtain ⟨⟨ab, cb, rfl, hcb1, hcb2⟩, hbb⟩ := hvb
  obtain ⟨a1, hsa, hta⟩ := slice_take hba hca1 N (by omega)
  obtain ⟨b1, hsb, htb⟩ := slice_take hbb hcb1 N (by omega)
  have hla : (a.take N).length = N := by rw [List.length_take]; omega
  have hlb : (b.take N).length = N := by rw [List.length_take]; omega
  rw [hla] at hsa hta
  rw [hlb] at hsb htb
  have HSA : Hid (SlAt w (.slice a1 N ca) (a.take N)) := ⟨⟨a1, ca, by rw [hla], by omega, hca2⟩, hta⟩
  have HSB : Hid (SlAt w (.slice b1 N cb) (b.take N)) := ⟨⟨b1, cb, by rw [hlb], by omega, hcb2⟩, htb⟩
  have HEN : Hid (∀ w c v data, data.length = N → CdAt w c p f → SlAt w v data → Calls Try.prog 12 #[.pointer (some ⟨c, 0, none⟩), v] w fun e w' => ∃ g, e = .returned (.tuple #[.slice (some ⟨g, 0, none⟩) (N + p) (N + p), .int .i64 0]) ∧ RowAt w' g (encS f p data) ∧ Below w.heap.size w w') := fun w c v data hd hc hs => by
    have := encode_ok h2 data (by omega) (by omega) v w hc hs
    rw [hd] at this
    exact this.mono fun e w' ⟨g, h1, _, h2, h3⟩ => ⟨g, h1, h2, h3⟩
  have HLX : Hid ((encS f p (a.take N)).length = N + p) := by show _ = _; rw [encS_length, hla]
  have HLY : Hid ((encS f p (b.take N)).length = N + p) := by show _ = _; rw [encS_length, hlb]
  have HPS : Hid ((plusS (encS f p (a.take N)) (encS f p (b.take N))).length = N + p) := by show _ = _; rw [plus_len, HLX.out, HLY.out, Nat.max_self]
  have HPD : Hid ((plusS (a.take N) (b.take N)).length = N) := by show _ = _; rw [plus_len, hla, hlb, Nat.max_self]
  have HEQ := hidD (enc_plus (f := f) (p := p) (a := a.take N) (b := b.take N) (by rw [hla, hlb]) (by rw [hla]; exact hn5))
  have HNS := hidD (plus_next (encS f p (a.take N)) (encS f p (b.take N)))
  have HND := hidD (plus_next (a.take N) (b.take N))
  have HSYN : Hid (∀ i, i < p → syn f (encS f p (a.take N)) i = 0) := enc_syn f p _
  have HGS : Hid (goodS f p (plusS (encS f p (a.take N)) (encS f p (b.take N))) = true) := good_of (by rw [HPS.out]; omega) (by rw [HPS.out]; omega) (fun i hi => by rw [syn_plus (by rw [HLX.out, HLY.out]), enc_syn f p _ i hi, enc_syn f p _ i hi]; rfl)
  have HCA : Hid (∀ k, k < N → cf a k = cf (a.take N) k) := fun k hk => by rw [cf_take, if_pos hk]
  have HCB : Hid (∀ k, k < N → cf b k = cf (b.take N) k) := fun k hk => by rw [cf_take, if_pos hk]
  have HGO := hidD (fun w c v l hc hs => good_any (c := c) h2 h3 l v w hc hs)
  have HLA := hidD hla
  have HLB := hidD hlb
  have HZA := hidD (syn_ahead f (encS f p (a.take N)))
  have HGL : Hid (∀ k, k ≤ 7 → (255 < k + (N + p) ∨ goodS f p (List.replicate k 0 ++ encS f p (a.take N)) = true)) := fun k hk => by
    by_cases h : 255 < k + (N + p)
    · exact .inl h
    · exact .inr (good_of (by rw [List.length_append, HLX.out]; omega) (by rw [List.length_append, HLX.out, List.length_replicate]; omega) (fun i hi => by rw [HZA.out, HSYN.out i hi]))
  obtain ⟨ga, oa, hga0, hga, hgac⟩ := sl_cells HVA.out (by omega)
  obtain ⟨gb, ob, hgb0, hgb, hgbc⟩ := sl_cells HVB.out (by omega)
  have HGA := hidD hga
  have HGB := hidD hgb
  have HAC : Hid (∀ j, j < N → w.cell? ⟨ga, oa + j, none⟩ = some (.int .u8 ((cf (a.take N) j).toNat : Int))) := fun j hj => by rw [hgac j (by omega), HCA.out j hj]
  have HBC : Hid (∀ j, j < N → w.cell? ⟨gb, ob + j, none⟩ = some (.int .u8 ((cf (b.take N) j).toNat : Int))) := fun j hj => by rw [hgbc j (by omega), HCB.out j hj]
  subst hga0 hgb0
  obtain ⟨kz, hkz, hkz7⟩ : ∃ kz : Nat, (z.tmod 8 + 8).tmod 8 = (kz : Int) ∧ kz ≤ 7 := by
    have hr := rem_twice z 8 (by omega)
    have e1 := Int.emod_nonneg z (show (8 : Int) ≠ 0 by omega)
    have e2 := Int.emod_lt_of_pos z (show (0 : Int) < 8 by omega)
    refine ⟨(z % 8).toNat, ?_, by omega⟩
    have : (z.tmod 8 + 8).tmod 8 = z % 8 := hr
    omega
  have HKZ := hidD hkz
  have HZB : Hid (-8 < z.tmod 8 ∧ z.tmod 8 < 8) := by
    have h1 := Int.tmod_lt_of_pos z (show (0 : Int) < 8 by omega)
    have := Int.tmod_lt_of_pos (-z) (show (0 : Int) < 8 by omega)
    rw [Int.neg_tmod] at this
    exact ⟨by omega, h1⟩
  obtain ⟨i5, hi5, hz50, hz51, hz52⟩ := info_parts Try.info5
  clear hta htb hba hbb hla hlb hgac hgbc hga hgb hkz
  generalize a.take N = x at *
  generalize b.take N = y at *
  generalize hX : encS f p x = X at *
  generalize hY : encS f p y = Y at *
  have HX := hidD hX
  have HY := hidD hY
  generalize a.length = LA at *
  generalize b.length = LB at *
  have hcase : (LA ≤ LB ∧ N = LA) ∨ (LB < LA ∧ N = LB) := by omega
  clear hN hX hY
  have hNi : ((N : Int) == 0) = false := beq_eq_false_iff_ne.2 (by omega)
  have hNp : ¬ (255 : Int) < (N : Int) + p := by omega
  have hNe : (((N + p : Nat) : Int) == ((N + p : Nat) : Int)) = true := beq_self_eq_true _
  rcases hcase with ⟨hle, hN⟩ | ⟨hle, hN⟩
  all_goals
    subst hN
    go_enter Try.func7, Try.ntmps7
    go_wp2_with (first
      | (go_at_call 10; refine HA.out.mono ?_; rintro e w1 ⟨rfl, hb⟩; have HB1 := hidD hb; clear hb)
      | (go_at_call 30; refine (HNW.out _).mono ?_; rintro e w2 ⟨c, rfl, _, hc, hb⟩; have HC2 := hidD hc; have HB2 := hidD (Below.next HB1.out hb); clear hb hc HB1)
      | (go_at_call 12; refine (HEN.out _ _ _ x HLA.out HC2.out (HSA.out.next HB2.out)).mono ?_; rintro e w3 ⟨g3, rfl, hr3, hb⟩; rw [HX.out] at hr3; have HC3 := hidD (HC2.out.next hb); have HR3 := hidD hr3; have HB3 := hidD (Below.next HB2.out hb); clear hb hr3 HC2 HB2)
      | (go_at_call 12; refine (HEN.out _ _ _ y HLB.out HC3.out (HSB.out.next HB3.out)).mono ?_; rintro e w4 ⟨g4, rfl, hr4, hb⟩; rw [HY.out] at hr4; have HC4 := hidD (HC3.out.next hb); have HR4 := hidD (HR3.out.next hb); have HQ4 := hidD hr4; have HB4 := hidD (Below.next HB3.out hb); clear hb hr4 HC3 HB3 HR3))
    have HLI : Hid (Lin w4 c p f g3 g4 X Y x y (.slice a1 N ca) (.slice b1 N cb)) := ⟨HC4.out, HR4.out, HQ4.out, HSA.out.next HB4.out, HSB.out.next HB4.out⟩
    clear HC4 HR4 HQ4
    go_loopw [17, 18, 19] (fun s d i wr => ∃ k m : Nat, k ≤ N + p ∧ m = min k N ∧ i = .int .i64 k ∧ wr.ownsRow w4.heap.size 5 1 s k (((plusS X Y).take k).map encB) ∧ wr.ownsRow w4.heap.size 5 1 d m (((plusS x y).take m).map encB) ∧ Apart s d ∧ Below w4.heap.size w4 wr) (fun _ _ i _ => N + p - (intOf i).toNat)
    case atStart => exact ⟨0, 0, Nat.zero_le _, (Nat.zero_min _).symm, rfl, World.ownsRow_nil _ _ _ _, World.ownsRow_nil _ _ _ _, .inl rfl, Below.refl _ _⟩
    case round =>
      obtain ⟨k, m, hk, hmk, rfl, hos, hod, hap, hbel⟩ := hrel
      have HBW := hidD hbel
      obtain ⟨as1, cs1, hse⟩ := row_shape hos
      subst hse
      obtain ⟨ad1, cd1, hde⟩ := row_shape hod
      subst hde
      have HOS := hidD hos
      have HOD := hidD hod
      have HAP := hidD hap
      clear hos hod hap hbel
      by_cases hlt : k < N + p
      · have hlti : (k : Int) < ((N + p : Nat) : Int) := by omega
        have HKK : Hid (∀ wB, Below wr.heap.size wr wB → ∃ i : KB wr [g3, g4], wB = i.v) := fun wB hb => ⟨⟨wB, fun z hz => by
          rcases (show z = g3 ∨ z = g4 by simpa using hz) with h | h
          · rw [h]; exact hb.block _ (Nat.lt_of_lt_of_le HLI.out.rx.lt HBW.out.size)
          · rw [h]; exact hb.block _ (Nat.lt_of_lt_of_le HLI.out.ry.lt HBW.out.size)⟩, rfl⟩
        have f1 : ∀ i : KB wr [g3, g4], i.v.cell? ⟨g3, k, none⟩ = some (.int .u8 ((cf X k).toNat : Int)) := fun i => (i.cell (b := g3) (by simp) _).trans ((HLI.out.rx.next HBW.out).cell (by rw [HLX.out]; exact hlt))
        have f2 : ∀ i : KB wr [g3, g4], i.v.cell? ⟨g4, k, none⟩ = some (.int .u8 ((cf Y k).toNat : Int)) := fun i => (i.cell (b := g4) (by simp) _).trans ((HLI.out.ry.next HBW.out).cell (by rw [HLY.out]; exact hlt))
        have hxr := xor_u8c (cf X k) (cf Y k)
        have HSN := hidD (HNS.out k (by rw [HPS.out]; exact hlt))
        have HBWD : Hid (Below w4.heap.size w4 wr.drew) := HBW.out.drew
        have HWD : Hid (Below wr.heap.size wr wr.drew) := (Below.refl _ _).drew
        generalize cf X k ^^^ cf Y k = xs at *
        generalize cf X k = x1 at *
        generalize cf Y k = y1 at *
        generalize hRS : ((plusS X Y).take k).map encB = RS at *
        have HRS := hidD hRS
        clear hRS
        have HA1 : Hid (Below wr.heap.size wr (wr.alloc (.cells #[.int .u8 (xs.toNat : Int)] (5 : TypeId))).drew) := ((Below.refl _ _).alloc (Nat.le_refl _) _).drew
        by_cases hkn : k < N
        · have hkni : (k : Int) < N := by omega
          obtain rfl : k = m := by omega
          have HDN := hidD (HND.out k (by rw [HPD.out]; exact hkn))
          clear hmk
          have hxd := xor_u8c (cf x k) (cf y k)
          have HCX := hidD (HAC.out k hkn)
          have HCY := hidD (HBC.out k hkn)
          generalize cf x k ^^^ cf y k = xd at *
          generalize cf x k = x2 at *
          generalize cf y k = y2 at *
          generalize hRD : ((plusS x y).take k).map encB = RD at *
          have HRD := hidD hRD
          clear hRD
          go_wp2_with fail
          refine wp_region_seg [0, 0, 0, 0, 0, 0, 0, 0, 0, 0, 1, 99, 99] 1 11 [g3, g4] (by kernel_rfl) (by kernel_rfl) (by kernel_rfl) (by kernel_rfl) (by kernel_rfl) (by kernel_rfl) (by kernel_rfl) (by kernel_rfl) (fun _ _ _ _ _ h => h) ?_
          simp only [SegW, pk, Nat.reduceMul, Nat.reduceAdd, Nat.reduceBEq, cond_true, cond_false]
          repeat (go_big_quiet_step (fail))
          refine wpQuiet_nil ?_
          go_wp2_with fail
          refine ⟨HKK.out _ HA1.out, ?_⟩
          repeat (go_big_quiet_step (fail))
          refine wpQuiet_nil ?_
          go_wp2_with (at_builtin; refine wpList_append_lies _ rfl (.tmp 88) (.tmp 98) 22 rfl w4.heap.size 5 i5 (.int .u8 0) 1 1 Try.underlying22 hi5 hz50 hz51 hz52 rfl (by decide) (.slice as1 k cs1) k RS rfl (row_below HOS.out HA1.out) ⟨wr.heap.size, 0, none⟩ 1 1 [.int .u8 (xs.toNat : Int)] rfl rfl (new_cell1 wr _ _) (by simp [Value.oneCell']) (by omega) (by unfold maxLen; omega) (by omega) (by have := HBW.out.size; simp; omega) _ rfl ?_; intro g1 c1 w1 hown1 hg1 hat1 hlt1; have HN1 := hidD hown1; have HD1 := hidD ((row_below HOD.out HA1.out).kept hg1 HAP.out.symm); have HP1 := hidD (HAP.out.grow (row_below HOD.out HA1.out) hat1 (n := k + 1) (c := c1)); have HB1 := hidD (row_grown (row_below HOS.out HA1.out) (Below.next HBW.out HA1.out) hg1 (by have := HBW.out.size; simp; omega)); clear hown1 hg1 hat1 hlt1)
          have HWW := hidD (Below.next HB4.out HB1.out)
          have HK2 : Hid (∀ wB, Below w1.heap.size w1 wB → ∃ i : KB w1 [ga, gb], wB = i.v) := fun wB hb => ⟨⟨wB, fun z hz => by
            rcases (show z = ga ∨ z = gb by simpa using hz) with h | h
            · rw [h]; exact hb.block _ (Nat.lt_of_lt_of_le HGA.out HWW.out.size)
            · rw [h]; exact hb.block _ (Nat.lt_of_lt_of_le HGB.out HWW.out.size)⟩, rfl⟩
          have f3 : ∀ i : KB w1 [ga, gb], i.v.cell? ⟨ga, oa + k, none⟩ = some (.int .u8 (x2.toNat : Int)) := fun i => (i.cell (b := ga) (by simp) _).trans ((HWW.out.cell (p := ⟨ga, oa + k, none⟩) HGA.out).trans HCX.out)
          have f4 : ∀ i : KB w1 [ga, gb], i.v.cell? ⟨gb, ob + k, none⟩ = some (.int .u8 (y2.toNat : Int)) := fun i => (i.cell (b := gb) (by simp) _).trans ((HWW.out.cell (p := ⟨gb, ob + k, none⟩) HGB.out).trans HCY.out)
          have HBWE : Hid (Below w4.heap.size w4 w1.drew) := HB1.out.drew
          have HWE : Hid (Below w1.heap.size w1 w1.drew) := (Below.refl _ _).drew
          have HA2 : Hid (Below w1.heap.size w1 (w1.alloc (.cells #[.int .u8 (xd.toNat : Int)] (5 : TypeId))).drew) := ((Below.refl _ _).alloc (Nat.le_refl _) _).drew
          clear f1 f2
          refine wp_region_seg [0, 0, 0, 0, 0, 0, 0, 0, 0, 0, 1, 99, 99] 1 11 [ga, gb] (by kernel_rfl) (by kernel_rfl) (by kernel_rfl) (by kernel_rfl) (by kernel_rfl) (by kernel_rfl) (by kernel_rfl) (by kernel_rfl) (fun _ _ _ _ _ h => h) ?_
          simp only [SegW, pk, Nat.reduceMul, Nat.reduceAdd, Nat.reduceBEq, cond_true, cond_false]
          repeat (go_big_quiet_step (fail))
          refine wpQuiet_nil ?_
          go_wp2_with fail
          refine ⟨HK2.out _ HA2.out, ?_⟩
          repeat (go_big_quiet_step (fail))
          refine wpQuiet_nil ?_
          go_wp2_with (at_builtin; refine wpList_append_lies _ rfl (.tmp 103) (.tmp 113) 22 rfl w4.heap.size 5 i5 (.int .u8 0) 1 1 Try.underlying22 hi5 hz50 hz51 hz52 rfl (by decide) (.slice ad1 k cd1) k RD rfl (row_below HD1.out HA2.out) ⟨w1.heap.size, 0, none⟩ 1 1 [.int .u8 (xd.toNat : Int)] rfl rfl (new_cell1 w1 _ _) (by simp [Value.oneCell']) (by omega) (by unfold maxLen; omega) (by omega) (by have := HB1.out.size; simp; omega) _ rfl ?_; intro g2 c2 w2 hown2 hg2 hat2 hlt2; have HN2 := hidD hown2; have HS2 := hidD ((row_below HN1.out HA2.out).kept hg2 HP1.out); have HP2 := hidD (HP1.out.symm.grow (row_below HN1.out HA2.out) hat2 (n := k + 1) (c := c2)); have HB2 := hidD (row_grown (row_below HD1.out HA2.out) (Below.next HB1.out HA2.out) hg2 (by have := HB1.out.size; simp; omega)); clear hown2 hg2 hat2 hlt2)
          go_roundw
          case rel => exact ⟨k + 1, k + 1, by omega, by omega, by go_num, by rw [HSN.out, List.map_append, HRS.out]; exact HS2.out, by rw [HDN.out, List.map_append, HRD.out]; exact HN2.out, HP2.out.symm, HB2.out⟩
          case measure => simp [intOf]; omega
        · have hkni : ¬ (k : Int) < N := by omega
          obtain rfl : N = m := by omega
          clear hmk
          generalize hRD : ((plusS x y).take N).map encB = RD at *
          have HRD := hidD hRD
          clear hRD
          go_wp2_with fail
          refine wp_region_seg [0, 0, 0, 0, 0, 0, 0, 0, 0, 0, 1, 99, 99] 1 11 [g3, g4] (by kernel_rfl) (by kernel_rfl) (by kernel_rfl) (by kernel_rfl) (by kernel_rfl) (by kernel_rfl) (by kernel_rfl) (by kernel_rfl) (fun _ _ _ _ _ h => h) ?_
          simp only [SegW, pk, Nat.reduceMul, Nat.reduceAdd, Nat.reduceBEq, cond_true, cond_false]
          repeat (go_big_quiet_step (fail))
          refine wpQuiet_nil ?_
          go_wp2_with fail
          refine ⟨HKK.out _ HA1.out, ?_⟩
          repeat (go_big_quiet_step (fail))
          refine wpQuiet_nil ?_
          go_wp2_with (at_builtin; refine wpList_append_lies _ rfl (.tmp 88) (.tmp 98) 22 rfl w4.heap.size 5 i5 (.int .u8 0) 1 1 Try.underlying22 hi5 hz50 hz51 hz52 rfl (by decide) (.slice as1 k cs1) k RS rfl (row_below HOS.out HA1.out) ⟨wr.heap.size, 0, none⟩ 1 1 [.int .u8 (xs.toNat : Int)] rfl rfl (new_cell1 wr _ _) (by simp [Value.oneCell']) (by omega) (by unfold maxLen; omega) (by omega) (by have := HBW.out.size; simp; omega) _ rfl ?_; intro g1 c1 w1 hown1 hg1 hat1 hlt1; have HN1 := hidD hown1; have HD1 := hidD ((row_below HOD.out HA1.out).kept hg1 HAP.out.symm); have HP1 := hidD (HAP.out.grow (row_below HOD.out HA1.out) hat1 (n := k + 1) (c := c1)); have HB1 := hidD (row_grown (row_below HOS.out HA1.out) (Below.next HBW.out HA1.out) hg1 (by have := HBW.out.size; simp; omega)); clear hown1 hg1 hat1 hlt1)
          go_roundw
          case rel => exact ⟨k + 1, N, by omega, by omega, by go_num, by rw [HSN.out, List.map_append, HRS.out]; exact HN1.out, by rw [HRD.out]; exact HD1.out, HP1.out, HB1.out⟩
          case measure => simp [intOf]; omega
      · obtain rfl : N + p = k := by omega
        obtain rfl : N = m := by omega
        have HTS : Hid ((plusS X Y).take (N + p) = plusS X Y) := by show _ = _; rw [← HPS.out, List.take_length]
        have HTD : Hid ((plusS x y).take N = plusS x y) := List.take_of_length_le (by rw [HPD.out]; omega)
        have HSS : Hid (SlAt wr (.slice as1 (N + p) cs1) (plusS X Y)) := by
          have := HOS.out
          rw [HTS.out] at this
          refine sl_of_own (base := w4.heap.size) ?_
          rw [HPS.out]; exact this
        have HSD : Hid (SlAt wr (.slice ad1 N cd1) (plusS x y)) := by
          have := HOD.out
          rw [HTD.out] at this
          refine sl_of_own (base := w4.heap.size) ?_
          rw [HPD.out]; exact this
        have HLW := hidD (HLI.out.next HBW.out)
        have HBZ := hidD (Below.next HB4.out HBW.out)
        have hkz := HKZ.out
        have hzb := HZB.out
        have HSM : Hid (∀ w u v, SlAt w u (plusS X Y) → SlAt w v (plusS X Y) → Calls Try.prog 16 #[u, v] w fun e w' => e = .returned (.bool true) ∧ Below w.heap.size w w') := fun w u v hu hv => by
          have := same_any _ _ u v w hu.by' hv.by'
          rw [decide_eq_true rfl] at this; exact this
        have HG1 : Hid (∀ w c v, CdAt w c p f → SlAt w v (plusS X Y) → Calls Try.prog 19 #[.pointer (some ⟨c, 0, none⟩), v] w fun e w' => e = .returned (.bool true) ∧ Below w.heap.size w w') := fun w c v hc hs => by
          have := HGO.out w c v _ hc hs
          rw [HGS.out] at this; exact this
        have HEE : Hid (∀ w c v, CdAt w c p f → SlAt w v (plusS x y) → Calls Try.prog 12 #[.pointer (some ⟨c, 0, none⟩), v] w fun e w' => ∃ g, e = .returned (.tuple #[.slice (some ⟨g, 0, none⟩) (N + p) (N + p), .int .i64 0]) ∧ SlAt w' (.slice (some ⟨g, 0, none⟩) (N + p) (N + p)) (plusS X Y) ∧ Below w.heap.size w w') := fun w c v hc hs => (HEN.out w c v _ HPD.out hc hs).mono fun e w' ⟨g, h1, h2, h3⟩ => by
          rw [HEQ.out] at h2
          exact ⟨g, h1, SlAt.row h2 HPS.out.symm (by omega), h3⟩
        have HRP : Hid ((List.replicate kz (0 : UInt8)).map encB ++ X.map encB = (List.replicate kz 0 ++ X).map encB) := by show _ = _; rw [List.map_append]
        have HRL : Hid ((List.replicate kz (0 : UInt8) ++ X).length = kz + (N + p)) := by show _ = _; rw [List.length_append, List.length_replicate, HLX.out]
        have hG := HGL.out kz hkz7
        clear HOS HOD HAP hk hlt HTS HTD hmk
        rcases hG with hG | hG
        · have hGi : (255 : Int) < ((kz + (N + p) : Nat) : Int) := by omega
          clear hG
          go_wp2_with (first
            | (go_at_call 12; refine (HEE.out _ _ _ HLW.out.cd HSD.out).mono ?_; rintro e w5 ⟨g5, rfl, hr5, hb⟩; have HL5 := hidD (HLW.out.next hb); have HZ5 := hidD hr5; have HS5 := hidD (HSS.out.next hb); have HB5 := hidD (Below.next HBZ.out hb); clear hb hr5 HLW HSS HBZ HSD)
            | (go_at_call 16; refine (HSM.out _ _ _ HZ5.out HS5.out).mono ?_; rintro e w6 ⟨rfl, hb⟩; have HL6 := hidD (HL5.out.next hb); have HS6 := hidD (HS5.out.next hb); have HB6 := hidD (Below.next HB5.out hb); clear hb HL5 HS5 HB5 HZ5)
            | (go_at_call 19; refine (HG1.out _ _ _ HL6.out.cd HS6.out).mono ?_; rintro e w7 ⟨rfl, hb⟩; have HL7 := hidD (HL6.out.next hb); have HB7 := hidD (Below.next HB6.out hb); clear hb HL6 HS6 HB6)
            | (at_make; refine wpList_make_full _ rfl _ _ 22 rfl w7.heap.size 5 i5 (.int .u8 0) 1 Try.underlying22 hi5 hz50 hz51 _ _ _ _ kz rfl rfl (by omega) (by omega) (by rw [hz52]; omega) (by unfold maxLen; omega) (Nat.le_refl _) ?_; intro w8 hown8 hg8; rw [made_zero] at hown8; have HO8 := hidD hown8; have HB8 : Hid (Below w7.heap.size w7 w8) := ((Below.refl w7.heap.size w7).grown hg8 (Nat.le_refl _) (fun k hk => by cases hk)); clear hown8 hg8)
            | (at_builtin; refine wpList_append_by rfl _ _ rfl w7.heap.size (.slice (some ⟨w7.heap.size, 0, none⟩) kz kz) kz ((List.replicate kz (0 : UInt8)).map encB) rfl HO8.out (.slice (some ⟨g3, 0, none⟩) (N + p) (N + p)) X rfl (SlAt.row (HL7.out.rx.next HB8.out) HLX.out.symm (by omega)).by' (by rw [HLX.out]; omega) HB8.out.size ?_; intro v9 w9 hown9 hg9; rw [HLX.out] at hown9; obtain ⟨a9, c9, hv9⟩ := row_shape hown9; subst hv9; have HO9 := hidD hown9; have HB9 := hidD (row_grown HO8.out HB8.out hg9 HB8.out.size); clear hown9 hg9))
          go_ret
          exact ⟨rfl, Below.next HB7.out HB9.out⟩
        · have HGG : Hid (∀ w c v, CdAt w c p f → SlAt w v (List.replicate kz 0 ++ X) → Calls Try.prog 19 #[.pointer (some ⟨c, 0, none⟩), v] w fun e w' => e = .returned (.bool true) ∧ Below w.heap.size w w') := fun w c v hc hs => by
            have := HGO.out w c v _ hc hs
            rw [hG] at this; exact this
          have hGi : ¬ (255 : Int) < ((kz + (N + p) : Nat) : Int) := by
            have hg2 := hG
            unfold goodS at hg2
            simp only [Bool.and_eq_true, decide_eq_true_eq] at hg2
            have := hg2.2.1
            rw [HRL.out] at this
            omega
          clear hG
          go_wp2_with (first
            | (go_at_call 12; refine (HEE.out _ _ _ HLW.out.cd HSD.out).mono ?_; rintro e w5 ⟨g5, rfl, hr5, hb⟩; have HL5 := hidD (HLW.out.next hb); have HZ5 := hidD hr5; have HS5 := hidD (HSS.out.next hb); have HB5 := hidD (Below.next HBZ.out hb); clear hb hr5 HLW HSS HBZ HSD)
            | (go_at_call 16; refine (HSM.out _ _ _ HZ5.out HS5.out).mono ?_; rintro e w6 ⟨rfl, hb⟩; have HL6 := hidD (HL5.out.next hb); have HS6 := hidD (HS5.out.next hb); have HB6 := hidD (Below.next HB5.out hb); clear hb HL5 HS5 HB5 HZ5)
            | (go_at_call 19; refine (HG1.out _ _ _ HL6.out.cd HS6.out).mono ?_; rintro e w7 ⟨rfl, hb⟩; have HL7 := hidD (HL6.out.next hb); have HB7 := hidD (Below.next HB6.out hb); clear hb HL6 HS6 HB6)
            | (at_make; refine wpList_make_full _ rfl _ _ 22 rfl w7.heap.size 5 i5 (.int .u8 0) 1 Try.underlying22 hi5 hz50 hz51 _ _ _ _ kz rfl rfl (by omega) (by omega) (by rw [hz52]; omega) (by unfold maxLen; omega) (Nat.le_refl _) ?_; intro w8 hown8 hg8; rw [made_zero] at hown8; have HO8 := hidD hown8; have HB8 : Hid (Below w7.heap.size w7 w8) := ((Below.refl w7.heap.size w7).grown hg8 (Nat.le_refl _) (fun k hk => by cases hk)); clear hown8 hg8)
            | (at_builtin; refine wpList_append_by rfl _ _ rfl w7.heap.size (.slice (some ⟨w7.heap.size, 0, none⟩) kz kz) kz ((List.replicate kz (0 : UInt8)).map encB) rfl HO8.out (.slice (some ⟨g3, 0, none⟩) (N + p) (N + p)) X rfl (SlAt.row (HL7.out.rx.next HB8.out) HLX.out.symm (by omega)).by' (by rw [HLX.out]; omega) HB8.out.size ?_; intro v9 w9 hown9 hg9; rw [HLX.out] at hown9; obtain ⟨a9, c9, hv9⟩ := row_shape hown9; subst hv9; have HO9 := hidD hown9; have HB9 := hidD (row_grown HO8.out HB8.out hg9 HB8.out.size); have HS9 : Hid (SlAt w9 (.slice a9 (kz + (N + p)) c9) (List.replicate kz 0 ++ X)) := (by { have := HO9.out; rw [HRP.out] at this; refine sl_of_own (base := w7.heap.size) ?_; rw [HRL.out]; exact this }); have HC9 := hidD (HL7.out.cd.next HB9.out); clear hown9 hg9)
            | (go_at_call 19; refine (HGG.out _ _ _ HC9.out HS9.out).mono ?_; rintro e wA ⟨rfl, hb⟩; have HBA := hidD (Below.next HB9.out hb); clear hb))
          go_ret
          exact ⟨rfl, Below.next HB7.out HBA.out⟩
theorem rsLinear_any (p f : Int) (a b : List UInt8) (hal : a.length ≤ 281474976710656) (hbl : b.length ≤ 281474976710656) (z : Int) (va vb : Value) (w : World) (hva : SlAt w va a) (hvb : SlAt w vb b) : Calls Try.prog 7 #[.int .i64 p, .int .i64 f, va, vb, .int .i64 z] w fun e w' => e = .returned (.bool true) ∧ Below w.heap.size w w' := by
  by_cases h : 1 ≤ p ∧ p ≤ 254 ∧ 0 ≤ f ∧ f ≤ 254
  · obtain ⟨P, rfl⟩ : ∃ P : Nat, p = P := ⟨p.toNat, by omega⟩
    obtain ⟨F, rfl⟩ : ∃ F : Nat, f = F := ⟨f.toNat, by omega⟩
    by_cases hn : min a.length b.length = 0 ∨ 255 < min a.length b.length + P
    · exact rsLinear_none P F (by omega) (by omega) (by omega) a b hal hbl z hn va vb w hva hvb
    · exact rsLinear_in P F (by omega) (by omega) (by omega) a b _ rfl (by omega) (by omega) z va vb w hva hvb
  · exact rsLinear_out p f h a b z va vb w hva hvb
end Go.Proofs.Ytdpkeffkpecmjaa
