/- RsMends, where no more than p are lost. -/
import Derived.Test.YtdpkeffkpecmjaaGe
namespace Go.Proofs.Ytdpkeffkpecmjaa
open Go.RowKit
set_option linter.unusedVariables false

/-- What lies in memory, but for the word that is hurt. -/
structure Mnd (w : World) (c p f gx : Nat) (x data : List UInt8) (vd vG vP vm : Value) (G PL : List Int) (masks : List UInt8) : Prop where
  cd : CdAt w c p f
  row : RowAt w gx x
  dat : SlAt w vd data
  gone : IlAt w vG G
  pl : IlAt w vP PL
  msk : SlAt w vm masks
theorem Mnd.next {w w' : World} {c p f gx : Nat} {x data : List UInt8} {vd vG vP vm : Value} {G PL : List Int} {masks : List UInt8} (h : Mnd w c p f gx x data vd vG vP vm G PL masks) (hb : Below w.heap.size w w') : Mnd w' c p f gx x data vd vG vP vm G PL masks := ⟨h.cd.next hb, h.row.next hb, h.dat.next hb, h.gone.next hb, h.pl.next hb, h.msk.next hb⟩
theorem sliceAt_i (a : Option Addr) (len cap C : Nat) (hC : C ≤ cap) (w : World) : (Instr.sliceAt 38 (.slice a len cap) none (some (.int .i64 (C : Int))) none).run Try.prog w = .ok (.slice (if cap = 0 then a else a.map (·.add 0)) C cap) w := by
  have hu : Try.prog.underlying 38 = some (.slice (Try.prog.elem 38)) := by kernel_rfl
  have he : Try.prog.elem 38 = 3 := by kernel_rfl
  obtain ⟨i0, hin, _, hz1, _⟩ := info_parts Try.info3
  rw [run_sliceAt_slice w 38 _ _ _ _ hu, run_slice_h w 38 a len cap hu .i64 (C : Int) (by omega) (by omega), he, run_sizeOf w hin, Result.andThen_ok]
  simp only [sliced, Int.toNat_natCast, Nat.zero_mul, Nat.sub_zero]
theorem xor_u8b (x y : UInt8) : bits .xor .u8 (x.toNat : Int) (y.toNat : Int) = ((x ^^^ y).toNat : Int) := by rw [u8_xor_nat _ _ (u8_lt x) (u8_lt y), UInt8.toNat_xor]
theorem rem_nat (i M : Nat) : (i : Int).tmod (M : Int) = ((i % M : Nat) : Int) := by
  rw [Int.tmod_eq_emod_of_nonneg (by omega)]; omega
theorem RowX.sl' {w : World} {g : Nat} {L : List UInt8} (h : RowX w g L) {n cap : Nat} (hn : L.length = n) (hc : n ≤ cap) (hm : cap ≤ 9223372036854775807) : SlAt w (.slice (some ⟨g, 0, none⟩) n cap) L := RowX.sl h hn.symm hc hm

set_option maxRecDepth 100000 in
set_option maxHeartbeats 12800000 in
theorem rsMends_few (p f : Nat) (h1 : 1 ≤ p) (h2 : p ≤ 254) (h3 : f ≤ 254) (data : List UInt8) (hd0 : 0 < data.length) (hd5 : data.length + p ≤ 255) (turned lost : List Int) (htl : turned.length ≤ 281474976710656) (hll : lost.length ≤ 281474976710656) (masks : List UInt8) (hml : masks.length ≤ 281474976710656) (hcase : (atTo lost (data.length + p) lost.length).length ≤ p)
    (vd vt vl vm : Value) (w : World) (hvd : SlAt w vd data) (hvt : IlAt w vt turned) (hvl : IlAt w vl lost) (hvm : SlAt w vm masks) : Calls Try.prog 6 #[.int .i64 p, .int .i64 f, vd, vt, vl, vm] w fun e w' => e = .returned (.bool true) ∧ Below w.heap.size w w' := by
  have HA := hidD (alive_any w)
  have HNW := hidD (rsnew_ok p f h1 h2 h3)
  have HVD := hidD hvd
  have HVT := hidD hvt
  have HVL := hidD hvl
  have HVM := hidD hvm
  have HXL : Hid ((encS f p data).length = data.length + p) := encS_length f p data
  have HXS := hidD (enc_syn f p data)
  obtain ⟨⟨ad, cd, rfl, hcd1, hcd2⟩, _⟩ := hvd
  obtain ⟨at', ct, rfl, hct1, hct2, _⟩ := hvt
  obtain ⟨al, cl, rfl, hcl1, hcl2, _⟩ := hvl
  obtain ⟨⟨am, cm, rfl, hcm1, hcm2⟩, _⟩ := hvm
  have HEN : Hid (∀ w c, CdAt w c p f → SlAt w (.slice ad data.length cd) data → Calls Try.prog 12 #[.pointer (some ⟨c, 0, none⟩), .slice ad data.length cd] w fun e w' => ∃ g, e = .returned (.tuple #[.slice (some ⟨g, 0, none⟩) (data.length + p) (data.length + p), .int .i64 0]) ∧ RowAt w' g (encS f p data) ∧ Below w.heap.size w w') := fun w c hc hs => (encode_ok h2 data hd0 hd5 _ w hc hs).mono fun e w' ⟨g, h1, _, h2, h3⟩ => ⟨g, h1, h2, h3⟩
  have HATL : Hid (∀ w, IlAt w (.slice al lost.length cl) lost → Calls Try.prog 31 #[.slice al lost.length cl, .int .i64 ((data.length + p : Nat) : Int)] w fun e w' => ∃ a k, e = .returned (.slice a (atTo lost (data.length + p) lost.length).length k) ∧ IlAt w' (.slice a (atTo lost (data.length + p) lost.length).length k) (atTo lost (data.length + p) lost.length) ∧ Below w.heap.size w w') := fun w hi =>
    (at_any lost (by omega) (data.length + p) (by omega) (by omega) _ w hi).mono fun e w' ⟨u, h1, h2, h3⟩ => by
      obtain ⟨a, k, rfl, h4, h5, h6⟩ := h2
      exact ⟨a, k, h1, ⟨a, k, rfl, h4, h5, h6⟩, h3⟩
  have HGA := hidD (at_are lost (data.length + p) (by omega) lost.length (atTo lost (data.length + p) lost.length).length)
  rw [List.take_length] at HGA
  have HGL : Hid ((atTo lost (data.length + p) lost.length).length ≤ p) := hcase
  have HATT : Hid (∀ w, IlAt w (.slice at' turned.length ct) turned → Calls Try.prog 31 #[.slice at' turned.length ct, .int .i64 ((data.length + p : Nat) : Int)] w fun e w' => ∃ a k, e = .returned (.slice a (atTo turned (data.length + p) turned.length).length k) ∧ IlAt w' (.slice a (atTo turned (data.length + p) turned.length).length k) (atTo turned (data.length + p) turned.length) ∧ Below w.heap.size w w') := fun w hi =>
    (at_any turned (by omega) (data.length + p) (by omega) (by omega) _ w hi).mono fun e w' ⟨u, h1, h2, h3⟩ => by
      obtain ⟨a, k, rfl, h4, h5, h6⟩ := h2
      exact ⟨a, k, h1, ⟨a, k, rfl, h4, h5, h6⟩, h3⟩
  have HPI : Hid (∀ k, k < (atTo turned (data.length + p) turned.length).length → ∃ q : Nat, (atTo turned (data.length + p) turned.length).getD k 0 = (q : Int) ∧ q < data.length + p) := fun k hk => by
    have := at_in turned (data.length + p) (by omega) turned.length ((atTo turned (data.length + p) turned.length).getD k 0) (by rw [List.getD_eq_getElem?_getD, List.getElem?_eq_getElem hk]; exact List.getElem_mem hk)
    exact ⟨((atTo turned (data.length + p) turned.length).getD k 0).toNat, by omega, by omega⟩
  have HPN := hidD (at_len turned (data.length + p) (by omega) turned.length)
  have HFR := hidD (enc_front f p data)
  generalize encS f p data = x at *
  generalize hG : atTo lost (data.length + p) lost.length = G at *
  clear hG
  have hgl : ¬ (p : Int) < (G.length : Int) := by omega
  generalize atTo turned (data.length + p) turned.length = PL at *
  generalize hN : data.length + p = N at *
  have HOWN : Hid (∀ w g, RowAt w g x → Calls Try.prog 11 #[.slice (some ⟨g, 0, none⟩) N N] w fun e w' => ∃ g' cap, e = .returned (.slice (some ⟨g', 0, none⟩) N cap) ∧ N ≤ cap ∧ cap ≤ 9223372036854775807 ∧ w.heap.size ≤ g' ∧ RowX w' g' x ∧ Below w.heap.size w w') := fun w g hr => by
    have := own_any x (by rw [HXL.out]; omega) (by rw [HXL.out]; omega) (.slice (some ⟨g, 0, none⟩) N N) w (SlAt.row hr HXL.out.symm (by omega))
    rw [HXL.out] at this
    exact this
  have HDE : Hid (∀ w c vb vG b D, CdAt w c p f → SlAt w vb b → IlAt w vG G → Hurt x b G D → 2 * D.length + G.length ≤ p → Calls Try.prog 21 #[.pointer (some ⟨c, 0, none⟩), vb, vG] w fun e w' => ∃ g a k, e = .returned (.tuple #[.slice (some ⟨g, 0, none⟩) data.length data.length, .slice a (difTo b x N).length k, .int .i64 0]) ∧ SlAt w' (.slice (some ⟨g, 0, none⟩) data.length data.length) data ∧ IlAt w' (.slice a (difTo b x N).length k) (difTo b x N) ∧ Below w.heap.size w w') := fun w c vb vG b D hc hb hg hh hbd => by
    have hfi := hh.fine (f := f) h1 h2 (by rw [HXL.out]; omega) (by rw [HXL.out]; omega) HXS.out (by rw [HXL.out]; exact HGA.out) hbd
    refine (decode_ok h1 h2 h3 b G hfi.1 vb vG w hc hb hg).mono ?_
    rintro e w' ⟨g, u, rfl, hr, hi, hb2⟩
    have hbl : b.length = N := by rw [hh.len, HXL.out]
    rw [hbl, hfi.2, show N - p = data.length by omega] at hr
    rw [hbl, hfi.2, dif_comm] at hi
    rw [HFR.out] at hr
    obtain ⟨a, k, rfl, h4, h5, h6⟩ := hi
    refine ⟨g, a, k, ?_, SlAt.row hr rfl (by omega), ⟨a, k, rfl, h4, h5, h6⟩, hb2⟩
    rw [hbl, show N - p = data.length by omega]
  have HSM : Hid (∀ w u v, SlAt w u data → SlAt w v data → Calls Try.prog 16 #[u, v] w fun e w' => e = .returned (.bool true) ∧ Below w.heap.size w w') := fun w u v hu hv => by
    have := same_any data data u v w hu.by' hv.by'
    rw [decide_eq_true rfl] at this; exact this
  have HIN : Hid (∀ w u v W, W.length ≤ 255 → IlAt w u W → IlAt w v W → Calls Try.prog 25 #[u, v] w fun e w' => e = .returned (.bool true) ∧ Below w.heap.size w w') := fun w u v W hW hu hv => by
    have := ints_any W W (by omega) u v w hu hv
    rw [decide_eq_true rfl] at this; exact this
  have HG1 : Hid (∀ w c v, CdAt w c p f → SlAt w v x → Calls Try.prog 19 #[.pointer (some ⟨c, 0, none⟩), v] w fun e w' => e = .returned (.bool true) ∧ Below w.heap.size w w') := fun w c v hc hs => by
    have := good_any h2 h3 x v w hc hs
    have hx := (Hurt.start x G).good (f := f) (p := p) (by rw [HXL.out]; omega) (by rw [HXL.out]; omega) HXS.out (by rw [HXL.out]; exact HGA.out) (by have := HGL.out; simp; omega)
    rw [hx, (dif_none x.length).2 fun j _ => rfl] at this
    exact this
  have HG2 : Hid (∀ w c v b D, CdAt w c p f → SlAt w v b → Hurt x b G D → 2 * D.length + G.length ≤ p → Calls Try.prog 19 #[.pointer (some ⟨c, 0, none⟩), v] w fun e w' => e = .returned (.bool ((difTo b x N).length == 0)) ∧ Below w.heap.size w w') := fun w c v b D hc hs hh hbd => by
    have := good_any h2 h3 b v w hc hs
    rw [hh.good (f := f) (p := p) (by rw [HXL.out]; omega) (by rw [HXL.out]; omega) HXS.out (by rw [HXL.out]; exact HGA.out) hbd, HXL.out] at this
    exact this
  have HAM : Hid (∀ w v q, IlAt w v G → Calls Try.prog 32 #[v, .int .i64 q] w fun e w' => e = .returned (.bool (decide (q ∈ G))) ∧ Below w.heap.size w w') := fun w v q hi => among_any G (by have := HGL.out; omega) q v w hi
  have HP1 := hidD h1
  have HND : Hid (data.length + p = N) := hN
  clear hcase hN
  go_enter Try.func6, Try.ntmps6
  go_wp2_with (first
    | (go_at_call 10; refine HA.out.mono ?_; rintro e w1 ⟨rfl, hb⟩; have HB1 := hidD hb; clear hb)
    | (go_at_call 30; refine (HNW.out _).mono ?_; rintro e w2 ⟨c, rfl, _, hc, hb⟩; have HC2 := hidD hc; have HB2 := hidD (Below.next HB1.out hb); clear hb hc HB1)
    | (go_at_call 12; refine (HEN.out _ _ HC2.out (HVD.out.next HB2.out)).mono ?_; rintro e w3 ⟨gx, rfl, hr3, hb⟩; have HC3 := hidD (HC2.out.next hb); have HE3 := hidD hr3; have HB3 := hidD (Below.next HB2.out hb); clear hb hr3 HC2 HB2)
    | (go_at_call 31; refine (HATL.out _ (HVL.out.next HB3.out)).mono ?_; rintro e w4 ⟨aG, cG, rfl, hi4, hb⟩; have HE4 := hidD (HE3.out.next hb); have HC4 := hidD (HC3.out.next hb); have HG4 := hidD hi4; have HB4 := hidD (Below.next HB3.out hb); clear hb hi4 HE3 HC3 HB3)
    | (go_at_call 31; refine (HATT.out _ (HVT.out.next HB4.out)).mono ?_; rintro e w5 ⟨aP, cP, rfl, hi5, hb⟩; have HB5 := hidD (Below.next HB4.out hb); have HM5 : Hid (Mnd w5 c p f gx x data (.slice ad data.length cd) (.slice aG G.length cG) (.slice aP PL.length cP) (.slice am masks.length cm) G PL masks) := ⟨HC4.out.next hb, HE4.out.next hb, HVD.out.next HB5.out, HG4.out.next hb, hi5, HVM.out.next HB5.out⟩; clear hb hi5 HE4 HC4 HB4 HG4)
    | (go_at_call 11; refine (HOWN.out _ _ HM5.out.row).mono ?_; rintro e w6 ⟨gb, cb, rfl, hcb1, hcb2, hgb, hr6, hb⟩; have HR6 := hidD hr6; have HGB := hidD hgb; have HB6 := hidD hb; clear hb hr6 hgb))
  go_loopw [19, 20] (fun q i wr => ∃ (k cnt : Nat) (b : List UInt8) (D : List Int), k ≤ PL.length ∧ i = .int .i64 k ∧ q = .int .i64 cnt ∧ D.length = cnt ∧ 2 * cnt + G.length ≤ p ∧ Hurt x b G D ∧ RowX wr gb b ∧ Below w5.heap.size w5 wr) (fun _ i _ => PL.length - (intOf i).toNat)
  case atStart => exact ⟨0, 0, x, [], Nat.zero_le _, rfl, rfl, rfl, by have := HGL.out; omega, Hurt.start x G, HR6.out, HB6.out⟩
  case round =>
    obtain ⟨k, cnt, b, D, hk, rfl, rfl, hD, hbd, hh, hrx, hbel⟩ := hrel
    have HDL := hidD hD
    have HBD := hidD hbd
    have HH := hidD hh
    have HRX := hidD hrx
    have HBW := hidD hbel
    have HBL : Hid (b.length = N) := by show _ = _; rw [hh.len, HXL.out]
    clear hD hh hrx
    by_cases hgo : k < PL.length ∧ 0 < masks.length
    · obtain ⟨hlt, hmk⟩ := hgo
      have hlti : (k : Int) < PL.length := by omega
      have hmki : (0 : Int) < masks.length := by omega
      have hmk0 : ¬ (masks.length : Int) = 0 := by omega
      have hmkb : ((masks.length : Int) == 0) = false := beq_eq_false_iff_ne.2 hmk0
      obtain ⟨q, hq, hqN⟩ := HPI.out k hlt
      obtain ⟨gp, op, hgp, hcp, hae⟩ : ∃ gp op, gp < w5.heap.size ∧ w5.cell? ⟨gp, op + k, none⟩ = some (.int .i64 (q : Int)) ∧ aP = some ⟨gp, op, none⟩ := by
        obtain ⟨a', c', he, _, _, hcells⟩ := HM5.out.pl
        injection he with e1 e2 e3
        obtain ⟨gp, op, h1, h2, h3⟩ := hcells k hlt
        rw [hq] at h3
        exact ⟨gp, op, h2, h3, by rw [e1, h1]⟩
      obtain ⟨gm, om, hgm, hcm, ham⟩ : ∃ gm om, gm < w5.heap.size ∧ (∀ j, j < masks.length → w5.cell? ⟨gm, om + j, none⟩ = some (.int .u8 ((cf masks j).toNat : Int))) ∧ am = some ⟨gm, om, none⟩ := by
        rcases HM5.out.msk.by' with ⟨h0, _⟩ | ⟨g', o', c', he, h1, h2⟩
        · rw [h0] at hmk; simp at hmk
        · injection he with e1 e2 e3
          exact ⟨g', o', h1, h2, e1⟩
      subst hae ham
      have hjm : k % masks.length < masks.length := Nat.mod_lt _ hmk
      have hjmi : ((k % masks.length : Nat) : Int) < masks.length := by omega
      have HCM := hidD (hcm (k % masks.length) hjm)
      have HCP := hidD hcp
      have HGP := hidD hgp
      have HGM := hidD hgm
      have hrem := rem_nat k masks.length
      have hqNi : (q : Int) < N := by omega
      have hpn := HPN.out
      have f1 : wr.cell? ⟨gp, op + k, none⟩ = some (.int .i64 (q : Int)) := (hbel.cell (p := ⟨gp, op + k, none⟩) hgp).trans hcp
      have HQN := hidD hqN
      clear hcm hcp hgp hgm hbel hq hk hjm
      have hxr := xor_u8b (cf b q) (cf masks (k % masks.length))
      generalize hmm : cf masks (k % masks.length) = mk at *
      generalize hbq : cf b q = bq at *
      generalize k % masks.length = j at *
      by_cases hin : (q : Int) ∈ G
      · have HAMT : Hid (∀ w v, IlAt w v G → Calls Try.prog 32 #[v, .int .i64 (q : Int)] w fun e w' => e = .returned (.bool true) ∧ Below w.heap.size w w') := fun w v h => by
          have := HAM.out w v q h
          rwa [decide_eq_true hin] at this
        have HIG := hidD hin
        clear hin hbd
        go_wp2_with (go_at_call 32; refine (HAMT.out _ _ (HM5.out.gone.next HBW.out)).mono ?_; rintro e w7 ⟨rfl, hb⟩; have HB7 := hidD hb; clear hb)
        have HW7 := hidD (Below.next HBW.out HB7.out)
        have HR7 := hidD (HRX.out.next HB7.out)
        have HDR : Hid (Below w7.heap.size w7 w7.drew) := (Below.refl _ _).drew
        have fP : ∀ i : KB w7 [gp, gb, gm], i.v.cell? ⟨gp, op + k, none⟩ = some (.int .i64 (q : Int)) := fun i => (i.cell (b := gp) (by simp) _).trans ((HW7.out.cell (p := ⟨gp, op + k, none⟩) HGP.out).trans HCP.out)
        have fB : ∀ i : KB w7 [gp, gb, gm], i.v.cell? ⟨gb, q, none⟩ = some (.int .u8 (bq.toNat : Int)) := fun i => (i.cell (b := gb) (by simp) _).trans ((HR7.out.cell (by rw [HBL.out]; exact HQN.out)).trans (congrArg (fun z : UInt8 => some (Value.int .u8 (z.toNat : Int))) hbq))
        have fM : ∀ i : KB w7 [gp, gb, gm], i.v.cell? ⟨gm, om + j, none⟩ = some (.int .u8 (mk.toNat : Int)) := fun i => (i.cell (b := gm) (by simp) _).trans ((HW7.out.cell (p := ⟨gm, om + j, none⟩) HGM.out).trans HCM.out)
        have hc7 : w7.cell? ⟨gb, q, none⟩ = some (.int .u8 (bq.toNat : Int)) := (HR7.out.cell (by rw [HBL.out]; exact HQN.out)).trans (congrArg (fun z : UInt8 => some (Value.int .u8 (z.toNat : Int))) hbq)
        have hf7 : w7.frozen? ⟨gb, q, none⟩ = false := HR7.out.frozen q
        have hfr : w7.drew.frozen? ⟨gb, q, none⟩ = false := (HR7.out.next HDR.out).frozen q
        have HRS : Hid (RowX (w7.drew.setCell ⟨gb, q, none⟩ (.int .u8 ((bq ^^^ mk).toNat : Int))) gb (b.set q (bq ^^^ mk))) := (HR7.out.next HDR.out).set (by rw [HBL.out]; exact HQN.out) _
        have HBS : Hid (Below w5.heap.size w5 (w7.drew.setCell ⟨gb, q, none⟩ (.int .u8 ((bq ^^^ mk).toNat : Int)))) := (Below.next HW7.out HDR.out).setCell (p := ⟨gb, q, none⟩) HGB.out _
        generalize bq ^^^ mk = xr at *
        refine wp_region_seg [0, 0, 0, 0, 0, 0, 0, 0, 0, 0, 0, 0, 0, 0, 0, 0, 0, 0, 0, 0, 0, 99] 0 21 [gp, gb, gm] (by kernel_rfl) (by kernel_rfl) (by kernel_rfl) (by kernel_rfl) (by kernel_rfl) (by kernel_rfl) (by kernel_rfl) (by kernel_rfl) (fun _ _ _ _ _ h => h) ?_
        simp only [SegW, pk, Nat.reduceMul, Nat.reduceBEq, cond_true, cond_false]
        repeat (go_big_quiet_step (fail))
        refine wpQuiet_nil ?_
        go_wp2_with fail
        go_roundw
        case rel => exact ⟨k + 1, cnt, b.set q xr, D, by omega, by go_num, rfl, HDL.out, HBD.out, HH.out.put q (by rw [HXL.out]; exact HQN.out) _ (.inl HIG.out), HRS.out, HBS.out⟩
        case measure => simp [intOf]; omega
      · have HAMF : Hid (∀ w v, IlAt w v G → Calls Try.prog 32 #[v, .int .i64 (q : Int)] w fun e w' => e = .returned (.bool false) ∧ Below w.heap.size w w') := fun w v h => by
          have := HAM.out w v q h
          rwa [decide_eq_false hin] at this
        clear hin
        by_cases hfull : p < 2 * (cnt + 1) + G.length
        · have hfi : (p : Int) < 2 * ((cnt : Int) + 1) + (G.length : Nat) := by omega
          clear hfull
          go_wp2_with (go_at_call 32; refine (HAMF.out _ _ (HM5.out.gone.next HBW.out)).mono ?_; rintro e w7 ⟨rfl, hb⟩; have HB7 := hidD hb; clear hb)
          go_roundw
          case rel => exact ⟨k + 1, cnt, b, D, by omega, by go_num, rfl, HDL.out, HBD.out, HH.out, HRX.out.next HB7.out, Below.next HBW.out HB7.out⟩
          case measure => simp [intOf]; omega
        · have hfi : 2 * ((cnt : Int) + 1) + (G.length : Nat) ≤ (p : Int) := by omega
          have HBD2 : Hid (2 * (cnt + 1) + G.length ≤ p) := by
            have := HGL.out
            show _ ≤ _
            omega
          clear hfull
          go_wp2_with (go_at_call 32; refine (HAMF.out _ _ (HM5.out.gone.next HBW.out)).mono ?_; rintro e w7 ⟨rfl, hb⟩; have HB7 := hidD hb; clear hb)
          have HW7 := hidD (Below.next HBW.out HB7.out)
          have HR7 := hidD (HRX.out.next HB7.out)
          have HDR : Hid (Below w7.heap.size w7 w7.drew) := (Below.refl _ _).drew
          have fP : ∀ i : KB w7 [gp, gb, gm], i.v.cell? ⟨gp, op + k, none⟩ = some (.int .i64 (q : Int)) := fun i => (i.cell (b := gp) (by simp) _).trans ((HW7.out.cell (p := ⟨gp, op + k, none⟩) HGP.out).trans HCP.out)
          have fB : ∀ i : KB w7 [gp, gb, gm], i.v.cell? ⟨gb, q, none⟩ = some (.int .u8 (bq.toNat : Int)) := fun i => (i.cell (b := gb) (by simp) _).trans ((HR7.out.cell (by rw [HBL.out]; exact HQN.out)).trans (congrArg (fun z : UInt8 => some (Value.int .u8 (z.toNat : Int))) hbq))
          have fM : ∀ i : KB w7 [gp, gb, gm], i.v.cell? ⟨gm, om + j, none⟩ = some (.int .u8 (mk.toNat : Int)) := fun i => (i.cell (b := gm) (by simp) _).trans ((HW7.out.cell (p := ⟨gm, om + j, none⟩) HGM.out).trans HCM.out)
          have hc7 : w7.cell? ⟨gb, q, none⟩ = some (.int .u8 (bq.toNat : Int)) := (HR7.out.cell (by rw [HBL.out]; exact HQN.out)).trans (congrArg (fun z : UInt8 => some (Value.int .u8 (z.toNat : Int))) hbq)
          have hf7 : w7.frozen? ⟨gb, q, none⟩ = false := HR7.out.frozen q
          have hfr : w7.drew.frozen? ⟨gb, q, none⟩ = false := (HR7.out.next HDR.out).frozen q
          have HRS : Hid (RowX (w7.drew.setCell ⟨gb, q, none⟩ (.int .u8 ((bq ^^^ mk).toNat : Int))) gb (b.set q (bq ^^^ mk))) := (HR7.out.next HDR.out).set (by rw [HBL.out]; exact HQN.out) _
          have HBS : Hid (Below w5.heap.size w5 (w7.drew.setCell ⟨gb, q, none⟩ (.int .u8 ((bq ^^^ mk).toNat : Int)))) := (Below.next HW7.out HDR.out).setCell (p := ⟨gb, q, none⟩) HGB.out _
          generalize bq ^^^ mk = xr at *
          refine wp_region_seg [0, 0, 0, 0, 0, 0, 0, 0, 0, 0, 0, 0, 0, 0, 0, 0, 0, 0, 0, 0, 0, 99] 0 21 [gp, gb, gm] (by kernel_rfl) (by kernel_rfl) (by kernel_rfl) (by kernel_rfl) (by kernel_rfl) (by kernel_rfl) (by kernel_rfl) (by kernel_rfl) (fun _ _ _ _ _ h => h) ?_
          simp only [SegW, pk, Nat.reduceMul, Nat.reduceBEq, cond_true, cond_false]
          repeat (go_big_quiet_step (fail))
          refine wpQuiet_nil ?_
          go_wp2_with fail
          go_roundw
          case rel => exact ⟨k + 1, cnt + 1, b.set q xr, D ++ [(q : Int)], by omega, by go_num, by go_num, by rw [List.length_append, HDL.out]; rfl, HBD2.out, (HH.out.more q).put q (by rw [HXL.out]; exact HQN.out) _ (.inr (List.mem_append.2 (.inr (List.mem_singleton.2 rfl)))), HRS.out, HBS.out⟩
          case measure => simp [intOf]; omega
    · have HKX : Hid (SlAt wr (.slice (some ⟨gb, 0, none⟩) N cb) b) := RowX.sl' HRX.out HBL.out hcb1 hcb2
      have HMW := hidD (HM5.out.next HBW.out)
      have HBA := hidD (Below.next HB5.out HBW.out)
      have HDN : Hid (2 * D.length + G.length ≤ p) := by show _ ≤ _; rw [HDL.out]; exact HBD.out
      have HDF := hidD (dif_len b x)
      have HDI : Hid (∀ k, difTo b x (k + 1) = if cf b k = cf x k then difTo b x k else difTo b x k ++ [(k : Int)]) := fun k => by rw [difTo]
      have HD0 : Hid (difTo b x 0 = []) := rfl
      have HAL : Hid (∀ (w' : World) o, Below w'.heap.size w' (w'.alloc o)) := fun w' o => (Below.refl _ _).alloc (Nat.le_refl _) o
      have hex : ¬ (k : Int) < PL.length ∨ (k : Int) < PL.length ∧ ¬ (0 : Int) < masks.length := by omega
      clear hgo hbel hbd hk
      obtain ⟨wo, rfl⟩ : ∃ wo, wo = wr := ⟨wr, rfl⟩
      rcases hex with hex | ⟨hex, hex2⟩
      all_goals
        go_wp2_with fail
        go_loopw [21, 22] (fun o i wq => ∃ k2 : Nat, k2 ≤ N ∧ i = .int .i64 k2 ∧ wq.ownsRow wo.heap.size 3 1 o (difTo b x k2).length ((difTo b x k2).map encI) ∧ Below wo.heap.size wo wq) (fun _ i _ => N - (intOf i).toNat)
        case atStart => exact ⟨0, Nat.zero_le _, rfl, by rw [HD0.out]; exact World.ownsRow_nil _ _ _ _, Below.refl _ _⟩
        case round =>
          obtain ⟨k2, hk2, rfl, hown, hbel2⟩ := hrel
          have HBQ := hidD hbel2
          have HOQ := hidD hown
          clear hown hbel2
          by_cases hlt2 : k2 < N
          · have hlti2 : (k2 : Int) < N := by omega
            have HL2 := hidD (HDF.out k2)
            have g1 : wr.cell? ⟨gb, k2, none⟩ = some (.int .u8 ((cf b k2).toNat : Int)) := (HRX.out.next HBQ.out).cell (by rw [HBL.out]; exact hlt2)
            have g2 : wr.cell? ⟨gx, k2, none⟩ = some (.int .u8 ((cf x k2).toNat : Int)) := (HMW.out.row.next HBQ.out).cell (by rw [HXL.out]; exact hlt2)
            by_cases he : cf b k2 = cf x k2
            · have HN2 : Hid (difTo b x (k2 + 1) = difTo b x k2) := by have := HDI.out k2; rw [if_pos he] at this; exact this
              rw [he] at g1
              have hbb : (((cf x k2).toNat : Int) == ((cf x k2).toNat : Int)) = true := beq_self_eq_true _
              generalize ((cf x k2).toNat : Int) = z at *
              clear he
              go_wp2_with fail
              go_quiet (fail)
              go_wp2_with fail
              go_roundw
              case rel => exact ⟨k2 + 1, by omega, by go_num, by rw [HN2.out]; exact row_below HOQ.out (below_drewN (Below.refl _ _) _), below_drewN HBQ.out _⟩
              case measure => simp [intOf]; omega
            · have HN2 : Hid (difTo b x (k2 + 1) = difTo b x k2 ++ [(k2 : Int)]) := by have := HDI.out k2; rw [if_neg he] at this; exact this
              have hne : ((cf b k2).toNat : Int) ≠ ((cf x k2).toNat : Int) := fun hx => he (UInt8.toNat.inj (by omega))
              have hbb : (((cf b k2).toNat : Int) == ((cf x k2).toNat : Int)) = false := beq_eq_false_iff_ne.2 hne
              generalize ((cf x k2).toNat : Int) = z at *
              generalize ((cf b k2).toNat : Int) = y at *
              generalize difTo b x k2 = W at *
              clear he
              go_wp2_with fail
              go_quiet (fail)
              have HBN := hidD (below_drewN HBQ.out nq)
              have HON := hidD (row_below HOQ.out (below_drewN (Below.refl _ _) nq))
              generalize wr.drewN nq = wn at *
              go_wp2_with (at_builtin; refine wpList_append_int rfl _ _ rfl wo.heap.size u21 W.length (W.map encI) rfl (HON.out.alloc _) wn.heap.size (k2 : Int) rfl (new_cell1 wn (.int .i64 (k2 : Int)) 3 0 _ rfl) (by have := HL2.out; omega) (by have := HBN.out.size; simp; omega) ?_; intro v8 w8 hown8 hg8; have HO8 := hidD hown8; have HB8 := hidD (row_grown (HON.out.alloc _) (Below.next HBN.out (HAL.out _ _)) hg8 (by have := HBN.out.size; simp; omega)); clear hown8 hg8)
              go_roundw
              case rel => exact ⟨k2 + 1, by omega, by go_num, by rw [HN2.out, List.length_append, List.map_append]; exact HO8.out, HB8.out⟩
              case measure => simp [intOf]; omega
          · obtain rfl : N = k2 := by omega
            obtain ⟨a2, c2, hu2⟩ := row_shape HOQ.out
            subst hu2
            have HW2 := hidD (il_of_own HOQ.out)
            have HLN := hidD (HDF.out N)
            have HX2 := hidD (HKX.out.next HBQ.out)
            have HM2 := hidD (HMW.out.next HBQ.out)
            have HBZ := hidD (Below.next HBA.out HBQ.out)
            have HDEB := hidD (fun w c vb vG h1 h2 h3 => HDE.out w c vb vG b D h1 h2 h3 HH.out HDN.out)
            have HGB2 := hidD (fun w c v h1 h2 => HG2.out w c v b D h1 h2 HH.out HDN.out)
            clear hk2 hlt2
            generalize difTo b x N = W at *
            cases hz : (W.length == 0)
            all_goals
              rw [hz] at HGB2
              have hzi := (show ((W.length : Int) == 0) = (W.length == 0) from by
                by_cases h : W.length = 0
                · rw [h]; rfl
                · rw [beq_eq_false_iff_ne.2 h]; exact beq_eq_false_iff_ne.2 (by omega))
              rw [hz] at hzi
              clear hz
              go_wp2_with (first
                | (go_at_call 21; refine (HDEB.out _ _ _ _ HM2.out.cd HX2.out HM2.out.gone).mono ?_; rintro e w8 ⟨g8, a8, k8, rfl, hs8, hi8, hb⟩; have HM8 := hidD (HM2.out.next hb); have HX8 := hidD (HX2.out.next hb); have HW8 := hidD (HW2.out.next hb); have HB8 := hidD (Below.next HBZ.out hb); have HS8 := hidD hs8; have HI8 := hidD hi8; clear hb hs8 hi8 HM2 HX2 HW2 HBZ)
                | (go_at_call 16; refine (HSM.out _ _ _ HS8.out HM8.out.dat).mono ?_; rintro e w9 ⟨rfl, hb⟩; have HM9 := hidD (HM8.out.next hb); have HX9 := hidD (HX8.out.next hb); have HW9 := hidD (HW8.out.next hb); have HI9 := hidD (HI8.out.next hb); have HB9 := hidD (Below.next HB8.out hb); clear hb HM8 HX8 HW8 HI8 HB8 HS8)
                | (go_at_call 25; refine (HIN.out _ _ _ W (by have := HLN.out; omega) HI9.out HW9.out).mono ?_; rintro e wA ⟨rfl, hb⟩; have HMA := hidD (HM9.out.next hb); have HXA := hidD (HX9.out.next hb); have HBA2 := hidD (Below.next HB9.out hb); clear hb HM9 HX9 HW9 HI9 HB9)
                | (go_at_call 19; refine (HG1.out _ _ _ HMA.out.cd (SlAt.row HMA.out.row HXL.out.symm (by omega))).mono ?_; rintro e wB ⟨rfl, hb⟩; have HMB := hidD (HMA.out.next hb); have HXB := hidD (HXA.out.next hb); have HBB := hidD (Below.next HBA2.out hb); clear hb HMA HXA HBA2)
                | (go_at_call 19; refine (HGB2.out _ _ _ HMB.out.cd HXB.out).mono ?_; rintro e wC ⟨rfl, hb⟩; have HBC := hidD (Below.next HBB.out hb); clear hb HMB HXB HBB))
              go_ret
              exact ⟨rfl, HBC.out⟩
end Go.Proofs.Ytdpkeffkpecmjaa
