/- The walk of CrcBytes. -/
import Derived.Test.YtjhaaphgaplhlabByM
namespace Go.Proofs.Ytjhaaphgaplhlab
open Go.RowKit
set_option linter.unusedVariables false

set_option maxRecDepth 100000 in
set_option maxHeartbeats 400000 in
/-- Where nothing is asked. -/
theorem crcBytes_out (m : Mw) (hm : MwOk m) (ho : ¬ m.Valid ∨ m.W < 8) (sl : Value) (w : World) : Calls Try.prog 5 #[m.v, sl] w fun e w' => e = .returned (.bool true) ∧ Below w.heap.size w w' := by
  have HL := hidD live_any
  have HM := hidD (fun w => mine_any m w)
  obtain ⟨vb, hvb⟩ : ∃ vb : Bool, vb = true ↔ m.Valid := by
    by_cases h : m.Valid
    · exact ⟨true, by simp [h]⟩
    · exact ⟨false, by simp [h]⟩
  have HV := hidD (fun w => valid_any m hm vb hvb w)
  have ho' : vb = false ∨ m.W < 8 := by
    rcases ho with h | h
    · left; cases vb
      · rfl
      · exact absurd (hvb.1 rfl) h
    · exact .inr h
  have HM0 := hidD (MwAt.new m w 24)
  have HSZ : Hid (w.heap.size < (w.alloc (.cells m.cells 24)).heap.size) := by show _ < _; simp
  have HB0 : Hid (Below w.heap.size w (w.alloc (.cells m.cells 24))) := (Below.refl _ _).alloc (Nat.le_refl _) _
  have HMN : Hid (∀ w : World, MwAt (w.alloc (.cells m.cells 27)) w.heap.size m) := fun w => MwAt.new m w 27
  clear hm hvb ho
  obtain ⟨nm, W, P, I, inn, out, X⟩ := m
  simp only [Mw.v, Mw.cells] at *
  cases vb
  · clear ho'
    go_enter Try.func5, Try.ntmps5
    go_wp2_with (first
      | (go_at_call 6; refine (HL.out _).mono ?_; rintro e w1 ⟨rfl, hb1⟩; obtain ⟨k0, k1, k2, k3, k4, k5, k6⟩ := HM0.out.below hb1 HSZ.out; have HB1 := hidD (Below.next HB0.out hb1); clear hb1)
      | (go_at_call 7; refine (HM.out _).mono ?_; rintro e w2 ⟨rfl, hb2⟩; have HB2 := hidD (Below.next HB1.out hb2); clear hb2; have HX := hidD (HMN.out w2); have HX0 : Hid (∀ o, w2.heap.size < (w2.alloc o).heap.size) := fun o => by simp)
      | (go_at_call 8; refine (HV.out _).mono ?_; rintro e w3 ⟨rfl, hb3⟩; obtain ⟨q0, q1, q2, q3, q4, q5, q6⟩ := HX.out.below hb3 (HX0.out _); have HB3 := hidD (Below.next (Below.more HB2.out _) hb3); clear hb3))
    go_ret
    exact ⟨rfl, HB3.out⟩
  · have h8 : W < 8 := by rcases ho' with h | h; cases h; exact h
    clear ho'
    go_enter Try.func5, Try.ntmps5
    go_wp2_with (first
      | (go_at_call 6; refine (HL.out _).mono ?_; rintro e w1 ⟨rfl, hb1⟩; obtain ⟨k0, k1, k2, k3, k4, k5, k6⟩ := HM0.out.below hb1 HSZ.out; have HB1 := hidD (Below.next HB0.out hb1); clear hb1)
      | (go_at_call 7; refine (HM.out _).mono ?_; rintro e w2 ⟨rfl, hb2⟩; have HB2 := hidD (Below.next HB1.out hb2); clear hb2; have HX := hidD (HMN.out w2); have HX0 : Hid (∀ o, w2.heap.size < (w2.alloc o).heap.size) := fun o => by simp)
      | (go_at_call 8; refine (HV.out _).mono ?_; rintro e w3 ⟨rfl, hb3⟩; obtain ⟨q0, q1, q2, q3, q4, q5, q6⟩ := HX.out.below hb3 (HX0.out _); have HB3 := hidD (Below.next (Below.more HB2.out _) hb3); clear hb3))
    go_ret
    exact ⟨rfl, HB3.out⟩

set_option maxRecDepth 100000 in
set_option maxHeartbeats 1000000 in
theorem crcBytes_in (m : Md) (hm : MdOk m) (h8 : 8 ≤ m.w) (bs : List UInt8) (hl : bs.length ≤ 140737488355327) (sl : Value) (w : World) (hs : ByAt w sl bs) : Calls Try.prog 5 #[m.v, sl] w fun e w' => e = .returned (.bool true) ∧ Below w.heap.size w w' := by
  have HL := hidD live_any
  have HM : Hid (∀ w, Calls Try.prog 7 #[m.v] w fun e w' => e = .returned m.v ∧ Below w.heap.size w w') := fun w => mine_any ⟨m.name, m.w, m.P, m.I, m.inn, m.out, m.X⟩ w
  have HV : Hid (∀ w, Calls Try.prog 8 #[m.v] w fun e w' => e = .returned (.bool true) ∧ Below w.heap.size w w') := fun w => valid_any ⟨m.name, m.w, m.P, m.I, m.inn, m.out, m.X⟩ hm.raw true (by simp [Md.valid m hm]) w
  have HN := hidD no_any
  have HTB := hidD (fun w => table_some m hm w)
  have HTU := hidD turned_any
  have HSB : Hid (∀ w', Below w.heap.size w w' → Calls Try.prog 10 #[m.v, sl] w' fun e w2 => e = .returned (.tuple #[.int .u64 (sumS m bs : Nat), .int .i64 0]) ∧ Below w'.heap.size w' w2) := fun w' h => sum_some m hm _ (by omega) _ w' (hs.below h (Nat.le_refl _))
  obtain ⟨sa, ca, rfl, hsh⟩ := hs.shape
  have HSH := hidD hsh
  obtain ⟨d, hd⟩ : ∃ d, m.w = d + 8 := ⟨m.w - 8, by omega⟩
  have HTK := hidD (fun k h => reg_take m.w m.P m.I m.inn bs k h)
  have HRL := hidD (fun l => run_lt hm.P l m.I hm.I)
  have HST : Hid (∀ A b, A < 2 ^ m.w → b < 256 → runB m.w m.P A (bitsOf m.inn b) = (A * 256) % 2 ^ m.w ^^^ tabS m (jOf m.inn (A / 2 ^ d) b)) := fun A b hA hb => byte_step hd hA hb
  have HTL := hidD (fun b => tab_lt hm b)
  have HFA := hidD (fill_at .u64 (tabS m))
  have HEND : Hid (∀ R, R = runB m.w m.P m.I (streamOf m.inn bs) → (if m.out then rev R m.w else R) ^^^ m.X = sumS m bs) := fun R hR => by subst hR; exact rfl
  have hp := pow64 hm.hi
  have hX := hm.X
  have hwlo := hm.lo
  have hwhi := hm.hi
  have hIl := hm.I
  have HM0 := hidD (MdAt.new m w 24)
  have HSZ : Hid (w.heap.size < (w.alloc (.cells m.cells 24)).heap.size) := by show _ < _; simp
  have HB0 : Hid (Below w.heap.size w (w.alloc (.cells m.cells 24))) := (Below.refl _ _).alloc (Nat.le_refl _) _
  have HMN : Hid (∀ w : World, MdAt (w.alloc (.cells m.cells 27)) w.heap.size m) := fun w => MdAt.new m w 27
  have g1 : IntKind.u64.wrap (IntKind.u64.wrap (2 ^ m.w) - 1) = ((2 ^ m.w - 1 : Nat) : Int) := great_val hm.hi
  have HMK : Hid (∀ v : Nat, v < 18446744073709551616 → bits .and .u64 (v : Int) ((2 ^ m.w - 1 : Nat) : Int) = ((v % 2 ^ m.w : Nat) : Int)) := fun v hv => and_mask hv hwhi
  generalize 2 ^ m.w - 1 = MK at g1 HMK
  generalize htb : tabS m = tb at *
  clear hm hs hsh htb
  obtain ⟨nm, ww, P, I, inn, out, X⟩ := m
  simp only [Md.v, Md.cells] at *
  have c8 : ¬ ((ww : Int) < 8) := by omega
  have hwd : (ww : Int) - 8 = (d : Int) := by omega
  have hd64 : d ≤ 64 := by omega
  have HD := hidD hd
  clear hd
  go_enter Try.func5, Try.ntmps5
  go_wp2_with (first
    | (go_at_call 6; refine (HL.out _).mono ?_; rintro e w1 ⟨rfl, hb1⟩; obtain ⟨k0, k1, k2, k3, k4, k5, k6⟩ := HM0.out.below hb1 HSZ.out; have HB1 := hidD (Below.next HB0.out hb1); clear hb1)
    | (go_at_call 7; refine (HM.out _).mono ?_; rintro e w2 ⟨rfl, hb2⟩; have HB2 := hidD (Below.next HB1.out hb2); clear hb2 k0 k1 k2 k3 k4 k5 k6; have HX := hidD (HMN.out w2); have HX0 : Hid (∀ o, w2.heap.size < (w2.alloc o).heap.size) := fun o => by simp)
    | (go_at_call 8; refine (HV.out _).mono ?_; rintro e w3 ⟨rfl, hb3⟩; obtain ⟨q0, q1, q2, q3, q4, q5, q6⟩ := HX.out.below hb3 (HX0.out _); have HG := hidD (Nat.lt_of_lt_of_le (HX0.out _) hb3.size); have HX3 := hidD (HX.out.below hb3 (HX0.out _)); have HB3 := hidD (Below.next (Below.more HB2.out _) hb3); clear hb3)
    | (go_at_call 14; refine (HTB.out _).mono ?_; rintro e w4 ⟨gt, rfl, hgt, htab, hb4⟩; obtain ⟨p0, p1, p2, p3, p4, p5, p6⟩ := HX3.out.below hb4 HG.out; have HX4 := hidD (HX3.out.below hb4 HG.out); have HG4 := hidD (Nat.lt_of_lt_of_le HG.out hb4.size); have HB4 := hidD (Below.next HB3.out hb4); have HTAB := hidD htab; have HGT := hidD (row_lt htab); clear hb4 htab hgt q0 q1 q2 q3 q4 q5 q6)
    | (go_at_call 11; refine (HN.out _ _).mono ?_; rintro e w5 ⟨rfl, hb5⟩; obtain ⟨q0, q1, q2, q3, q4, q5, q6⟩ := HX4.out.below hb5 HG4.out; have HX5 := hidD (HX4.out.below hb5 HG4.out); have HG5 := hidD (Nat.lt_of_lt_of_le HG4.out hb5.size); have HTAB5 : Hid (w5.heap[gt]? = some (.cells (fillC .u64 tb 256) (54 : TypeId) (0, 0))) := (by show _ = _; rw [hb5.block gt HGT.out]; exact HTAB.out); have HGT5 := hidD (Nat.lt_of_lt_of_le HGT.out hb5.size); have HB5 := hidD (Below.next HB4.out hb5); clear hb5 p0 p1 p2 p3 p4 p5 p6))
  clear q0 q1 q2 q3 q4 q5 q6
  generalize w2.heap.size = gx at *
  go_loopw [8, 9] (fun r i wr => ∃ k : Nat, k ≤ bs.length ∧ i = .int .i64 k ∧ r = .int .u64 ((runB ww P I (streamOf inn (bs.take k)) : Nat) : Int) ∧ Below w5.heap.size w5 wr) (fun _ i _ => bs.length - (intOf i).toNat)
  case atStart => exact ⟨0, Nat.zero_le _, rfl, rfl, Below.refl _ _⟩
  case round =>
    obtain ⟨k, hk, rfl, rfl, hbel⟩ := hrel
    have HBL := hidD hbel
    have HXR : Hid (∀ w', Below wr.heap.size wr w' → MdAt w' gx ⟨nm, ww, P, I, inn, out, X⟩) := fun w' h => (HX5.out.below hbel HG5.out).below h (Nat.lt_of_lt_of_le HG5.out hbel.size)
    obtain ⟨q0, q1, q2, q3, q4, q5, q6⟩ := HXR.out wr (Below.refl _ _)
    simp only at q0 q1 q2 q3 q4 q5 q6
    have HTR : Hid (∀ w', Below wr.heap.size wr w' → ∀ j, j < 256 → w'.cell? ⟨gt, j, none⟩ = some (.int .u64 (tb j : Int))) := fun w' h j hj => by
      have e : w'.heap[gt]? = some (.cells (fillC .u64 tb 256) (54 : TypeId) (0, 0)) := by rw [h.block gt (Nat.lt_of_lt_of_le HGT5.out hbel.size), hbel.block gt HGT5.out]; exact HTAB5.out
      rw [cell_of_row _ _ _ _ _ _ e]; exact HFA.out j hj
    have HBW := hidD (Below.next HB5.out hbel)
    by_cases hlt : k < bs.length
    · obtain ⟨g, off, rfl, hg, hc⟩ := HSH.out k hlt
      have hcw : wr.cell? ⟨g, off + k, none⟩ = some (.int .u8 ((bs.getD k 0).toNat : Int)) := by rw [HBW.out.cell (p := ⟨g, off + k, none⟩) hg]; exact hc
      have hlti : (k : Int) < bs.length := by omega
      have hbk := (bs.getD k 0).toNat_lt
      have HNX := hidD (HTK.out k hlt)
      have hA := HRL.out (streamOf inn (bs.take k))
      generalize (bs.getD k 0).toNat = bk at *
      generalize runB ww P I (streamOf inn (bs.take k)) = A at *
      have hA64 : A < 18446744073709551616 := by omega
      have htop : A / 2 ^ d < 256 := by
        rw [Nat.div_lt_iff_lt_mul (Nat.two_pow_pos d)]
        rw [HD.out, Nat.pow_add] at hA
        omega
      have hstep := HST.out A bk hA hbk
      have hjl := j_lt (inn := inn) htop hbk
      have hTl := HTL.out (jOf inn (A / 2 ^ d) bk)
      have hq : (A : Int) / 2 ^ d = ((A / 2 ^ d : Nat) : Int) := by simp
      generalize hJ : jOf inn (A / 2 ^ d) bk = J at *
      have HJ := hidD hJ
      have hTl64 : tb J < 18446744073709551616 := by omega
      have hx2 := shl8_64 hA64 hTl64
      have HNX2 : Hid ((A * 256 % 2 ^ 64 ^^^ tb J) % 2 ^ ww = runB ww P I (streamOf inn (bs.take (k + 1)))) := by
        show _ = _
        rw [HNX.out, hstep, mod_xor _ _ _ hTl hwhi]
      have hbig : A * 256 % 2 ^ 64 ^^^ tb J < 18446744073709551616 := xor_lt (w := 64) (Nat.mod_lt _ (by decide)) hTl64
      have hmk := HMK.out _ hbig
      have HBIG : Hid (A * 256 % 2 ^ 64 ^^^ tb J < 2 ^ 64) := hbig
      rw [HNX2.out] at hmk
      have HTJ := hidD (fun w' h => HTR.out w' h J hjl)
      have hJi : (J : Int) < 256 := by omega
      clear hJ hstep hc hbel hk hTl hTl64 hbig hp hA hA64
      generalize hNN : runB ww P I (streamOf inn (bs.take (k + 1))) = NN at *
      have HNN := hidD hNN
      clear hNN
      generalize A * 256 % 2 ^ 64 ^^^ tb J = BG at *
      generalize tb J = TJ at *
      generalize hTP : A / 2 ^ d = top at *
      clear hTP
      have h64 : ww = 64 → BG = NN := fun h => by have := HNX2.out; rw [h, Nat.mod_eq_of_lt HBIG.out] at this; exact this
      have H64 := hidD h64
      clear h64
      cases inn
      · have hj2 : bits .xor .u8 (top : Int) (bk : Int) = (J : Int) := by rw [u8_xor_nat _ _ htop hbk, ← HJ.out]; rfl
        have hc7 := HTJ.out _ (Below.refl _ _)
        by_cases hw : ww < 64
        · have hwi : (ww : Int) < 64 := by omega
          go_wp2_with fail
          go_roundw
          case rel => exact ⟨k + 1, by omega, by go_num, by rw [HNN.out], HBL.out⟩
          case measure => simp [intOf]; omega
        · have hwi : ¬ ((ww : Int) < 64) := by omega
          have hbn := H64.out (by omega)
          subst hbn
          go_wp2_with fail
          go_roundw
          case rel => exact ⟨k + 1, by omega, by go_num, by rw [HNN.out], HBL.out⟩
          case measure => simp [intOf]; omega
      · have hrl := rev8_lt bk
        have hJ2 := HJ.out
        unfold jOf at hJ2
        rw [if_pos rfl] at hJ2
        have hX0 : top ^^^ rev bk 8 < 256 := xor_lt (w := 8) htop hrl
        have HT1 := hidD (fun w => HTU.out bk hbk w)
        have HT2 := hidD (fun w => HTU.out _ hX0 w)
        rw [hJ2] at HT2
        have hj2 : bits .xor .u8 (top : Int) ((rev bk 8 : Nat) : Int) = ((top ^^^ rev bk 8 : Nat) : Int) := u8_xor_nat _ _ htop hrl
        clear hJ2 hX0 hrl
        generalize top ^^^ rev bk 8 = X0 at *
        generalize rev bk 8 = RB at *
        by_cases hw : ww < 64
        · have hwi : (ww : Int) < 64 := by omega
          go_wp2_with (first
            | (go_at_call 15; refine (HT1.out _).mono ?_; rintro e w6 ⟨rfl, hb6⟩; obtain ⟨p0, p1, p2, p3, p4, p5, p6⟩ := HXR.out w6 hb6; simp only at p0 p1 p2 p3 p4 p5 p6; have HB6 := hidD hb6; clear hb6 HT1)
            | (go_at_call 15; refine (HT2.out _).mono ?_; rintro e w7 ⟨rfl, hb7⟩; obtain ⟨r0, r1, r2, r3, r4, r5, r6⟩ := HXR.out w7 (Below.next HB6.out hb7); simp only at r0 r1 r2 r3 r4 r5 r6; have HB7 := hidD (Below.next HB6.out hb7); have hc7 := HTJ.out w7 (Below.next HB6.out hb7); clear hb7 HT2))
          go_roundw
          case rel => exact ⟨k + 1, by omega, by go_num, by rw [HNN.out], Below.next HBL.out HB7.out⟩
          case measure => simp [intOf]; omega
        · have hwi : ¬ ((ww : Int) < 64) := by omega
          have hbn := H64.out (by omega)
          subst hbn
          go_wp2_with (first
            | (go_at_call 15; refine (HT1.out _).mono ?_; rintro e w6 ⟨rfl, hb6⟩; obtain ⟨p0, p1, p2, p3, p4, p5, p6⟩ := HXR.out w6 hb6; simp only at p0 p1 p2 p3 p4 p5 p6; have HB6 := hidD hb6; clear hb6 HT1)
            | (go_at_call 15; refine (HT2.out _).mono ?_; rintro e w7 ⟨rfl, hb7⟩; obtain ⟨r0, r1, r2, r3, r4, r5, r6⟩ := HXR.out w7 (Below.next HB6.out hb7); simp only at r0 r1 r2 r3 r4 r5 r6; have HB7 := hidD (Below.next HB6.out hb7); have hc7 := HTJ.out w7 (Below.next HB6.out hb7); clear hb7 HT2))
          go_roundw
          case rel => exact ⟨k + 1, by omega, by go_num, by rw [HNN.out], Below.next HBL.out HB7.out⟩
          case measure => simp [intOf]; omega
    · obtain rfl : k = bs.length := by omega
      rw [List.take_length] at *
      have hE := HEND.out _ rfl
      have hR64 : runB ww P I (streamOf inn bs) < 2 ^ ww := HRL.out _
      generalize hR : runB ww P I (streamOf inn bs) = R at *
      have HR2 := hidD hR64
      have hRl : R < 18446744073709551616 := by omega
      clear hR hR64 hbel
      generalize sumS ⟨nm, ww, P, I, inn, out, X⟩ bs = S at *
      generalize hn : bs.length = n at *
      clear hn
      cases out
      · simp only [Bool.false_eq_true, if_false] at hE
        have hx : bits .xor .u64 (R : Int) (X : Int) = (S : Int) := by rw [u64_xor_nat _ _ hRl (by omega), hE]
        clear hE
        go_wp2_with (first
          | (go_at_call 10; refine (HSB.out _ HBW.out).mono ?_; rintro e w6 ⟨rfl, hb6⟩; obtain ⟨p0, p1, p2, p3, p4, p5, p6⟩ := HXR.out w6 hb6; simp only at p0 p1 p2 p3 p4 p5 p6; have HB6 := hidD hb6; clear hb6)
          | (go_at_call 11; refine (HN.out _ _).mono ?_; rintro e w7 ⟨rfl, hb7⟩; obtain ⟨r0, r1, r2, r3, r4, r5, r6⟩ := HXR.out w7 (Below.next HB6.out hb7); simp only at r0 r1 r2 r3 r4 r5 r6; have HB7 := hidD (Below.next HB6.out hb7); clear hb7))
        go_ret
        exact ⟨rfl, Below.next HBW.out HB7.out⟩
      · simp only [if_true] at hE
        go_wp2_with fail
        go_loopw [12, 13] (fun v i wq => ∃ j : Nat, j ≤ ww ∧ i = .int .i64 j ∧ v = .int .u64 ((rev R j : Nat) : Int) ∧ wq = wr) (fun _ i _ => ww - (intOf i).toNat)
        case atStart => exact ⟨0, Nat.zero_le _, rfl, rfl, rfl⟩
        case round =>
          obtain ⟨j, hj, rfl, rfl, rfl⟩ := hrel
          by_cases hjl : j < ww
          · have hjli : (j : Int) < ww := by omega
            have h1 := bit_u64 j hRl
            have h2 := rev_next64 (v := R) (show j < 64 by omega)
            have hj64 : j ≤ 64 := by omega
            generalize ((R.testBit j).toNat : Int) = z at *
            generalize hR2 : rev R (j + 1) = R2 at *
            have HR3 := hidD hR2
            clear hR2 hE
            generalize rev R j = R1 at *
            go_wp2_with fail
            go_roundw
            case rel => exact ⟨j + 1, by omega, by go_num, by rw [HR3.out], trivial⟩
            case measure => simp [intOf]; omega
          · obtain rfl : j = ww := by omega
            have hRW := rev_lt R j
            have hx : bits .xor .u64 ((rev R j : Nat) : Int) (X : Int) = (S : Int) := by rw [u64_xor_nat _ _ (by omega) (by omega), hE]
            clear hE hRW
            generalize rev R j = R1 at *
            go_wp2_with (first
              | (go_at_call 10; refine (HSB.out _ HBW.out).mono ?_; rintro e w6 ⟨rfl, hb6⟩; obtain ⟨p0, p1, p2, p3, p4, p5, p6⟩ := HXR.out w6 hb6; simp only at p0 p1 p2 p3 p4 p5 p6; have HB6 := hidD hb6; clear hb6)
              | (go_at_call 11; refine (HN.out _ _).mono ?_; rintro e w7 ⟨rfl, hb7⟩; obtain ⟨r0, r1, r2, r3, r4, r5, r6⟩ := HXR.out w7 (Below.next HB6.out hb7); simp only at r0 r1 r2 r3 r4 r5 r6; have HB7 := hidD (Below.next HB6.out hb7); clear hb7))
            go_ret
            exact ⟨rfl, Below.next HBW.out HB7.out⟩

theorem crcBytes_any (m : Mw) (hm : MwOk m) (bs : List UInt8) (hl : bs.length ≤ 140737488355327) (sl : Value) (w : World) (hs : ByAt w sl bs) : Calls Try.prog 5 #[m.v, sl] w fun e w' => e = .returned (.bool true) ∧ Below w.heap.size w w' := by
  by_cases hv : m.Valid
  · by_cases h8 : m.W < 8
    · exact crcBytes_out m hm (.inr h8) sl w
    · rw [hv.v]
      exact crcBytes_in m.md hv.2.2 (by show 8 ≤ m.W.toNat; omega) bs hl sl w hs
  · exact crcBytes_out m hm (.inl hv) sl w
end Go.Proofs.Ytjhaaphgaplhlab
