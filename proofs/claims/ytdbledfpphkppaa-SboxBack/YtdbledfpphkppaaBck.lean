/- SboxBack, walked. -/
import Derived.Test.YtdbledfpphkppaaBkj
namespace Go.Proofs.Ytdbledfpphkppaa
open Go.RowKit
set_option linter.unusedVariables false

def sumR (c d : Nat → UInt8) (k j : Nat) : Int := if j < k then ((c j ^^^ d j).toNat : Int) else 0
def subR (c : Nat → UInt8) (k j : Nat) : Int := if j < k then ((subS (c j)).toNat : Int) else 0
theorem if_next {P : Nat → Int} {k j : Nat} (v : Int) (hv : v = P k) : (if j = k then v else if j < k then P j else 0) = if j < k + 1 then P j else 0 := by
  by_cases h : j = k
  · subst h; rw [if_pos rfl, if_pos (by omega), hv]
  · rw [if_neg h]
    by_cases h2 : j < k
    · rw [if_pos h2, if_pos (by omega)]
    · rw [if_neg h2, if_neg (by omega)]
theorem shr_walk (x i : Nat) : (x : Int) / 2 ^ (8 * i) = ((x / 2 ^ (8 * i) : Nat) : Int) := by simp
/- a column of whole numbers -/
def colI (z0 z1 z2 z3 : Int) (i : Nat) : UInt8 := [UInt8.ofNat z0.toNat, UInt8.ofNat z1.toNat, UInt8.ofNat z2.toNat, UInt8.ofNat z3.toNat].getD i 0
def umI (z0 z1 z2 z3 : Int) (i : Nat) : Int := ((mixS (colI z0 z1 z2 z3) unmM i).toNat : Int)
theorem colI_row {z0 z1 z2 z3 : Int} (h0 : 0 ≤ z0 ∧ z0 < 256) (h1 : 0 ≤ z1 ∧ z1 < 256) (h2 : 0 ≤ z2 ∧ z2 < 256) (h3 : 0 ≤ z3 ∧ z3 < 256) : colR (colI z0 z1 z2 z3) = #[.int .u8 z0, .int .u8 z1, .int .u8 z2, .int .u8 z3] := by
  show #[Value.int .u8 ((UInt8.ofNat z0.toNat).toNat : Int), .int .u8 ((UInt8.ofNat z1.toNat).toNat : Int), .int .u8 ((UInt8.ofNat z2.toNat).toNat : Int), .int .u8 ((UInt8.ofNat z3.toNat).toNat : Int)] = _
  rw [u8_nat (show z0.toNat < 256 by omega), u8_nat (show z1.toNat < 256 by omega), u8_nat (show z2.toNat < 256 by omega), u8_nat (show z3.toNat < 256 by omega), Int.toNat_of_nonneg h0.1, Int.toNat_of_nonneg h1.1, Int.toNat_of_nonneg h2.1, Int.toNat_of_nonneg h3.1]
theorem colI_of (c : Nat → UInt8) : ∀ i, i < 4 → colI ((c 0).toNat : Int) ((c 1).toNat : Int) ((c 2).toNat : Int) ((c 3).toNat : Int) i = c i := fun i hi => by
  rcases (show i = 0 ∨ i = 1 ∨ i = 2 ∨ i = 3 by omega) with rfl | rfl | rfl | rfl <;> simp [colI]
theorem mixS_ext {c d m : Nat → UInt8} (h : ∀ i, i < 4 → c i = d i) (i : Nat) : mixS c m i = mixS d m i := by
  have go : ∀ k, mixTo c m i k = mixTo d m i k := fun k => by
    induction k with
    | zero => rfl
    | succ k ih => rw [mixTo, mixTo, ih, h _ (Nat.mod_lt _ (by omega))]
  exact go 4
theorem umI_of (c : Nat → UInt8) (i : Nat) : umI ((c 0).toNat : Int) ((c 1).toNat : Int) ((c 2).toNat : Int) ((c 3).toNat : Int) i = ((mixS c unmM i).toNat : Int) := by
  unfold umI; rw [mixS_ext (colI_of c)]
theorem unmix_ints (z0 z1 z2 z3 : Int) (h0 : 0 ≤ z0 ∧ z0 < 256) (h1 : 0 ≤ z1 ∧ z1 < 256) (h2 : 0 ≤ z2 ∧ z2 < 256) (h3 : 0 ≤ z3 ∧ z3 < 256) (w : World) : Calls Try.prog 17 #[.agg #[.int .u8 z0, .int .u8 z1, .int .u8 z2, .int .u8 z3]] w fun e w' => e = .returned (.agg #[.int .u8 (umI z0 z1 z2 z3 0), .int .u8 (umI z0 z1 z2 z3 1), .int .u8 (umI z0 z1 z2 z3 2), .int .u8 (umI z0 z1 z2 z3 3)]) ∧ Below w.heap.size w w' := by
  have := pUnmix_any (colI z0 z1 z2 z3) w
  rw [colI_row h0 h1 h2 h3] at this; exact this
theorem sub_nat (n : Nat) (h : n < 256) (w : World) : Calls Try.prog 11 #[.int .u8 (n : Int)] w fun e w' => e = .returned (.int .u8 (sbN n : Int)) ∧ Below w.heap.size w w' := by
  have := pSub_any (UInt8.ofNat n) w
  rw [sub_sb, u8_nat h] at this; exact this
theorem uns_nat (n : Nat) (h : n < 256) (w : World) : Calls Try.prog 13 #[.int .u8 (n : Int)] w fun e w' => e = .returned (.int .u8 (usN n : Int)) ∧ Below w.heap.size w w' := by
  have := pUnsub_any (UInt8.ofNat n) w
  unfold unsS at this
  rw [u8_nat h] at this; exact this
theorem u8_range (x : UInt8) : (0 : Int) ≤ (x.toNat : Int) ∧ (x.toNat : Int) < 256 := by have := u8_lt x; omega
set_option maxRecDepth 100000 in
set_option maxHeartbeats 8000000 in
theorem back_any (b : UInt8) (c d : Nat → UInt8) (w : World) : Calls Try.prog 7 #[.int .u8 (b.toNat : Int), .agg (colR c), .agg (colR d)] w fun e w' => e = .returned (.bool true) ∧ Below w.heap.size w w' := by
  have HA := hidD (fun w => alive_any w)
  have HSU := hidD (fun x w => pSub_any x w)
  have HCO := hidD (fun x w => pColumn_any x w)
  obtain ⟨hz, hsz⟩ := zero_of_info Try.zero22
  have hs1 : (colR c).size = 4 := rowZ_size _ _ _
  have hs2 : (colR d).size = 4 := rowZ_size _ _ _
  have h2 := two_blocks w (colR c) (colR d) 22
  obtain ⟨b1, b2, b3, b4⟩ := h2
  have HAL2 : Hid (∀ w1, Below ((w.alloc (.cells (colR c) (22 : TypeId))).alloc (.cells (colR d) (22 : TypeId))).heap.size ((w.alloc (.cells (colR c) (22 : TypeId))).alloc (.cells (colR d) (22 : TypeId))) w1 → RowZ w1 w.heap.size .u8 4 22 (fun i => ((c i).toNat : Int)) ∧ RowZ w1 (w.heap.size + 1) .u8 4 22 (fun i => ((d i).toNat : Int)) ∧ Below w.heap.size w w1 ∧ w.heap.size + 2 ≤ w1.heap.size) := fun w1 hb1 => by
    have hz := hb1.size
    rw [b4] at hz
    exact ⟨(hb1.block _ (by rw [b4]; omega)).trans b1, (hb1.block _ (by rw [b4]; omega)).trans b2, Below.next b3 hb1, hz⟩
  clear b1 b2 b3 b4
  go_enter Try.func7, Try.ntmps7
  go_wp2_with (go_at_call 23; refine (HA.out _).mono ?_; rintro e w1 ⟨rfl, hb1⟩; obtain ⟨q1, q2, q3, q4⟩ := HAL2.out w1 hb1; have HC1 := hidD q1; have HD1 := hidD q2; have HB1 := hidD q3; have HS1 := hidD q4; clear hb1 q1 q2 q3 q4)
  have h3 := two_blocks w1 (rowZ .u8 4 (fun _ => 0)) (rowZ .u8 4 (fun _ => 0)) 22
  generalize hW : World.alloc (World.alloc w1 _) _ = W
  rw [show (w1.alloc (.cells (rowZ .u8 4 (fun _ => 0)) (22 : TypeId))).alloc (.cells (rowZ .u8 4 (fun _ => 0)) (22 : TypeId)) = W from hW] at h3
  clear hW
  obtain ⟨r1, r2, r3, r4⟩ := h3
  have HS0 : Hid (RowZ W w1.heap.size .u8 4 22 (sumR c d 0)) := (show RowZ W w1.heap.size .u8 4 22 (fun _ => 0) from r1).congr fun j _ => (if_neg (by omega)).symm
  have HU0 : Hid (RowZ W (w1.heap.size + 1) .u8 4 22 (subR c 0)) := (show RowZ W (w1.heap.size + 1) .u8 4 22 (fun _ => 0) from r2).congr fun j _ => (if_neg (by omega)).symm
  have HWC := hidD (HC1.out.next r3)
  have HWD := hidD (HD1.out.next r3)
  have HWB := hidD (Below.next HB1.out r3)
  have hgs : w.heap.size + 2 ≤ w1.heap.size := HS1.out
  clear r1 r2 r3 r4 HAL2 HC1 HD1 HB1
  generalize hgg : w1.heap.size = gs at *
  clear hgg
  generalize hg0 : w.heap.size = g at *
  have HG := hidD hg0
  clear hg0
  go_loopw [9, 10] (fun x i wr => ∃ k : Nat, k ≤ 4 ∧ i = .int .i64 k ∧ x = .int .u32 (colW c k : Int) ∧ RowZ wr gs .u8 4 22 (sumR c d k) ∧ RowZ wr (gs + 1) .u8 4 22 (subR c k) ∧ Below gs W wr) (fun _ i _ => 4 - (intOf i).toNat)
  case atStart => exact ⟨0, Nat.zero_le _, rfl, rfl, HS0.out, HU0.out, Below.refl _ _⟩
  case round =>
    obtain ⟨k, hk, rfl, rfl, hr1, hr2, hbel⟩ := hrel
    have HBL := hidD hbel
    by_cases hlt : k < 4
    · have hlti : (k : Int) < 4 := by omega
      have hc := HWC.out.below hbel (show g < gs by omega)
      have hd := HWD.out.below hbel (show g + 1 < gs by omega)
      have hcc : ∀ i : BW wr, i.v.cell? ⟨g, k, none⟩ = some (.int .u8 ((c k).toNat : Int)) := fun i => (i.below.cell (p := ⟨g, k, none⟩) hc.lt).trans (hc.cell hlt)
      have hcd : ∀ i : BW wr, i.v.cell? ⟨g + 1, k, none⟩ = some (.int .u8 ((d k).toNat : Int)) := fun i => (i.below.cell (p := ⟨g + 1, k, none⟩) hd.lt).trans (hd.cell hlt)
      have hcs : ∀ i : BW wr, i.v.cell? ⟨gs, k, none⟩ = some (.int .u8 (sumR c d k k)) := fun i => (i.below.cell (p := ⟨gs, k, none⟩) hr1.lt).trans (hr1.cell hlt)
      have hfs : ∀ i : BW wr, i.v.frozen? ⟨gs, k, none⟩ = false := fun i => (i.below.frozen (p := ⟨gs, k, none⟩) hr1.lt).trans (hr1.frozen k)
      have hxr := u8_xor_nat (c k).toNat (d k).toNat (u8_lt _) (u8_lt _)
      rw [← UInt8.toNat_xor] at hxr
      have HR1 : Hid (∀ i : BW wr, RowZ (i.v.setCell ⟨gs, k, none⟩ (.int .u8 ((c k ^^^ d k).toNat : Int))) gs .u8 4 22 (sumR c d (k + 1))) := fun i => ((hr1.next i.below).set hlt _).congr fun j _ => if_next (P := fun j => ((c j ^^^ d j).toNat : Int)) _ rfl
      have HR2 : Hid (∀ (i : BW wr) v, RowZ (i.v.setCell ⟨gs, k, none⟩ v) (gs + 1) .u8 4 22 (subR c k)) := fun i v => (Below.heap_setCell _ _ _ _ (by show gs + 1 ≠ gs; omega)).trans (hr2.next i.below)
      have HRB : Hid (∀ (i : BW wr) v, Below gs W (i.v.setCell ⟨gs, k, none⟩ v)) := fun i v => below_setCell (hbel.trans (i.below.mono (Nat.le_of_lt hr1.lt))) (Nat.le_refl _) _ v
      generalize hcx : (c k ^^^ d k).toNat = cx at *
      generalize sumR c d k k = old at *
      clear hcx hr1 hr2 hbel hc hd
      go_wp2_with fail
      refine wp_region_put (by simp) (by kernel_rfl) rfl (by kernel_rfl) (by kernel_rfl) (by kernel_rfl) ?_
      simp only [List.dropLast_cons_cons, List.dropLast_singleton, List.getLast_cons_cons, List.getLast_singleton, List.cons_append, List.nil_append, mute]
      repeat (go_big_quiet_step (fail))
      refine wpQuiet_nil ?_
      intro i
      have HR1 := hidD (HR1.out i)
      have HR2 := hidD (HR2.out i)
      have HRB := hidD (HRB.out i)
      have HCW : Hid (∀ w', Below gs W w' → w'.cell? ⟨g, k, none⟩ = some (.int .u8 ((c k).toNat : Int))) := fun w' h => (HWC.out.below h (by omega)).cell hlt
      have HSK := hidD (fun w => HSU.out (c k) w)
      have HCK := hidD (fun w => HCO.out (c k) w)
      have hcl := col_lt (c k)
      have hwl := colW_lt c k
      have hk8 : (8 : Int) * k = ((8 * k : Nat) : Int) := by omega
      have hk32 : (32 : Int) - ((8 * k : Nat) : Int) = ((32 - 8 * k : Nat) : Int) := by omega
      have hkl1 : 8 * k ≤ 24 := by omega
      have hkl2 : 32 - 8 * k ≤ 32 := by omega
      have e1 : bits .or .u32 ((colS (c k) : Int) / 2 ^ (8 * k)) ((colS (c k) : Int) * 2 ^ (32 - 8 * k) % 4294967296) = ((rotW (colS (c k)) k : Nat) : Int) := by
        rw [show (colS (c k) : Int) / 2 ^ (8 * k) = ((colS (c k) / 2 ^ (8 * k) : Nat) : Int) by simp, show (colS (c k) : Int) * 2 ^ (32 - 8 * k) % 4294967296 = ((colS (c k) * 2 ^ (32 - 8 * k) % 4294967296 : Nat) : Int) by simp,
          u32_or_nat _ _ (Nat.lt_of_le_of_lt (Nat.div_le_self _ _) hcl) (Nat.mod_lt _ (by omega))]; rfl
      have e2 : bits .xor .u32 (colW c k : Int) ((rotW (colS (c k)) k : Nat) : Int) = (colW c (k + 1) : Int) := by
        rw [u32_xor_nat _ _ hwl (rot_lt hcl k)]; rfl
      generalize hn8 : 32 - 8 * k = n8 at *
      generalize hm8 : 8 * k = m8 at *
      clear hn8 hm8
      generalize hsk : ((subS (c k)).toNat : Int) = sk at *
      have HSE := hidD hsk
      clear hsk
      generalize ((rotW (colS (c k)) k : Nat) : Int) = RK at *
      generalize colS (c k) = CK at *
      have HCWN : Hid ((colW c (k + 1) : Int) = (colW c (k + 1) : Int)) := rfl
      generalize hcn : (colW c (k + 1) : Int) = CN at *
      have HCN := hidD hcn
      clear hcn HCWN
      generalize colW c k = C0 at *
      go_wp2_with (first
        | (go_at_call 11; refine (HSK.out _).mono ?_; rintro e w5 ⟨rfl, hb5⟩; have HA5 := hidD (HR1.out.next hb5); have hu5 := (HR2.out _).next hb5; have HB5 : Hid (Below gs W w5) := (HRB.out _).trans (hb5.mono (Nat.le_of_lt HR1.out.lt)); have hc5 := hu5.cell hlt; have hf5 := hu5.frozen k; have HU6 : Hid (RowZ (w5.setCell ⟨gs + 1, k, none⟩ (.int .u8 sk)) (gs + 1) .u8 4 22 (subR c (k + 1))) := (hu5.set hlt _).congr fun j _ => if_next (P := fun j => ((subS (c j)).toNat : Int)) _ HSE.out.symm; have HA6 : Hid (RowZ (w5.setCell ⟨gs + 1, k, none⟩ (.int .u8 sk)) gs .u8 4 22 (sumR c d (k + 1))) := (Below.heap_setCell _ _ _ _ (by show gs ≠ gs + 1; omega)).trans HA5.out; have HB6 : Hid (Below gs W (w5.setCell ⟨gs + 1, k, none⟩ (.int .u8 sk))) := below_setCell HB5.out (by omega) _ _; have hc6 := HCW.out _ HB6.out; clear hb5 hu5)
        | (go_at_call 19; refine (HCK.out _).mono ?_; rintro e w7 ⟨rfl, hb7⟩; have HA7 := hidD (HA6.out.next hb7); have HU7 := hidD (HU6.out.next hb7); have HB7 : Hid (Below gs W w7) := HB6.out.trans (hb7.mono (Nat.le_of_lt HA6.out.lt)); clear hb7))
      go_roundw
      case rel => exact ⟨k + 1, by omega, by go_num, by rw [HCN.out], HA7.out, HU7.out, HB7.out⟩
      case measure => simp [intOf]; omega
    · obtain rfl : k = 4 := by omega
      have HRS : Hid (RowZ wr gs .u8 4 22 (fun j => ((c j ^^^ d j).toNat : Int))) := hr1.congr fun j hj => if_pos hj
      have HRU : Hid (RowZ wr (gs + 1) .u8 4 22 (fun j => ((subS (c j)).toNat : Int))) := hr2.congr fun j hj => if_pos hj
      clear hr1 hr2 hbel
      have HRC := hidD (HWC.out.below HBL.out (show g < gs by omega))
      have HRD := hidD (HWD.out.below HBL.out (show g + 1 < gs by omega))
      have HMX := hidD (fun (C : Nat → UInt8) w => pMix_any C w)
      go_wp2_with fail
      obtain ⟨CC, hCC⟩ : ∃ CC : Nat → Nat → UInt8, CC = fun k => if k = 0 then c else if k = 1 then d else if k = 2 then (fun j => c j ^^^ d j) else (fun j => subS (c j)) := ⟨_, rfl⟩
      have HC0 : Hid (CC 0 = c) := by rw [hCC]; rfl
      have HC1 : Hid (CC 1 = d) := by rw [hCC]; rfl
      have HC2 : Hid (CC 2 = fun j => c j ^^^ d j) := by rw [hCC]; rfl
      have HC3 : Hid (CC 3 = fun j => subS (c j)) := by rw [hCC]; rfl
      have HRC : Hid (wr.heap[g]? = some (.cells (colR (CC 0)) (22 : TypeId) (0, 0))) := by rw [HC0.out]; exact HRC.out
      have HRD : Hid (wr.heap[g + 1]? = some (.cells (colR (CC 1)) (22 : TypeId) (0, 0))) := by rw [HC1.out]; exact HRD.out
      have HRS : Hid (wr.heap[gs]? = some (.cells (colR (CC 2)) (22 : TypeId) (0, 0))) := by rw [HC2.out]; exact HRS.out
      have HRU : Hid (wr.heap[gs + 1]? = some (.cells (colR (CC 3)) (22 : TypeId) (0, 0))) := by rw [HC3.out]; exact HRU.out
      clear hCC
      refine wp_region_inv' (by kernel_rfl) (by kernel_rfl) (fun a0 f a w' => ∃ m G, a = over a0 m ∧ In12 f m w' wr CC G ∧ ∀ k, k < 4 → f (8 + k) = false → f (12 + k) = false) ?h0 ?hst ?hend
      case h0 => exact ⟨fun _ => none, fun _ => 0, (over_none _).symm, In12.start wr CC _ _ ⟨rfl, rfl, rfl, Nat.le_refl _, fun _ _ => rfl⟩, fun _ _ _ => rfl⟩
      case hst =>
        intro f a w' i o hI hi hfi haf
        obtain ⟨m, G, rfl, hin, hst⟩ := hI
        have hil := (List.getElem?_eq_some_iff.1 hi).1
        simp only [List.length_cons, List.length_nil] at hil
        have HII := hidD hi
        rcases (show i = 0 ∨ i = 1 ∨ i = 2 ∨ i = 3 ∨ i = 4 ∨ i = 5 ∨ i = 6 ∨ i = 7 ∨ i = 8 ∨ i = 9 ∨ i = 10 ∨ i = 11 ∨ i = 12 ∨ i = 13 ∨ i = 14 ∨ i = 15 by omega) with rfl | rfl | rfl | rfl | rfl | rfl | rfl | rfl | rfl | rfl | rfl | rfl | rfl | rfl | rfl | rfl
        · simp only [List.getElem?_cons_zero] at hi
          obtain rfl := Option.some.inj hi
          refine load_op (C := CC 0) HII.out rfl rfl rfl (over_old (show 4 < 126 by omega) (hin.sup 4 (by omega) (by omega))) ((hin.bel.block _ (row_lt HRC.out)).trans HRC.out) ?_
          rw [over_put]
          exact ⟨_, G, rfl, hin.load (k := 0) (by omega), ex_set hst (fun k hk he => by omega)⟩
        · simp only [List.getElem?_cons_zero, List.getElem?_cons_succ] at hi
          obtain rfl := Option.some.inj hi
          have h0 := haf ⟨0, .data⟩ (by simp) rfl
          refine call_op (C := CC 0) HII.out rfl rfl rfl (over_new (show 56 < 126 by omega) (hin.ld 0 (by omega) h0)) ?_
          intro w2 hb2
          rw [over_put]
          exact ⟨_, G, rfl, hin.call (k := 0) (by omega) hb2, ex_set hst (fun k hk he => by omega)⟩
        · simp only [List.getElem?_cons_zero, List.getElem?_cons_succ] at hi
          obtain rfl := Option.some.inj hi
          refine load_op (C := CC 1) HII.out rfl rfl rfl (over_old (show 5 < 126 by omega) (hin.sup 5 (by omega) (by omega))) ((hin.bel.block _ (row_lt HRD.out)).trans HRD.out) ?_
          rw [over_put]
          exact ⟨_, G, rfl, hin.load (k := 1) (by omega), ex_set hst (fun k hk he => by omega)⟩
        · simp only [List.getElem?_cons_zero, List.getElem?_cons_succ] at hi
          obtain rfl := Option.some.inj hi
          have h0 := haf ⟨2, .data⟩ (by simp) rfl
          refine call_op (C := CC 1) HII.out rfl rfl rfl (over_new (show 58 < 126 by omega) (hin.ld 1 (by omega) h0)) ?_
          intro w2 hb2
          rw [over_put]
          exact ⟨_, G, rfl, hin.call (k := 1) (by omega) hb2, ex_set hst (fun k hk he => by omega)⟩
        · simp only [List.getElem?_cons_zero, List.getElem?_cons_succ] at hi
          obtain rfl := Option.some.inj hi
          refine load_op (C := CC 2) HII.out rfl rfl rfl (over_old (show 7 < 126 by omega) (hin.sup 7 (by omega) (by omega))) ((hin.bel.block _ (row_lt HRS.out)).trans HRS.out) ?_
          rw [over_put]
          exact ⟨_, G, rfl, hin.load (k := 2) (by omega), ex_set hst (fun k hk he => by omega)⟩
        · simp only [List.getElem?_cons_zero, List.getElem?_cons_succ] at hi
          obtain rfl := Option.some.inj hi
          have h0 := haf ⟨4, .data⟩ (by simp) rfl
          refine call_op (C := CC 2) HII.out rfl rfl rfl (over_new (show 60 < 126 by omega) (hin.ld 2 (by omega) h0)) ?_
          intro w2 hb2
          rw [over_put]
          exact ⟨_, G, rfl, hin.call (k := 2) (by omega) hb2, ex_set hst (fun k hk he => by omega)⟩
        · simp only [List.getElem?_cons_zero, List.getElem?_cons_succ] at hi
          obtain rfl := Option.some.inj hi
          refine load_op (C := CC 3) HII.out rfl rfl rfl (over_old (show 8 < 126 by omega) (hin.sup 8 (by omega) (by omega))) ((hin.bel.block _ (row_lt HRU.out)).trans HRU.out) ?_
          rw [over_put]
          exact ⟨_, G, rfl, hin.load (k := 3) (by omega), ex_set hst (fun k hk he => by omega)⟩
        · simp only [List.getElem?_cons_zero, List.getElem?_cons_succ] at hi
          obtain rfl := Option.some.inj hi
          have h0 := haf ⟨6, .data⟩ (by simp) rfl
          refine call_op (C := CC 3) HII.out rfl rfl rfl (over_new (show 62 < 126 by omega) (hin.ld 3 (by omega) h0)) ?_
          intro w2 hb2
          rw [over_put]
          exact ⟨_, G, rfl, hin.call (k := 3) (by omega) hb2, ex_set hst (fun k hk he => by omega)⟩
        · simp only [List.getElem?_cons_zero, List.getElem?_cons_succ] at hi
          obtain rfl := Option.some.inj hi
          refine alloc_op HII.out rfl rfl rfl ?_
          rw [over_put]
          exact ⟨_, _, rfl, hin.alloc (k := 0) (by omega) hfi (hst 0 (by omega) hfi), ex_set hst (fun k hk he => by omega)⟩
        · simp only [List.getElem?_cons_zero, List.getElem?_cons_succ] at hi
          obtain rfl := Option.some.inj hi
          refine alloc_op HII.out rfl rfl rfl ?_
          rw [over_put]
          exact ⟨_, _, rfl, hin.alloc (k := 1) (by omega) hfi (hst 1 (by omega) hfi), ex_set hst (fun k hk he => by omega)⟩
        · simp only [List.getElem?_cons_zero, List.getElem?_cons_succ] at hi
          obtain rfl := Option.some.inj hi
          refine alloc_op HII.out rfl rfl rfl ?_
          rw [over_put]
          exact ⟨_, _, rfl, hin.alloc (k := 2) (by omega) hfi (hst 2 (by omega) hfi), ex_set hst (fun k hk he => by omega)⟩
        · simp only [List.getElem?_cons_zero, List.getElem?_cons_succ] at hi
          obtain rfl := Option.some.inj hi
          refine alloc_op HII.out rfl rfl rfl ?_
          rw [over_put]
          exact ⟨_, _, rfl, hin.alloc (k := 3) (by omega) hfi (hst 3 (by omega) hfi), ex_set hst (fun k hk he => by omega)⟩
        · simp only [List.getElem?_cons_zero, List.getElem?_cons_succ] at hi
          obtain rfl := Option.some.inj hi
          have h0 := haf ⟨8, .data⟩ (by simp) rfl
          have h1 := haf ⟨1, .data⟩ (by simp) rfl
          have hal := hin.al 0 (by omega) h0
          refine store_op (C := mixS (CC 0) mixM) HII.out rfl rfl rfl (over_new (show 12 < 126 by omega) hal.1) (over_new (show 57 < 126 by omega) (hin.cl 0 (by omega) h1)) hal.2.2 ?_
          exact ⟨_, G, rfl, hin.store (k := 0) (by omega) h0, ex_set hst (fun k hk he => by rw [show k = 0 by omega]; exact h0)⟩
        · simp only [List.getElem?_cons_zero, List.getElem?_cons_succ] at hi
          obtain rfl := Option.some.inj hi
          have h0 := haf ⟨9, .data⟩ (by simp) rfl
          have h1 := haf ⟨3, .data⟩ (by simp) rfl
          have hal := hin.al 1 (by omega) h0
          refine store_op (C := mixS (CC 1) mixM) HII.out rfl rfl rfl (over_new (show 13 < 126 by omega) hal.1) (over_new (show 59 < 126 by omega) (hin.cl 1 (by omega) h1)) hal.2.2 ?_
          exact ⟨_, G, rfl, hin.store (k := 1) (by omega) h0, ex_set hst (fun k hk he => by rw [show k = 1 by omega]; exact h0)⟩
        · simp only [List.getElem?_cons_zero, List.getElem?_cons_succ] at hi
          obtain rfl := Option.some.inj hi
          have h0 := haf ⟨10, .data⟩ (by simp) rfl
          have h1 := haf ⟨5, .data⟩ (by simp) rfl
          have hal := hin.al 2 (by omega) h0
          refine store_op (C := mixS (CC 2) mixM) HII.out rfl rfl rfl (over_new (show 14 < 126 by omega) hal.1) (over_new (show 61 < 126 by omega) (hin.cl 2 (by omega) h1)) hal.2.2 ?_
          exact ⟨_, G, rfl, hin.store (k := 2) (by omega) h0, ex_set hst (fun k hk he => by rw [show k = 2 by omega]; exact h0)⟩
        · simp only [List.getElem?_cons_zero, List.getElem?_cons_succ] at hi
          obtain rfl := Option.some.inj hi
          have h0 := haf ⟨11, .data⟩ (by simp) rfl
          have h1 := haf ⟨7, .data⟩ (by simp) rfl
          have hal := hin.al 3 (by omega) h0
          refine store_op (C := mixS (CC 3) mixM) HII.out rfl rfl rfl (over_new (show 15 < 126 by omega) hal.1) (over_new (show 63 < 126 by omega) (hin.cl 3 (by omega) h1)) hal.2.2 ?_
          exact ⟨_, G, rfl, hin.store (k := 3) (by omega) h0, ex_set hst (fun k hk he => by rw [show k = 3 by omega]; exact h0)⟩
      case hend =>
        intro f a w' hI hall
        obtain ⟨m, G, rfl, hin, _⟩ := hI
        simp only [List.length_cons, List.length_nil] at hall
        have p0 := hin.al 0 (by omega) (hall 8 (by omega))
        have p1 := hin.al 1 (by omega) (hall 9 (by omega))
        have p2 := hin.al 2 (by omega) (hall 10 (by omega))
        have p3 := hin.al 3 (by omega) (hall 11 (by omega))
        rw [hall (12 + 0) (by omega)] at p0
        rw [hall (12 + 1) (by omega)] at p1
        rw [hall (12 + 2) (by omega)] at p2
        rw [hall (12 + 3) (by omega)] at p3
        rw [in12_all hin hall, ← over_put, ← over_put, ← over_put, ← over_put, ← over_put, ← over_put, ← over_put, ← over_put, ← over_put, ← over_put, ← over_put, ← over_put, over_none]
        have HP0 := hidD p0.2.2
        have HP1 := hidD p1.2.2
        have HP2 := hidD p2.2.2
        have HP3 := hidD p3.2.2
        have hin0 := hidD hin.bel
        have HGE := hidD (p0.2.1)
        clear p0 p1 p2 p3 hin hall
        generalize hG0 : G 0 = q0 at *
        generalize hG1 : G 1 = q1 at *
        generalize hG2 : G 2 = q2 at *
        generalize hG3 : G 3 = q3 at *
        clear hG0 hG1 hG2 hG3
        simp only [Act.put, List.setIfInBounds_toArray, List.set_cons_zero, List.set_cons_succ]
        have HM0 : Hid (RowZ w' q0 .u8 4 22 (fun i => ((mixS c mixM i).toNat : Int))) := HP0.out.congr fun i _ => by unfold sw; rw [if_pos rfl, HC0.out]
        have HM1 : Hid (RowZ w' q1 .u8 4 22 (fun i => ((mixS d mixM i).toNat : Int))) := HP1.out.congr fun i _ => by unfold sw; rw [if_pos rfl, HC1.out]
        have HM2 : Hid (RowZ w' q2 .u8 4 22 (fun i => ((mixS c mixM i ^^^ mixS d mixM i).toNat : Int))) := HP2.out.congr fun i _ => by unfold sw; rw [if_pos rfl, HC2.out, mixS_xor]
        have HM3 : Hid (RowZ w' q3 .u8 4 22 (fun i => ((mixS (fun j => subS (c j)) mixM i).toNat : Int))) := HP3.out.congr fun i _ => by unfold sw; rw [if_pos rfl, HC3.out]
        have HMC : Hid (RowZ w' g .u8 4 22 (fun i => ((c i).toNat : Int))) := by
          have h := (hin0.out.block _ (row_lt HRC.out)).trans HRC.out
          rw [HC0.out] at h; exact h
        have HMD : Hid (RowZ w' (g + 1) .u8 4 22 (fun i => ((d i).toNat : Int))) := by
          have h := (hin0.out.block _ (row_lt HRD.out)).trans HRD.out
          rw [HC1.out] at h; exact h
        go_wp2_with fail
        go_loopw [16] (fun i wr => ∃ k : Nat, k ≤ 4 ∧ i = .int .i64 k ∧ Below w'.heap.size w' wr) (fun i _ => 4 - (intOf i).toNat)
        case atStart => exact ⟨0, Nat.zero_le _, rfl, Below.refl _ _⟩
        case round =>
          obtain ⟨k, hk, rfl, hbel⟩ := hrel
          have HBE := hidD hbel
          by_cases hlt : k < 4
          · have hlti : (k : Int) < 4 := by omega
            have k0 : ∀ n, (wr.drewN n).cell? ⟨q0, k, none⟩ = some (.int .u8 ((mixS c mixM k).toNat : Int)) := fun n => (HM0.out.next hbel).cell hlt
            have k1 : ∀ n, (wr.drewN n).cell? ⟨q1, k, none⟩ = some (.int .u8 ((mixS d mixM k).toNat : Int)) := fun n => (HM1.out.next hbel).cell hlt
            have k2 : ∀ n, (wr.drewN n).cell? ⟨q2, k, none⟩ = some (.int .u8 ((mixS c mixM k ^^^ mixS d mixM k).toNat : Int)) := fun n => (HM2.out.next hbel).cell hlt
            have hxr := u8_xor_nat (mixS c mixM k).toNat (mixS d mixM k).toNat (u8_lt _) (u8_lt _)
            rw [← UInt8.toNat_xor] at hxr
            generalize (mixS c mixM k ^^^ mixS d mixM k).toNat = X2 at *
            generalize (mixS c mixM k).toNat = X0 at *
            generalize (mixS d mixM k).toNat = X1 at *
            clear hbel
            go_wp2_with fail
            go_quiet (fail)
            go_wp2_with fail
            go_roundw
            case rel => exact ⟨k + 1, by omega, by go_num, below_drewN HBE.out _⟩
            case measure => simp [intOf]; omega
          · obtain rfl : k = 4 := by omega
            have jm0 : ∀ i : BW wr, i.v.cell? ⟨q0, 0, none⟩ = some (.int .u8 (((mixS c mixM) 0).toNat : Int)) := fun i => (i.below.cell (p := ⟨q0, 0, none⟩) (HM0.out.next hbel).lt).trans ((HM0.out.next hbel).cell (by omega))
            have jm1 : ∀ i : BW wr, i.v.cell? ⟨q0, 1, none⟩ = some (.int .u8 (((mixS c mixM) 1).toNat : Int)) := fun i => (i.below.cell (p := ⟨q0, 1, none⟩) (HM0.out.next hbel).lt).trans ((HM0.out.next hbel).cell (by omega))
            have jm2 : ∀ i : BW wr, i.v.cell? ⟨q0, 2, none⟩ = some (.int .u8 (((mixS c mixM) 2).toNat : Int)) := fun i => (i.below.cell (p := ⟨q0, 2, none⟩) (HM0.out.next hbel).lt).trans ((HM0.out.next hbel).cell (by omega))
            have jm3 : ∀ i : BW wr, i.v.cell? ⟨q0, 3, none⟩ = some (.int .u8 (((mixS c mixM) 3).toNat : Int)) := fun i => (i.below.cell (p := ⟨q0, 3, none⟩) (HM0.out.next hbel).lt).trans ((HM0.out.next hbel).cell (by omega))
            have jc0 : ∀ i : BW wr, i.v.cell? ⟨g, 0, none⟩ = some (.int .u8 (((c) 0).toNat : Int)) := fun i => (i.below.cell (p := ⟨g, 0, none⟩) (HMC.out.next hbel).lt).trans ((HMC.out.next hbel).cell (by omega))
            have jc1 : ∀ i : BW wr, i.v.cell? ⟨g, 1, none⟩ = some (.int .u8 (((c) 1).toNat : Int)) := fun i => (i.below.cell (p := ⟨g, 1, none⟩) (HMC.out.next hbel).lt).trans ((HMC.out.next hbel).cell (by omega))
            have jc2 : ∀ i : BW wr, i.v.cell? ⟨g, 2, none⟩ = some (.int .u8 (((c) 2).toNat : Int)) := fun i => (i.below.cell (p := ⟨g, 2, none⟩) (HMC.out.next hbel).lt).trans ((HMC.out.next hbel).cell (by omega))
            have jc3 : ∀ i : BW wr, i.v.cell? ⟨g, 3, none⟩ = some (.int .u8 (((c) 3).toNat : Int)) := fun i => (i.below.cell (p := ⟨g, 3, none⟩) (HMC.out.next hbel).lt).trans ((HMC.out.next hbel).cell (by omega))
            have jd0 : ∀ i : BW wr, i.v.cell? ⟨g + 1, 0, none⟩ = some (.int .u8 (((d) 0).toNat : Int)) := fun i => (i.below.cell (p := ⟨g + 1, 0, none⟩) (HMD.out.next hbel).lt).trans ((HMD.out.next hbel).cell (by omega))
            have jd1 : ∀ i : BW wr, i.v.cell? ⟨g + 1, 1, none⟩ = some (.int .u8 (((d) 1).toNat : Int)) := fun i => (i.below.cell (p := ⟨g + 1, 1, none⟩) (HMD.out.next hbel).lt).trans ((HMD.out.next hbel).cell (by omega))
            have jd2 : ∀ i : BW wr, i.v.cell? ⟨g + 1, 2, none⟩ = some (.int .u8 (((d) 2).toNat : Int)) := fun i => (i.below.cell (p := ⟨g + 1, 2, none⟩) (HMD.out.next hbel).lt).trans ((HMD.out.next hbel).cell (by omega))
            have jd3 : ∀ i : BW wr, i.v.cell? ⟨g + 1, 3, none⟩ = some (.int .u8 (((d) 3).toNat : Int)) := fun i => (i.below.cell (p := ⟨g + 1, 3, none⟩) (HMD.out.next hbel).lt).trans ((HMD.out.next hbel).cell (by omega))
            have jp0 : ∀ i : BW wr, i.v.cell? ⟨q3, 0, none⟩ = some (.int .u8 (((mixS (fun j => subS (c j)) mixM) 0).toNat : Int)) := fun i => (i.below.cell (p := ⟨q3, 0, none⟩) (HM3.out.next hbel).lt).trans ((HM3.out.next hbel).cell (by omega))
            have jp1 : ∀ i : BW wr, i.v.cell? ⟨q3, 1, none⟩ = some (.int .u8 (((mixS (fun j => subS (c j)) mixM) 1).toNat : Int)) := fun i => (i.below.cell (p := ⟨q3, 1, none⟩) (HM3.out.next hbel).lt).trans ((HM3.out.next hbel).cell (by omega))
            have jp2 : ∀ i : BW wr, i.v.cell? ⟨q3, 2, none⟩ = some (.int .u8 (((mixS (fun j => subS (c j)) mixM) 2).toNat : Int)) := fun i => (i.below.cell (p := ⟨q3, 2, none⟩) (HM3.out.next hbel).lt).trans ((HM3.out.next hbel).cell (by omega))
            have jp3 : ∀ i : BW wr, i.v.cell? ⟨q3, 3, none⟩ = some (.int .u8 (((mixS (fun j => subS (c j)) mixM) 3).toNat : Int)) := fun i => (i.below.cell (p := ⟨q3, 3, none⟩) (HM3.out.next hbel).lt).trans ((HM3.out.next hbel).cell (by omega))
            have HSB := hidD (fun n h w => sub_nat n h w)
            have HUS := hidD (fun n h w => uns_nat n h w)
            have HUM := hidD (fun z0 z1 z2 z3 h0 h1 h2 h3 w => unmix_ints z0 z1 z2 z3 h0 h1 h2 h3 w)
            have um0 := (umI_of (mixS c mixM) 0).trans (congrArg (fun x : UInt8 => (x.toNat : Int)) (unmix_mix c).1)
            have um1 := (umI_of (mixS c mixM) 1).trans (congrArg (fun x : UInt8 => (x.toNat : Int)) (unmix_mix c).2.1)
            have um2 := (umI_of (mixS c mixM) 2).trans (congrArg (fun x : UInt8 => (x.toNat : Int)) (unmix_mix c).2.2.1)
            have um3 := (umI_of (mixS c mixM) 3).trans (congrArg (fun x : UInt8 => (x.toNat : Int)) (unmix_mix c).2.2.2)
            have HMM : Hid (∀ w, Calls Try.prog 15 #[.agg #[.int .u8 (umI ((d 0).toNat : Int) ((d 1).toNat : Int) ((d 2).toNat : Int) ((d 3).toNat : Int) 0), .int .u8 (umI ((d 0).toNat : Int) ((d 1).toNat : Int) ((d 2).toNat : Int) ((d 3).toNat : Int) 1), .int .u8 (umI ((d 0).toNat : Int) ((d 1).toNat : Int) ((d 2).toNat : Int) ((d 3).toNat : Int) 2), .int .u8 (umI ((d 0).toNat : Int) ((d 1).toNat : Int) ((d 2).toNat : Int) ((d 3).toNat : Int) 3)]] w fun e w' => e = .returned (.agg #[.int .u8 ((d 0).toNat : Int), .int .u8 ((d 1).toNat : Int), .int .u8 ((d 2).toNat : Int), .int .u8 ((d 3).toNat : Int)]) ∧ Below w.heap.size w w') := fun w => by
              have h := pMix_any (mixS d unmM) w
              rw [colR_lit (mixS d unmM), colR_lit (mixS (mixS d unmM) mixM), (mix_unmix d).1, (mix_unmix d).2.1, (mix_unmix d).2.2.1, (mix_unmix d).2.2.2] at h
              rw [umI_of, umI_of, umI_of, umI_of]; exact h
            have hB : b.toNat < 256 := b.toNat_lt
            have hus := us_sb hB
            have hS := sbN_lt b.toNat
            have hU : usN b.toNat < 256 := hus.2.2.1
            have e1 : ((usN (sbN b.toNat) : Nat) : Int) = (b.toNat : Int) := by rw [hus.1]
            have e2 : ((sbN (usN b.toNat) : Nat) : Int) = (b.toNat : Int) := by rw [hus.2.1]
            have hw : colW c 4 = wd (mixS (fun j => subS (c j)) mixM 0).toNat (mixS (fun j => subS (c j)) mixM 1).toNat (mixS (fun j => subS (c j)) mixM 2).toNat (mixS (fun j => subS (c j)) mixM 3).toNat := colW_all c
            have rm0 := u8_range (mixS c mixM 0)
            have rm1 := u8_range (mixS c mixM 1)
            have rm2 := u8_range (mixS c mixM 2)
            have rm3 := u8_range (mixS c mixM 3)
            have rd0 := u8_range (d 0)
            have rd1 := u8_range (d 1)
            have rd2 := u8_range (d 2)
            have rd3 := u8_range (d 3)
            have l0 := u8_lt (mixS (fun j => subS (c j)) mixM 0)
            have l1 := u8_lt (mixS (fun j => subS (c j)) mixM 1)
            have l2 := u8_lt (mixS (fun j => subS (c j)) mixM 2)
            have l3 := u8_lt (mixS (fun j => subS (c j)) mixM 3)
            generalize (mixS (fun j => subS (c j)) mixM 0).toNat = p0 at *
            generalize (mixS (fun j => subS (c j)) mixM 1).toNat = p1 at *
            generalize (mixS (fun j => subS (c j)) mixM 2).toNat = p2 at *
            generalize (mixS (fun j => subS (c j)) mixM 3).toNat = p3 at *
            have o1 : bits .or .u32 ((p0 : Int) * 16777216) ((p1 : Int) * 65536) = ((p0 * 16777216 ||| p1 * 65536 : Nat) : Int) := by
              rw [show (p0 : Int) * 16777216 = ((p0 * 16777216 : Nat) : Int) by simp, show (p1 : Int) * 65536 = ((p1 * 65536 : Nat) : Int) by simp, u32_or_nat _ _ (by omega) (by omega)]
            have m1 : p0 * 16777216 ||| p1 * 65536 < 4294967296 := or_lt32 (by omega) (by omega)
            have o2 : bits .or .u32 ((p0 * 16777216 ||| p1 * 65536 : Nat) : Int) ((p2 : Int) * 256) = ((p0 * 16777216 ||| p1 * 65536 ||| p2 * 256 : Nat) : Int) := by
              rw [show (p2 : Int) * 256 = ((p2 * 256 : Nat) : Int) by simp, u32_or_nat _ _ m1 (by omega)]
            have m2 : p0 * 16777216 ||| p1 * 65536 ||| p2 * 256 < 4294967296 := or_lt32 m1 (by omega)
            have o3 : bits .or .u32 ((p0 * 16777216 ||| p1 * 65536 ||| p2 * 256 : Nat) : Int) (p3 : Int) = (colW c 4 : Int) := by
              rw [hw, u32_or_nat _ _ m2 (by omega)]; rfl
            clear hw m1 m2 hus
            generalize ((p0 * 16777216 ||| p1 * 65536 ||| p2 * 256 : Nat) : Int) = y2 at *
            generalize ((p0 * 16777216 ||| p1 * 65536 : Nat) : Int) = y1 at *
            generalize (colW c 4 : Int) = CW at *
            generalize ((mixS c mixM 0).toNat : Int) = m0 at *
            generalize ((mixS c mixM 1).toNat : Int) = m1 at *
            generalize ((mixS c mixM 2).toNat : Int) = m2 at *
            generalize ((mixS c mixM 3).toNat : Int) = m3 at *
            generalize ((c 0).toNat : Int) = c0 at *
            generalize ((c 1).toNat : Int) = c1 at *
            generalize ((c 2).toNat : Int) = c2 at *
            generalize ((c 3).toNat : Int) = c3 at *
            generalize ((d 0).toNat : Int) = d0 at *
            generalize ((d 1).toNat : Int) = d1 at *
            generalize ((d 2).toNat : Int) = d2 at *
            generalize ((d 3).toNat : Int) = d3 at *
            generalize b.toNat = B at *
            have heq := fun a b c d w => eq22 a b c d w
            clear hbel
            go_wp2_with fail
            refine wp_region_below (by kernel_rfl) (by kernel_rfl) ?_
            repeat (go_big_quiet_step (first | (go_at_call 11; exact Calls.below_of (HSB.out _ (by assumption) _)) | (go_at_call 13; exact Calls.below_of (HUS.out _ (by assumption) _)) | (go_at_call 17; exact Calls.below_of (HUM.out _ _ _ _ (by assumption) (by assumption) (by assumption) (by assumption) _)) | (go_at_call 15; exact Calls.below_of (HMM.out _))))
            refine wpQuiet_nil ?_
            intro i
            go_wp2_with fail
            go_ret
            refine ⟨rfl, ?_⟩
            have hfin : Below g w i.v := (((HWB.out.trans (HBL.out.mono (by omega))).trans (hin0.out.mono (Nat.le_of_lt (row_lt HRC.out)))).trans (HBE.out.mono (Nat.le_of_lt HMC.out.lt))).trans (i.below.mono (Nat.le_of_lt (HMC.out.next HBE.out).lt))
            rw [HG.out]; exact hfin
end Go.Proofs.Ytdbledfpphkppaa
