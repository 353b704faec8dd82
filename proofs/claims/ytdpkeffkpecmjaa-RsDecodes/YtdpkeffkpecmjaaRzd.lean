/- What the document's amounts answers. -/
import Derived.Test.YtdpkeffkpecmjaaGz
import Derived.Test.YtdpkeffkpecmjaaRmx
import Derived.Test.YtdpkeffkpecmjaaGt
namespace Go.Proofs.Ytdpkeffkpecmjaa
open Go.RowKit
set_option linter.unusedVariables false

/-- The equations: each column a place, the last one the syndromes. -/
def amA (f n : Nat) (s : List UInt8) (PL : List Int) : Mx := fun r j => if j < PL.length then pw 29 2 ((n - 1 - (PL.getD j 0).toNat) * (f + r)) else cf s r
theorem pwI_nat {a : UInt8} (ha : a ≠ 0) (m : Nat) : pwI 29 a (m : Int) = pw 29 a m := by
  unfold pwI
  rw [show (((m : Int) % 255).toNat) = m % 255 by omega]
  have h255 : pw 29 a 255 = 1 := fermat one_d ha
  have : m = 255 * (m / 255) + m % 255 := (Nat.div_add_mod m 255).symm
  rw [this, pw_add, ← pw_mul, h255, one_pw, one_bm, Nat.mul_add_mod, Nat.mod_mod]
theorem refPow_nat {b : Nat} (a : UInt8) (ha : a ≠ 0) (m : Nat) (w : World) (hf : RfAt w b 29 2) : Calls Try.prog 78 #[.pointer (some ⟨b, 0, none⟩), .int .u8 (a.toNat : Int), .int .i64 (m : Int)] w fun e w' => e = .returned (.tuple #[.int .u8 ((pw 29 a m).toNat : Int), .int .i64 0]) ∧ w' = w := by
  by_cases h : m = 0
  · subst h
    exact refPow_one a w
  · have := refPow_any a ha (m : Int) (by omega) w hf
    rwa [pwI_nat ha] at this
theorem xor_u8m (x y : UInt8) : bits .xor .u8 (x.toNat : Int) (y.toNat : Int) = ((x ^^^ y).toNat : Int) := by rw [u8_xor_nat _ _ (u8_lt x) (u8_lt y), UInt8.toNat_xor]
/-- What the answer is: nothing, where some column has no row left; else the last column. -/
def AmIs (k : Nat) (A0 : Mx) (X : List UInt8) : Prop := (X = [] ∧ ∃ i A, i < k ∧ Gi k i A0 A ∧ ∀ q, i ≤ q → q < k → A q i = 0) ∨ ∃ A, Gi k k A0 A ∧ X = (List.range k).map fun r => A r k

set_option maxRecDepth 100000 in
set_option maxHeartbeats 12800000 in
theorem amounts_any {c p f : Nat} (hp : p ≤ 254) (hf : f ≤ 254) (s : List UInt8) (PL : List Int) (n : Nat) (hn : n ≤ 255) (hPL : ∀ i, i < PL.length → ∃ q : Nat, PL.getD i 0 = (q : Int) ∧ q < n) (hk : PL.length ≤ s.length) (hk2 : PL.length ≤ 254) (vs vp : Value) (w : World) (hc : RkAt w c p f) (hs : SlAt w vs s) (hv : IlAt w vp PL) :
    Calls Try.prog 66 #[.pointer (some ⟨c, 0, none⟩), vs, vp, .int .i64 n] w fun e w' => ∃ u X, e = .returned u ∧ SlAt w' u X ∧ AmIs PL.length (amA f n s PL) X ∧ Below w.heap.size w w' := by
  have HCD := hidD hc
  have HSV := hidD hs
  obtain ⟨a, cap, rfl, hcap1, hcap2, hcell⟩ := hv
  obtain ⟨⟨as1, cs, rfl, hcs1, hcs2⟩, hsb⟩ := hs
  have HCE := hidD hcell
  have HSC := hidD hsb.shape
  have HFI := hidD (refField_any w)
  have HQ := hidD hPL
  have HA1 : Hid (∀ r j q : Nat, j < PL.length → PL.getD j 0 = (q : Int) → amA f n s PL r j = pw 29 (pw 29 2 (n - 1 - q)) (f + r)) := fun r j q hj hq => by
    unfold amA
    rw [if_pos hj, hq, Int.toNat_natCast, pw_mul]
  have HA2 : Hid (∀ r, amA f n s PL r PL.length = cf s r) := fun r => if_neg (Nat.lt_irrefl _)
  have HX : Hid (∀ (b m : Nat) (w : World), RfAt w b 29 2 → Calls Try.prog 43 #[.pointer (some ⟨b, 0, none⟩), .int .i64 (m : Int)] w fun e w' => e = .returned (.int .u8 ((pw 29 2 m).toNat : Int)) ∧ w' = w) := fun b m w hf => by
    have := refExp_any (P := 29) (g := 2) (m : Int) w hf
    rwa [pwI_eq] at this
  have HPW : Hid (∀ (b m t : Nat) (w : World), RfAt w b 29 2 → Calls Try.prog 78 #[.pointer (some ⟨b, 0, none⟩), .int .u8 ((pw 29 2 m).toNat : Int), .int .i64 (t : Int)] w fun e w' => e = .returned (.tuple #[.int .u8 ((pw 29 (pw 29 2 m) t).toNat : Int), .int .i64 0]) ∧ w' = w) := fun b m t w hf => refPow_nat _ (pw_ne one_d m) t w hf
  clear hcell hsb hPL hc
  generalize amA f n s PL = A0 at *
  generalize PL.length = k at *
  generalize s.length = sl at *
  obtain ⟨K1, hK1⟩ : ∃ K1 : Nat, K1 = k + 1 := ⟨_, rfl⟩
  have hk1 : (k : Int) + 1 = (K1 : Int) := by omega
  have HK1 := hidD hK1
  have hK1b : K1 ≤ 255 := by omega
  clear hK1
  obtain ⟨i22, hi22, hz220, hz221, hz222⟩ := info_parts Try.info22
  obtain ⟨i5, hi5, hz50, hz51, hz52⟩ := info_parts Try.info5
  go_enter Try.func66, Try.ntmps66
  go_wp2_with (first
    | (go_at_call 37; refine HFI.out.mono ?_; rintro e w2 ⟨b, rfl, _, hf2, hb2⟩; have HF2 := hidD hf2; have HB2 := hidD hb2; clear hf2 hb2)
    | (at_make; refine wpList_make_row _ rfl _ _ 47 rfl 22 i22 (.slice none 0 0) Try.underlying47 hi22 hz220 hz221 rfl _ _ k rfl rfl (by rw [hz222]; omega) (by omega) ?_; have HM1 : Hid (MatAt (w2.alloc (.cells (madeCells #[Value.slice none 0 0] k) (22 : TypeId))) w2.heap.size w2.heap.size k K1 0 (fun _ => 0) A0) := (MatAt.make _ _ (Nat.le_refl _)); have HB1 : Hid (Below w2.heap.size w2 (w2.alloc (.cells (madeCells #[Value.slice none 0 0] k) (22 : TypeId)))) := ((Below.refl _ _).alloc (Nat.le_refl _) _); generalize (w2.alloc (.cells (madeCells #[Value.slice none 0 0] k) (22 : TypeId))) = w1 at *))
  generalize hG : w2.heap.size = G at *
  have HG := hidD hG
  have HSZ : Hid (w.heap.size ≤ G) := by show _ ≤ _; rw [← hG]; exact HB2.out.size
  have HFG : Hid (b < G) := by show _ < _; rw [← hG]; exact HF2.out.lt
  have HCG : Hid (c < G) := Nat.lt_of_lt_of_le HCD.out.lt HSZ.out
  have HCD2 := hidD (HCD.out.next HB2.out)
  clear hG
  go_loopw [12] (fun i wr => ∃ (r : Nat) (bl : Nat → Nat), r ≤ k ∧ i = .int .i64 r ∧ MatAt wr G G k K1 r bl A0 ∧ Below G w2 wr) (fun i _ => k - (intOf i).toNat)
  case atStart => exact ⟨0, _, Nat.zero_le _, rfl, HM1.out, HB1.out⟩
  case round =>
    obtain ⟨r, bl, hr, rfl, hmat, hbel⟩ := hrel
    by_cases hlt : r < k
    · have hlti : (r : Int) < k := by omega
      have hnl : ∀ o, (wr.alloc o).cell? ⟨G, r, none⟩ = some (.slice none 0 0) := fun o => (hmat.next ((Below.refl _ _).alloc (Nat.le_refl _) o)).nlc (Nat.le_refl _) hlt
      have hfz : ∀ o, (wr.alloc o).frozen? ⟨G, r, none⟩ = false := fun o => (hmat.next ((Below.refl _ _).alloc (Nat.le_refl _) o)).frz r
      have HM2 : Hid (MatAt ((wr.alloc (.cells (madeCells #[Value.int .u8 0] K1) (5 : TypeId))).setCell ⟨G, r, none⟩ (.slice (some ⟨wr.heap.size, 0, none⟩) K1 K1)) G G k K1 (r + 1) (fun x => if x = r then wr.heap.size else bl x) (fun x j => if x = r then (if j < 0 then A0 r j else 0) else A0 x j)) := by
        refine (hmat.lay (b := wr.heap.size) hlt ((Below.refl _ _).alloc (Nat.le_refl _) _) (Nat.le_refl _) ?_).congr fun x j _ _ => ?_
        · show _ = _
          rw [heap_alloc_last, made_bytes]
        · by_cases h : x = r
          · rw [if_pos h, if_pos h, if_neg (by omega)]
          · rw [if_neg h, if_neg h]
      have HBB2 : Hid (Below G w2 ((wr.alloc (.cells (madeCells #[Value.int .u8 0] K1) (5 : TypeId))).setCell ⟨G, r, none⟩ (.slice (some ⟨wr.heap.size, 0, none⟩) K1 K1))) := (hbel.alloc (by have := hmat.lt; omega) _).setCell (p := ⟨G, r, none⟩) (Nat.le_refl _) _
      have hc2 := HM2.out.slc (r := r) (by omega) (by omega)
      rw [if_pos rfl] at hc2
      clear hmat hbel
      go_wp2_with (at_make; refine wpList_make_row _ rfl _ _ 22 rfl 5 i5 (.int .u8 0) Try.underlying22 hi5 hz50 hz51 rfl _ _ K1 rfl rfl (by rw [hz52]; omega) (by omega) ?_)
      generalize hbk : wr.heap.size = br at *
      clear hbk hnl hfz hc2
      generalize ((wr.alloc (.cells (madeCells #[Value.int .u8 0] K1) (5 : TypeId))).setCell ⟨G, r, none⟩ (.slice (some ⟨br, 0, none⟩) K1 K1)) = w4 at *
      go_loopw [13] (fun i wq => ∃ q : Nat, q ≤ k ∧ i = .int .i64 q ∧ MatAt wq G G k K1 (r + 1) (fun x => if x = r then br else bl x) (fun x j => if x = r then (if j < q then A0 r j else 0) else A0 x j) ∧ Below G w2 wq) (fun i _ => k - (intOf i).toNat)
      case atStart => exact ⟨0, Nat.zero_le _, rfl, HM2.out, HBB2.out⟩
      case round =>
        obtain ⟨q, hq, rfl, hmat, hbel⟩ := hrel
        have hc0 : wr.cell? ⟨G, r, none⟩ = some (.slice (some ⟨br, 0, none⟩) K1 K1) := by
          have := hmat.slc (r := r) (by omega) (by omega)
          rwa [if_pos rfl] at this
        have hcb : ∃ y : UInt8, wr.cell? ⟨br, q, none⟩ = some (.int .u8 (y.toNat : Int)) := by
          have := hmat.cell (r := r) (j := q) (by omega) (by have := HK1.out; omega)
          rw [if_pos rfl] at this
          exact ⟨_, this⟩
        obtain ⟨y, hcb⟩ := hcb
        have hfb : wr.frozen? ⟨br, q, none⟩ = false := by
          have := hmat.frzr (r := r) (by omega) q
          rwa [if_pos rfl] at this
        have hcd2 : wr.drew.cell? ⟨br, q, none⟩ = some (.int .u8 (y.toNat : Int)) := hcb
        have hfd2 : wr.drew.frozen? ⟨br, q, none⟩ = false := hfb
        have hblk : br ≠ G := by have := hmat.ne r (by omega); rwa [if_pos rfl] at this
        have hblo : G ≤ br := by have := hmat.low r (by omega); rwa [if_pos rfl] at this
        have HMW := hidD hmat
        have HBW := hidD hbel
        have HBL := hidD hblo
        have HBK := hidD hblk
        have HPUT : Hid (∀ (z : UInt8) (w' : World), MatAt w' G G k K1 (r + 1) (fun x => if x = r then br else bl x) (fun x j => if x = r then (if j < q then A0 r j else 0) else A0 x j) → z = A0 r q → MatAt (w'.setCell ⟨br, q, none⟩ (.int .u8 (z.toNat : Int))) G G k K1 (r + 1) (fun x => if x = r then br else bl x) (fun x j => if x = r then (if j < q + 1 then A0 r j else 0) else A0 x j)) := fun z w' hm hz => by
          have h1 := hm.put (r := r) (j := q) (by omega) (by have := HK1.out; omega) z
          rw [if_pos rfl] at h1
          refine h1.congr fun x j hx hj => ?_
          by_cases hrk : x = r
          · subst hrk
            by_cases hjq : j = q
            · subst hjq; rw [if_pos ⟨rfl, rfl⟩, if_pos rfl, if_pos (by omega), hz]
            · rw [if_neg (fun h => hjq h.2), if_pos rfl, if_pos rfl]
              by_cases h2 : j < q
              · rw [if_pos h2, if_pos (by omega)]
              · rw [if_neg h2, if_neg (by omega)]
          · rw [if_neg (fun h => hrk h.1), if_neg hrk, if_neg hrk]
        by_cases hqt : q < k
        · have hqti : (q : Int) < k := by omega
          have hqtK : (q : Int) < K1 := by omega
          obtain ⟨gp, op, rfl, hgp, hcp⟩ := HCE.out q hqt
          obtain ⟨pl, hpl, hpn⟩ := HQ.out q hqt
          rw [hpl] at hcp
          have HAQ : Hid (pw 29 (pw 29 2 (n - 1 - pl)) (f + r) = A0 r q) := (HA1.out r q pl hqt hpl).symm
          obtain ⟨N1, hN1⟩ : ∃ N1 : Nat, N1 = n - 1 := ⟨_, rfl⟩
          obtain ⟨PP, hPP⟩ : ∃ PP : Nat, PP = n - 1 - pl := ⟨_, rfl⟩
          obtain ⟨FI, hFI⟩ : ∃ FI : Nat, FI = f + r := ⟨_, rfl⟩
          have hw1 : IntKind.i64.wrap ((n : Int) - 1) = (N1 : Int) := by rw [IntKind.wrap_i64]; omega
          have hw2 : IntKind.i64.wrap ((N1 : Int) - (pl : Int)) = (PP : Int) := by rw [IntKind.wrap_i64]; omega
          have hw3 : IntKind.i64.wrap ((f : Int) + (r : Int)) = (FI : Int) := by rw [IntKind.wrap_i64]; omega
          rw [← hPP, ← hFI] at HAQ
          clear hN1 hPP hFI hpl hpn
          have HGP : Hid (gp < G) := Nat.lt_of_lt_of_le hgp HSZ.out
          have f1 : ∀ i : KB wr [G, gp, c], i.v.cell? ⟨G, r, none⟩ = some (.slice (some ⟨br, 0, none⟩) K1 K1) := fun i => (i.cell (b := G) (by simp) _).trans hc0
          have f2 : ∀ i : KB wr [G, gp, c], i.v.cell? ⟨gp, op + q, none⟩ = some (.int .i64 (pl : Int)) := fun i => (i.cell (b := gp) (by simp) _).trans ((hbel.cell (p := ⟨gp, op + q, none⟩) HGP.out).trans ((HB2.out.cell (p := ⟨gp, op + q, none⟩) hgp).trans hcp))
          have f3 : ∀ i : KB wr [G, gp, c], i.v.cell? ⟨c, 1, none⟩ = some (.int .i64 (f : Int)) := fun i => (i.cell (b := c) (by simp) _).trans ((hbel.cell (p := ⟨c, 1, none⟩) HCG.out).trans HCD2.out.c1)
          have HFD : Hid (RfAt wr.drew b 29 2) := (HF2.out.below (hbel.drew) HFG.out)
          have HDR : Hid (Below wr.heap.size wr wr.drew) := (Below.refl _ _).drew
          have HRS := hidD (HPUT.out _ wr.drew (hmat.next HDR.out) HAQ.out)
          have HBS : Hid (∀ z : UInt8, Below G w2 (wr.drew.setCell ⟨br, q, none⟩ (.int .u8 (z.toNat : Int)))) := fun z => (hbel.drew).setCell (p := ⟨br, q, none⟩) HBL.out _
          have HKD : Hid (∃ i : KB wr [G, gp, c], wr.drew = i.v) := ⟨⟨wr.drew, fun _ _ => rfl⟩, rfl⟩
          have HKS : Hid (∀ z : UInt8, ∃ i : KB wr [G, gp, c], wr.drew.setCell ⟨br, q, none⟩ (.int .u8 (z.toNat : Int)) = i.v) := fun z => ⟨⟨_, fun x hx => by
            rcases (show x = G ∨ x = gp ∨ x = c by simpa using hx) with h | h | h
            · rw [h]; exact heap_setCell_other wr.drew _ _ _ (fun e => HBK.out e.symm)
            · rw [h]; exact heap_setCell_other wr.drew _ _ _ (fun e => by have := HGP.out; have := HBL.out; simp at e; omega)
            · rw [h]; exact heap_setCell_other wr.drew _ _ _ (fun e => by have := HCG.out; have := HBL.out; simp at e; omega)⟩, rfl⟩
          clear hmat hbel hcp hc0 HPUT
          go_wp2_with fail
          refine wp_region_seg [0, 0, 0, 0, 0, 0, 0, 0, 0, 0, 0, 0, 0, 0, 1, 0, 0, 0, 0, 0, 0, 3, 4, 4, 4, 4, 5] 3 27 [G, gp, c] (by kernel_rfl) (by kernel_rfl) (by kernel_rfl) (by kernel_rfl) (by kernel_rfl) (by kernel_rfl) (by kernel_rfl) (by kernel_rfl) (fun _ _ _ _ _ h => h) ?_
          simp only [SegW, pk, Nat.reduceMul, Nat.reduceAdd, Nat.reduceBEq, cond_true, cond_false]
          repeat (go_big_quiet_step (fail))
          refine wpQuiet_nil ?_
          go_wp2_with (go_at_call 43; refine (HX.out _ _ _ HFD.out).mono ?_; rintro e w5 ⟨rfl, hw5⟩; subst w5)
          refine ⟨HKD.out, ?_⟩
          repeat (go_big_quiet_step (fail))
          refine wpQuiet_nil ?_
          go_wp2_with (go_at_call 78; refine (HPW.out _ _ _ _ HFD.out).mono ?_; rintro e w5 ⟨rfl, hw5⟩; subst w5)
          refine ⟨HKD.out, ?_⟩
          repeat (go_big_quiet_step (fail))
          refine wpQuiet_nil ?_
          go_wp2_with fail
          refine ⟨HKS.out _, ?_⟩
          repeat (go_big_quiet_step (fail))
          refine wpQuiet_nil ?_
          go_wp2_with fail
          go_roundw
          case rel => exact ⟨q + 1, by omega, by go_num, HRS.out, HBS.out _⟩
          case measure => simp [intOf]; omega
        · obtain rfl : q = k := by omega
          have hqtK : (q : Int) < K1 := by omega
          have hrs : r < sl := by omega
          have hrsi : (r : Int) < sl := by omega
          obtain ⟨asx, csx, hvx, hscell⟩ := HSC.out
          injection hvx with hvx1 hvx2 hvx3
          obtain ⟨gs, os, hgs, hgsl, hcs⟩ := hscell r (by omega)
          rw [← hvx1] at hgs
          subst hgs
          have HAQ : Hid (cf s r = A0 r q) := (HA2.out r).symm
          have HGS : Hid (gs < G) := Nat.lt_of_lt_of_le hgsl HSZ.out
          have f1 : ∀ i : KB wr [G, gs], i.v.cell? ⟨G, r, none⟩ = some (.slice (some ⟨br, 0, none⟩) K1 K1) := fun i => (i.cell (b := G) (by simp) _).trans hc0
          have f2 : ∀ i : KB wr [G, gs], i.v.cell? ⟨gs, os + r, none⟩ = some (.int .u8 ((cf s r).toNat : Int)) := fun i => (i.cell (b := gs) (by simp) _).trans ((hbel.cell (p := ⟨gs, os + r, none⟩) HGS.out).trans ((HB2.out.cell (p := ⟨gs, os + r, none⟩) hgsl).trans hcs))
          have HDR : Hid (Below wr.heap.size wr wr.drew) := (Below.refl _ _).drew
          have HRS : Hid (MatAt (wr.drew.setCell ⟨br, q, none⟩ (.int .u8 ((cf s r).toNat : Int))) G G q K1 (r + 1) (fun x => if x = r then br else bl x) A0) := (HPUT.out _ wr.drew (hmat.next HDR.out) HAQ.out).congr fun x j hx hj => by
            by_cases h : x = r
            · rw [if_pos h, if_pos (by have := HK1.out; omega), h]
            · rw [if_neg h]
          have HBS : Hid (Below G w2 (wr.drew.setCell ⟨br, q, none⟩ (.int .u8 ((cf s r).toNat : Int)))) := (hbel.drew).setCell (p := ⟨br, q, none⟩) HBL.out _
          generalize cf s r = Z at *
          clear hmat hbel hcs hc0 HPUT hvx1 hvx2 hvx3 hscell
          go_wp2_with fail
          refine wp_region_seg [0, 0, 0, 0, 0, 0, 0, 0, 0, 0, 99] 0 10 [G, gs] (by kernel_rfl) (by kernel_rfl) (by kernel_rfl) (by kernel_rfl) (by kernel_rfl) (by kernel_rfl) (by kernel_rfl) (by kernel_rfl) (fun _ _ _ _ _ h => h) ?_
          simp only [SegW, pk, Nat.reduceMul, Nat.reduceBEq, cond_true, cond_false]
          repeat (go_big_quiet_step (fail))
          refine wpQuiet_nil ?_
          go_wp2_with fail
          go_roundw
          case rel => exact ⟨r + 1, _, by omega, by go_num, HRS.out, HBS.out⟩
          case measure => simp [intOf]; omega
    · obtain rfl : k = r := by omega
      have HM3 := hidD hmat
      have HB3 := hidD hbel
      clear hmat hbel
      obtain ⟨wm, hwm⟩ : ∃ wm, wm = wr := ⟨_, rfl⟩
      subst hwm
      go_wp2_with fail
      go_loopw [14] (fun i wr => ∃ (t : Nat) (bl : Nat → Nat) (A : Mx), t ≤ k ∧ i = .int .i64 t ∧ Gi k t A0 A ∧ MatAt wr G G k K1 k bl A ∧ Below G w2 wr) (fun i _ => k - (intOf i).toNat)
      case atStart => exact ⟨0, bl, A0, Nat.zero_le _, rfl, Gi.start k A0, HM3.out, HB3.out⟩
      case round =>
        obtain ⟨t, bl2, A, ht, rfl, hgi, hmat, hbel⟩ := hrel
        have HGI := hidD hgi
        have HMA := hidD hmat
        have HBA := hidD hbel
        have hsl : ∀ q, q < k → wr.cell? ⟨G, q, none⟩ = some (.slice (some ⟨bl2 q, 0, none⟩) K1 K1) := fun q hq => hmat.slc hq (Nat.le_refl _)
        have hrw : ∀ q j, q < k → j < K1 → wr.cell? ⟨bl2 q, j, none⟩ = some (.int .u8 ((A q j).toNat : Int)) := fun q j hq hj => hmat.cell hq hj
        have HSL := hidD hsl
        have HRW := hidD hrw
        clear hgi hmat hbel hsl hrw
        obtain ⟨wo, hwo⟩ : ∃ wo, wo = wr := ⟨_, rfl⟩
        subst hwo
        by_cases htt : t < k
        · have htti : (t : Int) < k := by omega
          have htK : (t : Int) < K1 := by omega
          have htKn : t < K1 := by omega
          go_wp2_with fail
          go_loopw [15] (fun i wr => ∃ q : Nat, t ≤ q ∧ q ≤ k ∧ i = .int .i64 q ∧ (∀ j, t ≤ j → j < q → A j t = 0) ∧ wr = wo) (fun i _ => k - (intOf i).toNat)
          case atStart => exact ⟨t, Nat.le_refl _, ht, rfl, fun j h1 h2 => absurd h2 (by omega), rfl⟩
          case round =>
            obtain ⟨q, hq1, hq2, rfl, hz, hw⟩ := hrel
            subst wr
            have HZ := hidD hz
            clear hz
            by_cases hqk : q < k
            · have hqki : (q : Int) < k := by omega
              have f1 := HSL.out q hqk
              have f2 := HRW.out q t hqk htKn
              by_cases hA : A q t = 0
              · have HA0 := hidD hA
                rw [hA] at f2
                have f2' : wo.cell? ⟨bl2 q, t, none⟩ = some (.int .u8 0) := f2
                clear hA f2
                go_wp2_with fail
                go_roundw
                case rel => exact ⟨q + 1, by omega, by omega, by go_num, fun j h1 h2 => by
                  by_cases h : j = q
                  · rw [h]; exact HA0.out
                  · exact HZ.out j h1 (by omega), by first | rfl | trivial⟩
                case measure => simp [intOf]; omega
              · have HPV := hidD hA
                have hAi : ¬ ((A q t).toNat : Int) = 0 := fun h => hA (UInt8.toNat.inj (by simpa using h))
                have hAb : (((A q t).toNat : Int) == 0) = false := beq_eq_false_iff_ne.2 hAi
                have hqb : ((q : Int) == (k : Int)) = false := beq_eq_false_iff_ne.2 (by omega)
                have f3 := HSL.out t htt
                have g1 : wo.frozen? ⟨G, q, none⟩ = false := HMA.out.frz q
                have g2 : wo.frozen? ⟨G, t, none⟩ = false := HMA.out.frz t
                have HSW : Hid (MatAt ((wo.drew.setCell ⟨G, t, none⟩ (.slice (some ⟨bl2 q, 0, none⟩) K1 K1)).setCell ⟨G, q, none⟩ (.slice (some ⟨bl2 t, 0, none⟩) K1 K1)) G G k K1 k (fun r => if r = q then bl2 t else if r = t then bl2 q else bl2 r) (gsw A t q)) := ((HMA.out.next ((Below.refl _ _).drew)).swap htt hqk).congr fun r j _ _ => by
                  unfold gsw
                  by_cases h1 : r = q
                  · by_cases h2 : r = t
                    · rw [if_pos h1, if_pos h2, ← h1, h2]
                    · rw [if_pos h1, if_neg h2, if_pos h1]
                  · by_cases h2 : r = t
                    · rw [if_neg h1, if_pos h2, if_pos h2]
                    · rw [if_neg h1, if_neg h2, if_neg h2, if_neg h1]
                have HBV : Hid (Below G w2 ((wo.drew.setCell ⟨G, t, none⟩ (.slice (some ⟨bl2 q, 0, none⟩) K1 K1)).setCell ⟨G, q, none⟩ (.slice (some ⟨bl2 t, 0, none⟩) K1 K1))) := ((HBA.out.drew).setCell (p := ⟨G, t, none⟩) (Nat.le_refl _) _).setCell (p := ⟨G, q, none⟩) (Nat.le_refl _) _
                have HST : Hid (Gi k (t + 1) A0 (gel (gsc (gsw A t q) t (inv 29 (gsw A t q t t)) (k + 1)) t k 0)) := HGI.out.step hq1 hqk hA
                have HSN : Hid (gsw A t q t t ≠ 0) := by show (if t = t then A q t else _) ≠ 0; rw [if_pos rfl]; exact hA
                generalize gsw A t q = S at *
                clear hA
                have e1 : (wo.drew.setCell ⟨G, t, none⟩ (.slice (some ⟨bl2 q, 0, none⟩) K1 K1)).cell? ⟨G, q, none⟩ = some (.slice (some ⟨bl2 q, 0, none⟩) K1 K1) := by
                  rw [cell_of_row _ _ _ _ _ _ (heap_setCell_same wo.drew G t _ _ _ (show wo.drew.heap[G]? = _ from HMA.out.sl)), slC_put htt (Nat.le_refl _), slC_get hqk, if_pos hqk]
                  by_cases h : q = t
                  · rw [if_pos h]
                  · rw [if_neg h]
                have e2 : (wo.drew.setCell ⟨G, t, none⟩ (.slice (some ⟨bl2 q, 0, none⟩) K1 K1)).frozen? ⟨G, q, none⟩ = false := frozen_of_row _ _ _ _ _ (heap_setCell_same wo.drew G t _ _ _ (show wo.drew.heap[G]? = _ from HMA.out.sl))
                generalize (fun r => if r = q then bl2 t else if r = t then bl2 q else bl2 r) = bl3 at *
                go_wp2_with fail
                go_region
                clear e1 e2
                generalize ((wo.drew.setCell ⟨G, t, none⟩ (.slice (some ⟨bl2 q, 0, none⟩) K1 K1)).setCell ⟨G, q, none⟩ (.slice (some ⟨bl2 t, 0, none⟩) K1 K1)) = w6 at *
                clear f1 f2 f3 g1 g2 hAi hAb hqb
                have HF6 : Hid (RfAt w6 b 29 2) := HF2.out.below HBV.out HFG.out
                have HIV : Hid (Calls Try.prog 71 #[.pointer (some ⟨b, 0, none⟩), .int .u8 ((S t t).toNat : Int)] w6 fun e w' => e = .returned (.tuple #[.int .u8 ((inv 29 (S t t)).toNat : Int), .int .i64 0]) ∧ w' = w6) := refInv_some _ HSN.out w6 HF6.out
                have f1 := HSW.out.slc htt (Nat.le_refl _)
                have f2 := HSW.out.cell htt htKn
                have HSA : Hid (∀ j, j < K1 → ∀ x : UInt8, gsc S t x j t j = S t j) := fun j _ x => by unfold gsc; rw [if_neg (by omega)]
                have HM7 : Hid (∀ x, MatAt w6 G G k K1 k bl3 (gsc S t x t)) := fun x => HSW.out.congr fun r j _ _ => by unfold gsc; rw [if_neg (by omega)]
                have HKE : Hid (gsc S t (inv 29 (S t t)) K1 = gsc S t (inv 29 (S t t)) (k + 1)) := by show _ = _; rw [HK1.out]
                have HMU : Hid (∀ (x y : UInt8) (w : World), RfAt w b 29 2 → Calls Try.prog 58 #[.pointer (some ⟨b, 0, none⟩), .int .u8 (x.toNat : Int), .int .u8 (y.toNat : Int)] w fun e w' => e = .returned (.int .u8 ((bm 29 x y).toNat : Int)) ∧ w' = w) := fun x y w h => refMul_any x y w h
                go_wp2_with (go_at_call 71; refine HIV.out.mono ?_; rintro e w7 ⟨rfl, hw7⟩; subst w7)
                clear f1 f2 HIV
                rw [← HKE.out] at HST
                clear HKE HSN
                generalize inv 29 (S t t) = x at *
                go_loopw [18] (fun i wr => ∃ j : Nat, t ≤ j ∧ j ≤ K1 ∧ i = .int .i64 j ∧ MatAt wr G G k K1 k bl3 (gsc S t x j) ∧ Below G w2 wr) (fun i _ => K1 - (intOf i).toNat)
                case atStart => exact ⟨t, Nat.le_refl _, Nat.le_of_lt htKn, rfl, HM7.out x, HBV.out⟩
                case round =>
                  obtain ⟨j, hj1, hj2, rfl, hmat, hbel⟩ := hrel
                  have HMW := hidD hmat
                  have HBW := hidD hbel
                  by_cases hjt : j < K1
                  · have hjti : (j : Int) < K1 := by omega
                    have hjk : (j : Int) ≤ k := by omega
                    have hc0 := hmat.slc htt (Nat.le_refl _)
                    have hc1 := hmat.cell htt hjt
                    rw [HSA.out j hjt x] at hc1
                    have hcd : wr.drew.cell? ⟨bl3 t, j, none⟩ = some (.int .u8 ((S t j).toNat : Int)) := hc1
                    have hfd : wr.drew.frozen? ⟨bl3 t, j, none⟩ = false := hmat.frzr htt j
                    have f1 : ∀ i : KB wr [G, bl3 t], i.v.cell? ⟨G, t, none⟩ = some (.slice (some ⟨bl3 t, 0, none⟩) K1 K1) := fun i => (i.cell (b := G) (by simp) _).trans hc0
                    have f2 : ∀ i : KB wr [G, bl3 t], i.v.cell? ⟨bl3 t, j, none⟩ = some (.int .u8 ((S t j).toNat : Int)) := fun i => (i.cell (b := bl3 t) (by simp) _).trans hc1
                    have HFD : Hid (RfAt wr.drew b 29 2) := (HF2.out.below (hbel.drew) HFG.out)
                    have HKD : Hid (∃ i : KB wr [G, bl3 t], wr.drew = i.v) := ⟨⟨wr.drew, fun _ _ => rfl⟩, rfl⟩
                    have HBL : Hid (G ≤ bl3 t) := hmat.low t htt
                    have HBS : Hid (Below G w2 (wr.drew.setCell ⟨bl3 t, j, none⟩ (.int .u8 ((bm 29 (S t j) x).toNat : Int)))) := (hbel.drew).setCell (p := ⟨bl3 t, j, none⟩) HBL.out _
                    have HRS : Hid (MatAt (wr.drew.setCell ⟨bl3 t, j, none⟩ (.int .u8 ((bm 29 (S t j) x).toNat : Int))) G G k K1 k bl3 (gsc S t x (j + 1))) := ((hmat.next ((Below.refl _ _).drew)).put htt hjt (bm 29 (S t j) x)).congr fun r j' _ _ => by
                      unfold gsc
                      by_cases h1 : r = t
                      · by_cases h2 : j' = j
                        · rw [if_pos ⟨h1, h2⟩, if_pos ⟨h1, by omega, by omega⟩, h1, h2]
                        · rw [if_neg (fun h => h2 h.2)]
                          by_cases h3 : t ≤ j' ∧ j' < j
                          · rw [if_pos ⟨h1, h3.1, h3.2⟩, if_pos ⟨h1, h3.1, by omega⟩]
                          · rw [if_neg (by omega), if_neg (by omega)]
                      · rw [if_neg (fun h => h1 h.1), if_neg (fun h => h1 h.1), if_neg (fun h => h1 h.1)]
                    have HMC := hidD (HMU.out (S t j) x _ HFD.out)
                    generalize bm 29 (S t j) x = Z at *
                    generalize S t j = Y at *
                    clear hmat hbel hc0 hc1
                    go_wp2_with fail
                    refine wp_region_seg [0, 0, 0, 0, 0, 0, 0, 0, 0, 0, 0, 0, 0, 0, 1, 2, 99] 1 16 [G, bl3 t] (by kernel_rfl) (by kernel_rfl) (by kernel_rfl) (by kernel_rfl) (by kernel_rfl) (by kernel_rfl) (by kernel_rfl) (by kernel_rfl) (fun _ _ _ _ _ h => h) ?_
                    simp only [SegW, pk, Nat.reduceMul, Nat.reduceAdd, Nat.reduceBEq, cond_true, cond_false]
                    repeat (go_big_quiet_step (fail))
                    refine wpQuiet_nil ?_
                    go_wp2_with (go_at_call 58; refine HMC.out.mono ?_; rintro e w7 ⟨rfl, hw7⟩; subst w7)
                    refine ⟨HKD.out, ?_⟩
                    repeat (go_big_quiet_step (fail))
                    refine wpQuiet_nil ?_
                    go_wp2_with fail
                    go_roundw
                    case rel => exact ⟨j + 1, by omega, by omega, by go_num, HRS.out, HBS.out⟩
                    case measure => simp [intOf]; omega
                  · obtain rfl : K1 = j := by omega
                    have hjk : ¬ (K1 : Int) ≤ k := by omega
                    clear hmat hbel
                    obtain ⟨w8, hw8⟩ : ∃ w8, w8 = wr := ⟨_, rfl⟩
                    subst hw8
                    go_wp2_with fail
                    generalize gsc S t x K1 = C at *
                    have HM8 : Hid (MatAt w8 G G k K1 k bl3 (gel C t 0 0)) := HMW.out.congr fun r j _ _ => by unfold gel; rw [if_neg (by omega)]
                    go_loopw [19] (fun i wr => ∃ r : Nat, r ≤ k ∧ i = .int .i64 r ∧ MatAt wr G G k K1 k bl3 (gel C t r 0) ∧ Below G w2 wr) (fun i _ => k - (intOf i).toNat)
                    case atStart => exact ⟨0, Nat.zero_le _, rfl, HM8.out, HBW.out⟩
                    case round =>
                      obtain ⟨r, hr, rfl, hmat, hbel⟩ := hrel
                      have HMR := hidD hmat
                      have HBR := hidD hbel
                      by_cases hrt : r < k
                      · have hrti : (r : Int) < k := by omega
                        have f1 := hmat.slc hrt (Nat.le_refl _)
                        have f2 := hmat.cell hrt htKn
                        rw [show gel C t r 0 r t = C r t by unfold gel; rw [if_neg (by omega)]] at f2
                        have HM9 : Hid (MatAt wr G G k K1 k bl3 (gel C t r t)) := hmat.congr fun a j _ _ => by
                          unfold gel
                          by_cases h : a ≠ t ∧ t ≤ j ∧ (a < r ∨ a = r ∧ j < 0)
                          · rw [if_pos h, if_pos (by omega)]
                          · rw [if_neg h, if_neg (by omega)]
                        obtain ⟨w9, hw9⟩ : ∃ w9, w9 = wr := ⟨_, rfl⟩
                        subst hw9
                        clear hmat hbel
                        go_wp2_with fail
                        clear f1 f2
                        go_loopw [21] (fun i wr => ∃ j : Nat, t ≤ j ∧ j ≤ K1 ∧ (r = t → j = t) ∧ i = .int .i64 j ∧ MatAt wr G G k K1 k bl3 (gel C t r j) ∧ Below G w2 wr) (fun i _ => K1 - (intOf i).toNat)
                        case atStart => exact ⟨t, Nat.le_refl _, Nat.le_of_lt htKn, fun _ => rfl, rfl, HM9.out, HBR.out⟩
                        case round =>
                          obtain ⟨j, hj1, hj2, hj3, rfl, hmat, hbel⟩ := hrel
                          have HMW := hidD hmat
                          have HBW := hidD hbel
                          have HJ3 := hidD hj3
                          clear hj3
                          by_cases hgo : j < K1 ∧ r ≠ t
                          · obtain ⟨hjt, hrne⟩ := hgo
                            have hjti : (j : Int) < K1 := by omega
                            have hjk : (j : Int) ≤ k := by omega
                            have hrb : ((r : Int) == (t : Int)) = false := beq_eq_false_iff_ne.2 (by omega)
                            have hrn : ((r : Int) != (t : Int)) = true := bne_iff_ne.2 (by omega)
                            have hc0 := hmat.slc hrt (Nat.le_refl _)
                            have hc1 := hmat.slc htt (Nat.le_refl _)
                            have hc2 := hmat.cell hrt hjt
                            have hc3 := hmat.cell htt hjt
                            rw [show gel C t r j r j = C r j by unfold gel; rw [if_neg (by omega)]] at hc2
                            rw [show gel C t r j t j = C t j by unfold gel; rw [if_neg (by omega)]] at hc3
                            have hcd : wr.drew.cell? ⟨bl3 r, j, none⟩ = some (.int .u8 ((C r j).toNat : Int)) := hc2
                            have hfd : wr.drew.frozen? ⟨bl3 r, j, none⟩ = false := hmat.frzr hrt j
                            have f1 : ∀ i : KB wr [G, bl3 r, bl3 t], i.v.cell? ⟨G, r, none⟩ = some (.slice (some ⟨bl3 r, 0, none⟩) K1 K1) := fun i => (i.cell (b := G) (by simp) _).trans hc0
                            have f2 : ∀ i : KB wr [G, bl3 r, bl3 t], i.v.cell? ⟨G, t, none⟩ = some (.slice (some ⟨bl3 t, 0, none⟩) K1 K1) := fun i => (i.cell (b := G) (by simp) _).trans hc1
                            have f3 : ∀ i : KB wr [G, bl3 r, bl3 t], i.v.cell? ⟨bl3 r, j, none⟩ = some (.int .u8 ((C r j).toNat : Int)) := fun i => (i.cell (b := bl3 r) (by simp) _).trans hc2
                            have f4 : ∀ i : KB wr [G, bl3 r, bl3 t], i.v.cell? ⟨bl3 t, j, none⟩ = some (.int .u8 ((C t j).toNat : Int)) := fun i => (i.cell (b := bl3 t) (by simp) _).trans hc3
                            have HFD : Hid (RfAt wr.drew b 29 2) := (HF2.out.below (hbel.drew) HFG.out)
                            have HKD : Hid (∃ i : KB wr [G, bl3 r, bl3 t], wr.drew = i.v) := ⟨⟨wr.drew, fun _ _ => rfl⟩, rfl⟩
                            have HBL : Hid (G ≤ bl3 r) := hmat.low r hrt
                            have HBS : Hid (Below G w2 (wr.drew.setCell ⟨bl3 r, j, none⟩ (.int .u8 ((C r j ^^^ bm 29 (C r t) (C t j)).toNat : Int)))) := (hbel.drew).setCell (p := ⟨bl3 r, j, none⟩) HBL.out _
                            have HRS : Hid (MatAt (wr.drew.setCell ⟨bl3 r, j, none⟩ (.int .u8 ((C r j ^^^ bm 29 (C r t) (C t j)).toNat : Int))) G G k K1 k bl3 (gel C t r (j + 1))) := ((hmat.next ((Below.refl _ _).drew)).put hrt hjt (C r j ^^^ bm 29 (C r t) (C t j))).congr fun a j' _ _ => by
                              unfold gel
                              by_cases h1 : a = r ∧ j' = j
                              · rw [if_pos h1, if_pos (by omega), h1.1, h1.2]
                              · rw [if_neg h1]
                                by_cases h2 : a ≠ t ∧ t ≤ j' ∧ (a < r ∨ a = r ∧ j' < j)
                                · rw [if_pos h2, if_pos (by omega)]
                                · rw [if_neg h2, if_neg (by omega)]
                            have HMC := hidD (HMU.out (C r t) (C t j) _ HFD.out)
                            have hxr := xor_u8m (C r j) (bm 29 (C r t) (C t j))
                            generalize C r j ^^^ bm 29 (C r t) (C t j) = Z at *
                            generalize bm 29 (C r t) (C t j) = U at *
                            generalize C t j = Y at *
                            generalize C r j = V at *
                            clear hmat hbel hc0 hc1 hc2 hc3
                            go_wp2_with fail
                            refine wp_region_seg [0, 0, 0, 0, 0, 0, 0, 0, 0, 0, 0, 0, 0, 0, 0, 0, 0, 0, 0, 0, 0, 1, 2, 2, 99] 1 24 [G, bl3 r, bl3 t] (by kernel_rfl) (by kernel_rfl) (by kernel_rfl) (by kernel_rfl) (by kernel_rfl) (by kernel_rfl) (by kernel_rfl) (by kernel_rfl) (fun _ _ _ _ _ h => h) ?_
                            simp only [SegW, pk, Nat.reduceMul, Nat.reduceAdd, Nat.reduceBEq, cond_true, cond_false]
                            repeat (go_big_quiet_step (fail))
                            refine wpQuiet_nil ?_
                            go_wp2_with (go_at_call 58; refine HMC.out.mono ?_; rintro e w10 ⟨rfl, hw10⟩; subst w10)
                            refine ⟨HKD.out, ?_⟩
                            repeat (go_big_quiet_step (fail))
                            refine wpQuiet_nil ?_
                            go_wp2_with fail
                            go_roundw
                            case rel => exact ⟨j + 1, by omega, by omega, fun h => absurd h hrne, by go_num, HRS.out, HBS.out⟩
                            case measure => simp [intOf]; omega
                          · have HNX : Hid (MatAt wr G G k K1 k bl3 (gel C t (r + 1) 0)) := hmat.congr fun a j' _ hj' => by
                              unfold gel
                              have hj3 := HJ3.out
                              by_cases h2 : a ≠ t ∧ t ≤ j' ∧ (a < r ∨ a = r ∧ j' < j)
                              · rw [if_pos h2, if_pos (by omega)]
                              · rw [if_neg h2, if_neg (by omega)]
                            clear hmat hbel
                            rcases (show ¬ j < K1 ∨ j < K1 ∧ r = t by omega) with hex | ⟨hex, hre⟩
                            · have hjk : ¬ (j : Int) ≤ k := by omega
                              clear hgo hex
                              go_wp2_with fail
                              go_roundw
                              case rel => exact ⟨r + 1, by omega, by go_num, HNX.out, HBW.out⟩
                              case measure => simp [intOf]; omega
                            · have hjk : (j : Int) ≤ k := by omega
                              have hrb : ((r : Int) == (t : Int)) = true := beq_iff_eq.2 (by omega)
                              have hrn : ((r : Int) != (t : Int)) = false := by rw [bne, hrb]; rfl
                              clear hgo hre
                              go_wp2_with fail
                              go_roundw
                              case rel => exact ⟨r + 1, by omega, by go_num, HNX.out, HBW.out⟩
                              case measure => simp [intOf]; omega
                      · obtain rfl : k = r := by omega
                        clear hmat hbel
                        go_wp2_with fail
                        go_roundw
                        case rel => exact ⟨t + 1, bl3, _, by omega, by go_num, HST.out, HMR.out, HBR.out⟩
                        case measure => simp [intOf]; omega
            · obtain rfl : k = q := by omega
              go_wp2_with fail
              refine bodyPost_ret (v := .slice none 0 0) (by simp [results, Try.results66, go_sem]) rfl ?_
              exact ⟨_, [], rfl, SlAt.nil _, .inl ⟨rfl, t, A, htt, HGI.out, HZ.out⟩, HB2.out.trans (HBA.out.mono HSZ.out)⟩
        · obtain rfl : k = t := by omega
          have HBS : Hid (∀ (w' : World) (x : UInt8), ByAt (w'.alloc (.cells #[.int .u8 (x.toNat : Int)] (5 : TypeId))) (.slice (some ⟨w'.heap.size, 0, none⟩) 1 1) [x]) := fun w' x => (sl_new w' [x] _ 1 rfl rfl (by omega)).by'
          have HNX : Hid (∀ j, (List.range (j + 1)).map (fun r => A r k) = (List.range j).map (fun r => A r k) ++ [A j k]) := fun j => by rw [List.range_succ, List.map_append]; rfl
          go_wp2_with fail
          go_loopw [22, 23] (fun o i wr => ∃ j : Nat, j ≤ k ∧ i = .int .i64 j ∧ wr.ownsRow wo.heap.size 5 1 o j (((List.range j).map (fun r => A r k)).map encB) ∧ Below wo.heap.size wo wr) (fun _ i _ => k - (intOf i).toNat)
          case atStart => exact ⟨0, Nat.zero_le _, rfl, World.ownsRow_nil _ _ _ _, Below.refl _ _⟩
          case round =>
            obtain ⟨j, hj, rfl, hown, hbel⟩ := hrel
            have HOW := hidD hown
            have HBW := hidD hbel
            by_cases hjt : j < k
            · have hjti : (j : Int) < k := by omega
              have hkK : (k : Int) < K1 := by omega
              have f1 : wr.cell? ⟨G, j, none⟩ = some (.slice (some ⟨bl2 j, 0, none⟩) K1 K1) := (hbel.cell (p := ⟨G, j, none⟩) HMA.out.lt).trans (HSL.out j hjt)
              have f2 : wr.cell? ⟨bl2 j, k, none⟩ = some (.int .u8 ((A j k).toNat : Int)) := (hbel.cell (p := ⟨bl2 j, k, none⟩) (HMA.out.row j hjt).lt).trans (HRW.out j k hjt (by omega))
              have HN := hidD (HNX.out j)
              clear hown hbel
              generalize A j k = X at *
              generalize hRR : ((List.range j).map (fun r => A r k)).map encB = RR at *
              have HRR := hidD hRR
              clear hRR
              go_wp2_with (at_builtin; refine wpList_append_by rfl _ _ rfl wo.heap.size u22 j RR rfl (HOW.out.alloc _) (.slice (some ⟨wr.heap.size, 0, none⟩) 1 1) [X] rfl (HBS.out wr X) (by simp; omega) (by have := HBW.out.size; simp; omega) ?_; intro v8 w8 hown8 hg8; have HO8 := hidD hown8; have HB8 := hidD (row_grown (HOW.out.alloc _) (HBW.out.alloc (by have := HBW.out.size; omega) _) hg8 (by have := HBW.out.size; simp; omega)); clear hown8 hg8)
              go_roundw
              case rel => exact ⟨j + 1, by omega, by go_num, by rw [HN.out, List.map_append, HRR.out]; exact HO8.out, HB8.out⟩
              case measure => simp [intOf]; omega
            · obtain rfl : k = j := by omega
              have HSX : Hid (SlAt wr u22 ((List.range k).map fun r => A r k)) := by
                refine sl_of_own (base := wo.heap.size) ?_
                rw [List.length_map, List.length_range]; exact hown
              obtain ⟨a7, c7, h7⟩ := row_shape hown
              subst h7
              clear hown hbel
              go_wp2_with fail
              refine bodyPost_ret (v := .slice a7 k c7) (by simp [results, Try.results66, go_sem]) rfl ?_
              exact ⟨_, _, rfl, HSX.out, .inr ⟨A, HGI.out, rfl⟩, Below.next (HB2.out.trans (HBA.out.mono HSZ.out)) HBW.out⟩
end Go.Proofs.Ytdpkeffkpecmjaa
