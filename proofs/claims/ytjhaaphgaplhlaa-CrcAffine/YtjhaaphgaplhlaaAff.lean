/- The walk of CrcAffine. -/
import Derived.Test.YtjhaaphgaplhlaaAfM
import Derived.Deep.RegionHeldLaw
namespace Go.Proofs.Ytjhaaphgaplhlaa
open Go.RowKit
set_option linter.unusedVariables false

theorem step_append_own {P : Program} {ops : Array Oper} {o : Oper} {a : Act} {w : World} {K : Act → World → Prop} {Q : Exit → Act → World → Prop} {E : Prop} (hgd : o.guard = none) (s x : Operand) (t : TypeId)
    (ho : o.op = .call { callee := .builtin .append, args := #[s, x], argTypes := #[t, t] })
    (base : Nat) (e : TypeId) (i : TypeInfo) (z : Value) (size bytes : Nat) (ht : P.underlying t = some (.slice e)) (hi : P.info? e = some i) (hz : i.zero = some z)
    (hsize : i.size = size) (hby : i.bytes = bytes) (hzs : z.cells.size = size) (hsz : 0 < size)
    (v : Value) (n : Nat) (xs : List Value) (hs : a.eval s = v) (hown : w.ownsRow base e size v n xs)
    (ad : Addr) (m c : Nat) (news : List Value) (hx : a.eval x = .slice (some ad) m c) (hl : news.length = m * size) (hnews : ∀ j u, news[j]? = some u → w.cell? (ad.add j) = some u) (h1 : ∀ u ∈ news, u.oneCell' = true)
    (h63 : n + m ≤ maxLen) (hbytes : (n + m) * bytes ≤ 140737488355328) (hbase : base ≤ w.heap.size)
    (h : ∀ v' w', w'.ownsRow base e size v' (n + m) (xs ++ news) → w.grownBy w' v.ownBlock → (v' = .slice none 0 0 ↔ v = .slice none 0 0 ∧ m = 0) → K (a.put o.dst v') w') :
    if Region.wanted o (yielded ops a.tmps) = true then Oper.wp P o a w K Q else E := by
  have hw : Region.wanted o (yielded ops a.tmps) = true := by simp [Region.wanted, hgd]
  rw [if_pos hw]
  exact wp_append_own w s x t ho base e i z size bytes ht hi hz hsize hby hzs hsz v n xs hs hown ad m c news hx hl hnews h1 h63 hbytes hbase h

set_option maxRecDepth 100000 in
set_option maxHeartbeats 400000 in
theorem affine_none (m : Mw) (hm : MwOk m) (hv : ¬ m.Valid) (sa sb sc : Value) (w : World) : Calls Try.prog 7 #[m.v, sa, sb, sc] w fun e w' => e = .returned (.bool true) ∧ Below w.heap.size w w' := by
  have HL := hidD live_any
  have HM := hidD (fun w => mine_any m w)
  have HV := hidD (fun w => valid_any m hm false (by simp [hv]) w)
  have HS := hidD (fun sl w => sum_none m hm hv sl w)
  have HN := hidD no_any
  have HM0 := hidD (MwAt.new m w 46)
  have HSZ : Hid (w.heap.size < (w.alloc (.cells m.cells 46)).heap.size) := by show _ < _; simp
  have HB0 : Hid (Below w.heap.size w (w.alloc (.cells m.cells 46))) := (Below.refl _ _).alloc (Nat.le_refl _) _
  have HMN : Hid (∀ w : World, MwAt (w.alloc (.cells m.cells 35)) w.heap.size m) := fun w => MwAt.new m w 35
  clear hm hv
  obtain ⟨nm, W, P, I, inn, out, X⟩ := m
  simp only [Mw.v, Mw.cells] at *
  go_enter Try.func7, Try.ntmps7
  go_wp2_with (first
    | (go_at_call 13; refine (HL.out _).mono ?_; rintro e w1 ⟨rfl, hb1⟩; obtain ⟨k0, k1, k2, k3, k4, k5, k6⟩ := HM0.out.below hb1 HSZ.out; have HB1 := hidD (Below.next HB0.out hb1); clear hb1)
    | (go_at_call 22; refine (HM.out _).mono ?_; rintro e w2 ⟨rfl, hb2⟩; have HB2 := hidD (Below.next HB1.out hb2); clear hb2; have HX := hidD (HMN.out w2); have HX0 : Hid (∀ o, w2.heap.size < (w2.alloc o).heap.size) := fun o => by simp)
    | (go_at_call 25; refine (HV.out _).mono ?_; rintro e w3 ⟨rfl, hb3⟩; obtain ⟨q0, q1, q2, q3, q4, q5, q6⟩ := HX.out.below hb3 (HX0.out _); have HB3 := hidD (Below.next (Below.more HB2.out _) hb3); clear hb3)
    | (go_at_call 24; refine (HS.out _ _).mono ?_; rintro e w4 ⟨rfl, hb4⟩; have HB4 := hidD (Below.next HB3.out hb4); clear hb4)
    | (go_at_call 27; refine (HN.out _ _).mono ?_; rintro e w5 ⟨rfl, hb5⟩; have HB5 := hidD (Below.next HB4.out hb5); clear hb5))
  go_ret
  exact ⟨rfl, HB5.out⟩

set_option maxRecDepth 100000 in
set_option maxHeartbeats 1000000 in
theorem affine_a (m : Md) (hm : MdOk m) (A B C : List UInt8) (hla : A.length ≤ 140737488355327) (hlb : B.length ≤ 140737488355327) (hlc : C.length ≤ 140737488355327) (hc1 : A.length ≤ B.length) (hc2 : A.length ≤ C.length) (aa ab ac : Option Addr) (ca cb cc : Nat) (hca : A.length ≤ ca) (hcb : B.length ≤ cb) (hcc : C.length ≤ cc) (w : World)
    (ha : ByAt w (.slice aa A.length ca) A) (hb : ByAt w (.slice ab B.length cb) B) (hc : ByAt w (.slice ac C.length cc) C) : Calls Try.prog 7 #[m.v, .slice aa A.length ca, .slice ab B.length cb, .slice ac C.length cc] w fun e w' => e = .returned (.bool true) ∧ Below w.heap.size w w' := by
  have HL := hidD live_any
  have HM : Hid (∀ w, Calls Try.prog 22 #[m.v] w fun e w' => e = .returned m.v ∧ Below w.heap.size w w') := fun w => mine_any ⟨m.name, m.w, m.P, m.I, m.inn, m.out, m.X⟩ w
  have HV : Hid (∀ w, Calls Try.prog 25 #[m.v] w fun e w' => e = .returned (.bool true) ∧ Below w.heap.size w w') := fun w => valid_any ⟨m.name, m.w, m.P, m.I, m.inn, m.out, m.X⟩ hm.raw true (by simp [Md.valid m hm]) w
  have HN := hidD no_any
  obtain ⟨n, hn⟩ : ∃ n : Nat, n = A.length := ⟨_, rfl⟩
  have hna : n ≤ A.length := by omega
  have hnb : n ≤ B.length := by omega
  have hnc : n ≤ C.length := by omega
  obtain ⟨D, hD⟩ : ∃ D, D = xorL (xorL (A.take n) (B.take n)) (C.take n) := ⟨_, rfl⟩
  have HDL : Hid (D.length = n) := by rw [hD]; exact xor3_length hna hnb hnc
  have HDA : Hid (∀ k, k < n → D.getD k 0 = A.getD k 0 ^^^ B.getD k 0 ^^^ C.getD k 0) := fun k hk => by rw [hD]; exact xor3_at hk hna hnb hnc
  have HAF : Hid (sumS m (A.take n) ^^^ sumS m (B.take n) ^^^ sumS m (C.take n) ^^^ sumS m D = 0) := by rw [hD]; exact affine m _ _ _ (by simp; omega) (by simp; omega)
  have HSA : Hid (∀ w', Below w.heap.size w w' → Calls Try.prog 24 #[m.v, .slice aa n ca] w' fun e w2 => e = .returned (.tuple #[.int .u64 (sumS m (A.take n) : Nat), .int .i64 0]) ∧ Below w'.heap.size w' w2) := fun w' h => sum_some m hm _ (by simp; omega) _ w' ((ha.take hna).below h (Nat.le_refl _))
  have HSB : Hid (∀ w', Below w.heap.size w w' → Calls Try.prog 24 #[m.v, .slice ab n cb] w' fun e w2 => e = .returned (.tuple #[.int .u64 (sumS m (B.take n) : Nat), .int .i64 0]) ∧ Below w'.heap.size w' w2) := fun w' h => sum_some m hm _ (by simp; omega) _ w' ((hb.take hnb).below h (Nat.le_refl _))
  have HSC : Hid (∀ w', Below w.heap.size w w' → Calls Try.prog 24 #[m.v, .slice ac n cc] w' fun e w2 => e = .returned (.tuple #[.int .u64 (sumS m (C.take n) : Nat), .int .i64 0]) ∧ Below w'.heap.size w' w2) := fun w' h => sum_some m hm _ (by simp; omega) _ w' ((hc.take hnc).below h (Nat.le_refl _))
  have HSD : Hid (∀ v w', ByAt w' v D → Calls Try.prog 24 #[m.v, v] w' fun e w2 => e = .returned (.tuple #[.int .u64 (sumS m D : Nat), .int .i64 0]) ∧ Below w'.heap.size w' w2) := fun v w' h => sum_some m hm _ (by have := HDL.out; omega) _ w' h
  have l1 := Nat.lt_of_lt_of_le (sum_lt hm (A.take n)) (pow64 hm.hi)
  have l2 := Nat.lt_of_lt_of_le (sum_lt hm (B.take n)) (pow64 hm.hi)
  have l3 := Nat.lt_of_lt_of_le (sum_lt hm (C.take n)) (pow64 hm.hi)
  have l4 := Nat.lt_of_lt_of_le (sum_lt hm D) (pow64 hm.hi)
  have x1 : bits .xor .u64 (sumS m (A.take n) : Int) (sumS m (B.take n) : Int) = ((sumS m (A.take n) ^^^ sumS m (B.take n) : Nat) : Int) := u64_xor_nat _ _ l1 l2
  have x2 : bits .xor .u64 ((sumS m (A.take n) ^^^ sumS m (B.take n) : Nat) : Int) (sumS m (C.take n) : Int) = ((sumS m (A.take n) ^^^ sumS m (B.take n) ^^^ sumS m (C.take n) : Nat) : Int) := u64_xor_nat _ _ (xor_lt (w := 64) l1 l2) l3
  have x3 : bits .xor .u64 ((sumS m (A.take n) ^^^ sumS m (B.take n) ^^^ sumS m (C.take n) : Nat) : Int) (sumS m D : Int) = 0 := by
    rw [u64_xor_nat _ _ (xor_lt (w := 64) (xor_lt (w := 64) l1 l2) l3) l4, HAF.out]; rfl
  clear l1 l2 l3 l4 HAF hD
  have HM0 := hidD (MdAt.new m w 46)
  have HSZ : Hid (w.heap.size < (w.alloc (.cells m.cells 46)).heap.size) := by show _ < _; simp
  have HB0 : Hid (Below w.heap.size w (w.alloc (.cells m.cells 46))) := (Below.refl _ _).alloc (Nat.le_refl _) _
  have HMN : Hid (∀ w : World, MdAt (w.alloc (.cells m.cells 35)) w.heap.size m) := fun w => MdAt.new m w 35
  obtain ⟨a0, ca0, ea, hsa⟩ := ha.shape
  obtain ⟨b0, cb0, eb, hsb⟩ := hb.shape
  obtain ⟨c0, cc0, ec, hsc⟩ := hc.shape
  cases ea; cases eb; cases ec
  have HHA := hidD hsa
  have HHB := hidD hsb
  have HHC := hidD hsc
  have i1 : (n : Int) ≤ ca := by omega
  have i2 : (n : Int) ≤ cb := by omega
  have i3 : (n : Int) ≤ cc := by omega
  have n1 : n ≤ ca := by omega
  have n2 : n ≤ cb := by omega
  have n3 : n ≤ cc := by omega
  have d1 : ¬ ((B.length : Int) < A.length) := by omega
  have d2 : ¬ ((C.length : Int) < A.length) := by omega
  have d3 : decide (B.length < A.length) = false := by simp; omega
  have d4 : decide (C.length < A.length) = false := by simp; omega
  have hn47 : n ≤ 140737488355327 := by omega
  clear hm hc1 hc2 hla hlb hlc hca hcb hcc ha hb hc hsa hsb hsc
  generalize sumS m (A.take n) ^^^ sumS m (B.take n) ^^^ sumS m (C.take n) = X3 at *
  generalize sumS m (A.take n) ^^^ sumS m (B.take n) = X2 at *
  generalize sumS m (A.take n) = SA at *
  generalize sumS m (B.take n) = SB at *
  generalize sumS m (C.take n) = SC at *
  generalize sumS m D = SD at *
  rw [← hn] at *
  have HN2 := hidD hn
  clear hn
  obtain ⟨nm, ww, P, I, inn, out, X⟩ := m
  simp only [Md.v, Md.cells] at *
  obtain ⟨i0, hi, hz0, hz1, hz2⟩ := info_parts Try.info5
  go_enter Try.func7, Try.ntmps7
  go_wp2_with (first
    | (go_at_call 13; refine (HL.out _).mono ?_; rintro e w1 ⟨rfl, hb1⟩; obtain ⟨k0, k1, k2, k3, k4, k5, k6⟩ := HM0.out.below hb1 HSZ.out; have HB1 := hidD (Below.next HB0.out hb1); clear hb1)
    | (go_at_call 22; refine (HM.out _).mono ?_; rintro e w2 ⟨rfl, hb2⟩; have HB2 := hidD (Below.next HB1.out hb2); clear hb2 k0 k1 k2 k3 k4 k5 k6; have HX := hidD (HMN.out w2); have HX0 : Hid (∀ o, w2.heap.size < (w2.alloc o).heap.size) := fun o => by simp)
    | (go_at_call 25; refine (HV.out _).mono ?_; rintro e w3 ⟨rfl, hb3⟩; have HX := hidD (HX.out.below hb3 (HX0.out _)); have HG := hidD (Nat.lt_of_lt_of_le (HX0.out _) hb3.size); have HB3 := hidD (Below.next (Below.more HB2.out _) hb3); clear hb3))
  have HWG : Hid (w.heap.size ≤ w2.heap.size) := HB2.out.size
  generalize w2.heap.size = gx at *
  go_loopw [13, 14] (fun d i wr => ∃ k : Nat, k ≤ n ∧ i = .int .i64 k ∧ wr.ownsRow w3.heap.size 5 1 d k ((D.take k).map encB) ∧ Below w3.heap.size w3 wr) (fun _ i _ => n - (intOf i).toNat)
  case atStart => exact ⟨0, Nat.zero_le _, rfl, World.ownsRow_nil _ _ _ _, Below.refl _ _⟩
  case round =>
    obtain ⟨k, hk, rfl, hown, hbel⟩ := hrel
    obtain ⟨ad, cd, hde⟩ := row_shape hown
    subst hde
    have HBL := hidD hbel
    have HOW := hidD hown
    have HBW := hidD (Below.next HB3.out hbel)
    clear hown
    by_cases hlt : k < n
    · obtain ⟨g1, o1, rfl, hg1, hc1⟩ := HHA.out k (by omega)
      obtain ⟨g2, o2, rfl, hg2, hc2⟩ := HHB.out k (by omega)
      obtain ⟨g3, o3, rfl, hg3, hc3⟩ := HHC.out k (by omega)
      have y1 := (HBW.out.cell (p := ⟨g1, o1 + k, none⟩) hg1).trans hc1
      have y2 := (HBW.out.cell (p := ⟨g2, o2 + k, none⟩) hg2).trans hc2
      have y3 := (HBW.out.cell (p := ⟨g3, o3 + k, none⟩) hg3).trans hc3
      have hlti : (k : Int) < n := by omega
      have HDK := hidD (HDA.out k hlt)
      have z1 : bits .xor .u8 ((A.getD k 0).toNat : Int) ((B.getD k 0).toNat : Int) = (((A.getD k 0 ^^^ B.getD k 0).toNat : Nat) : Int) := by rw [UInt8.toNat_xor]; exact u8_xor_nat _ _ (A.getD k 0).toNat_lt (B.getD k 0).toNat_lt
      have z2 : bits .xor .u8 (((A.getD k 0 ^^^ B.getD k 0).toNat : Nat) : Int) ((C.getD k 0).toNat : Int) = (((D.getD k 0).toNat : Nat) : Int) := by rw [HDK.out, UInt8.toNat_xor (A.getD k 0 ^^^ B.getD k 0)]; exact u8_xor_nat _ _ (A.getD k 0 ^^^ B.getD k 0).toNat_lt (C.getD k 0).toNat_lt
      have q1 : (k : Int) < n := by omega
      have q2 : (k : Int) < B.length := by omega
      have q3 : (k : Int) < C.length := by omega
      have HTK := hidD (take_next (D := D) (k := k) (by have := HDL.out; omega))
      have hwz := hbel.size
      have CX1 := hidD hc1
      have CX2 := hidD hc2
      have CX3 := hidD hc3
      clear hbel hc1 hc2 hc3 HDK
      generalize ((A.getD k 0 ^^^ B.getD k 0).toNat : Nat) = ab' at *
      generalize (A.getD k 0).toNat = av at *
      generalize (B.getD k 0).toNat = bv at *
      generalize (C.getD k 0).toNat = cv at *
      generalize hdv : D.getD k 0 = dv at *
      have HOA : Hid (∀ o, (wr.drew.alloc o).ownsRow w3.heap.size 5 1 (.slice ad k cd) k ((D.take k).map encB)) := fun o => row_below HOW.out (((Below.refl _ _).drew).alloc (Nat.le_refl _) o)
      go_wp2_with fail
      go_region_held_law (fun w' => w'.cell? ⟨g1, o1 + k, none⟩ = some (.int .u8 (av : Int)) ∧ w'.cell? ⟨g2, o2 + k, none⟩ = some (.int .u8 (bv : Int)) ∧ w'.cell? ⟨g3, o3 + k, none⟩ = some (.int .u8 (cv : Int))) (go_keep)
        ((refine step_append_own rfl _ _ 22 rfl w3.heap.size 5 i0 (.int .u8 0) 1 1 Try.underlying22 hi hz0 hz1 hz2 rfl (by decide) (.slice ad k cd) k ((D.take k).map encB) rfl (HOA.out _) ⟨wr.heap.size, 0, none⟩ 1 1 [encB dv] rfl rfl (new_cell1 _ _ _) (by simp [encB, Value.oneCell']) (by unfold maxLen; omega) (by omega) (by simp; omega) ?_; intro v' w4 hown4 hg4 hnil4; have hb4 : Below w3.heap.size w3 w4 := row_grown (HOA.out _) ((HBL.out.drew).alloc (by simp; omega) _) hg4 (by simp; omega); have HB4 := hidD hb4; have r1 := ((Below.next HB3.out hb4).cell (p := ⟨g1, o1 + k, none⟩) hg1).trans CX1.out; have r2 := ((Below.next HB3.out hb4).cell (p := ⟨g2, o2 + k, none⟩) hg2).trans CX2.out; have r3 := ((Below.next HB3.out hb4).cell (p := ⟨g3, o3 + k, none⟩) hg3).trans CX3.out; clear hb4))
      go_wp2
      go_roundw
      case rel => exact ⟨k + 1, by omega, by go_num, by rw [HTK.out]; exact hown4, HB4.out⟩
      case measure => simp [intOf]; omega
    · obtain rfl : k = n := by omega
      have HD2 : Hid (ByAt wr (.slice ad k cd) D) := by
        have h1 : D.take k = D := List.take_of_length_le (by rw [HDL.out]; exact Nat.le_refl _)
        have h2 := HOW.out
        rw [h1] at h2
        rw [show wr.ownsRow w3.heap.size 5 1 (.slice ad k cd) k (D.map encB) = wr.ownsRow w3.heap.size 5 1 (.slice ad k cd) D.length (D.map encB) by rw [HDL.out]] at h2
        exact row_by h2
      have hcl : ∀ w', Below wr.heap.size wr w' → MdAt w' gx ⟨nm, ww, P, I, inn, out, X⟩ := fun w' h => (HX.out.below HBL.out HG.out).below h (Nat.lt_of_lt_of_le HG.out HBL.out.size)
      have HCL := hidD hcl
      have k0 := fun i : BW wr => (hcl _ i.below).c0
      have k1 := fun i : BW wr => (hcl _ i.below).c1
      have k2 := fun i : BW wr => (hcl _ i.below).c2
      have k3 := fun i : BW wr => (hcl _ i.below).c3
      have k4 := fun i : BW wr => (hcl _ i.below).c4
      have k5 := fun i : BW wr => (hcl _ i.below).c5
      have k6 := fun i : BW wr => (hcl _ i.below).c6
      simp only at k0 k1 k2 k3 k4 k5 k6
      clear hcl hbel
      go_wp2_with fail
      refine wp_region_below (by kernel_rfl) (by kernel_rfl) ?_
      repeat (go_big_quiet_step ((go_at_call 24; exact Calls.below_of (HSA.out _ (Below.next HBW.out (BW.below _))))))
      refine wpQuiet_nil ?_
      intro i
      have hcl : ∀ w', Below i.v.heap.size i.v w' → MdAt w' gx ⟨nm, ww, P, I, inn, out, X⟩ := fun w' h => HCL.out w' (Below.next i.below h)
      have HBI := hidD (Below.next HBW.out i.below)
      have k0 := fun i : BW i.v => (hcl _ i.below).c0
      have k1 := fun i : BW i.v => (hcl _ i.below).c1
      have k2 := fun i : BW i.v => (hcl _ i.below).c2
      have k3 := fun i : BW i.v => (hcl _ i.below).c3
      have k4 := fun i : BW i.v => (hcl _ i.below).c4
      have k5 := fun i : BW i.v => (hcl _ i.below).c5
      have k6 := fun i : BW i.v => (hcl _ i.below).c6
      simp only at k0 k1 k2 k3 k4 k5 k6
      clear hcl
      go_wp2_with fail
      refine wp_region_below (by kernel_rfl) (by kernel_rfl) ?_
      repeat (go_big_quiet_step ((go_at_call 24; exact Calls.below_of (HSB.out _ (Below.next HBI.out (BW.below _))))))
      refine wpQuiet_nil ?_
      intro j
      have hcl : ∀ w', Below j.v.heap.size j.v w' → MdAt w' gx ⟨nm, ww, P, I, inn, out, X⟩ := fun w' h => HCL.out w' (Below.next i.below (Below.next j.below h))
      have HBJ := hidD (Below.next HBI.out j.below)
      have k0 := fun i : BW j.v => (hcl _ i.below).c0
      have k1 := fun i : BW j.v => (hcl _ i.below).c1
      have k2 := fun i : BW j.v => (hcl _ i.below).c2
      have k3 := fun i : BW j.v => (hcl _ i.below).c3
      have k4 := fun i : BW j.v => (hcl _ i.below).c4
      have k5 := fun i : BW j.v => (hcl _ i.below).c5
      have k6 := fun i : BW j.v => (hcl _ i.below).c6
      simp only at k0 k1 k2 k3 k4 k5 k6
      clear hcl
      go_wp2_with fail
      refine wp_region_below (by kernel_rfl) (by kernel_rfl) ?_
      repeat (go_big_quiet_step ((go_at_call 24; exact Calls.below_of (HSC.out _ (Below.next HBJ.out (BW.below _))))))
      refine wpQuiet_nil ?_
      intro l
      obtain ⟨k0, k1, k2, k3, k4, k5, k6⟩ := HCL.out l.v (Below.next i.below (Below.next j.below l.below))
      have HD3 := hidD (HD2.out.below (Below.next i.below (Below.next j.below l.below)) (Nat.le_refl _))
      have HBL2 := hidD (Below.next HBJ.out l.below)
      simp only at k0 k1 k2 k3 k4 k5 k6
      go_wp2_with (first | (go_at_call 24; refine (HSD.out _ _ HD3.out).mono ?_; rintro e w5 ⟨rfl, hb5⟩) | (go_at_call 27; refine (HN.out _ _).mono ?_; rintro e w6 ⟨rfl, hb6⟩))
      go_ret
      exact ⟨rfl, Below.next (Below.next HBL2.out hb5) hb6⟩

set_option maxRecDepth 100000 in
set_option maxHeartbeats 1000000 in
theorem affine_b (m : Md) (hm : MdOk m) (A B C : List UInt8) (hla : A.length ≤ 140737488355327) (hlb : B.length ≤ 140737488355327) (hlc : C.length ≤ 140737488355327) (hc1 : B.length < A.length) (hc2 : B.length ≤ C.length) (aa ab ac : Option Addr) (ca cb cc : Nat) (hca : A.length ≤ ca) (hcb : B.length ≤ cb) (hcc : C.length ≤ cc) (w : World)
    (ha : ByAt w (.slice aa A.length ca) A) (hb : ByAt w (.slice ab B.length cb) B) (hc : ByAt w (.slice ac C.length cc) C) : Calls Try.prog 7 #[m.v, .slice aa A.length ca, .slice ab B.length cb, .slice ac C.length cc] w fun e w' => e = .returned (.bool true) ∧ Below w.heap.size w w' := by
  have HL := hidD live_any
  have HM : Hid (∀ w, Calls Try.prog 22 #[m.v] w fun e w' => e = .returned m.v ∧ Below w.heap.size w w') := fun w => mine_any ⟨m.name, m.w, m.P, m.I, m.inn, m.out, m.X⟩ w
  have HV : Hid (∀ w, Calls Try.prog 25 #[m.v] w fun e w' => e = .returned (.bool true) ∧ Below w.heap.size w w') := fun w => valid_any ⟨m.name, m.w, m.P, m.I, m.inn, m.out, m.X⟩ hm.raw true (by simp [Md.valid m hm]) w
  have HN := hidD no_any
  obtain ⟨n, hn⟩ : ∃ n : Nat, n = B.length := ⟨_, rfl⟩
  have hna : n ≤ A.length := by omega
  have hnb : n ≤ B.length := by omega
  have hnc : n ≤ C.length := by omega
  obtain ⟨D, hD⟩ : ∃ D, D = xorL (xorL (A.take n) (B.take n)) (C.take n) := ⟨_, rfl⟩
  have HDL : Hid (D.length = n) := by rw [hD]; exact xor3_length hna hnb hnc
  have HDA : Hid (∀ k, k < n → D.getD k 0 = A.getD k 0 ^^^ B.getD k 0 ^^^ C.getD k 0) := fun k hk => by rw [hD]; exact xor3_at hk hna hnb hnc
  have HAF : Hid (sumS m (A.take n) ^^^ sumS m (B.take n) ^^^ sumS m (C.take n) ^^^ sumS m D = 0) := by rw [hD]; exact affine m _ _ _ (by simp; omega) (by simp; omega)
  have HSA : Hid (∀ w', Below w.heap.size w w' → Calls Try.prog 24 #[m.v, .slice aa n ca] w' fun e w2 => e = .returned (.tuple #[.int .u64 (sumS m (A.take n) : Nat), .int .i64 0]) ∧ Below w'.heap.size w' w2) := fun w' h => sum_some m hm _ (by simp; omega) _ w' ((ha.take hna).below h (Nat.le_refl _))
  have HSB : Hid (∀ w', Below w.heap.size w w' → Calls Try.prog 24 #[m.v, .slice ab n cb] w' fun e w2 => e = .returned (.tuple #[.int .u64 (sumS m (B.take n) : Nat), .int .i64 0]) ∧ Below w'.heap.size w' w2) := fun w' h => sum_some m hm _ (by simp; omega) _ w' ((hb.take hnb).below h (Nat.le_refl _))
  have HSC : Hid (∀ w', Below w.heap.size w w' → Calls Try.prog 24 #[m.v, .slice ac n cc] w' fun e w2 => e = .returned (.tuple #[.int .u64 (sumS m (C.take n) : Nat), .int .i64 0]) ∧ Below w'.heap.size w' w2) := fun w' h => sum_some m hm _ (by simp; omega) _ w' ((hc.take hnc).below h (Nat.le_refl _))
  have HSD : Hid (∀ v w', ByAt w' v D → Calls Try.prog 24 #[m.v, v] w' fun e w2 => e = .returned (.tuple #[.int .u64 (sumS m D : Nat), .int .i64 0]) ∧ Below w'.heap.size w' w2) := fun v w' h => sum_some m hm _ (by have := HDL.out; omega) _ w' h
  have l1 := Nat.lt_of_lt_of_le (sum_lt hm (A.take n)) (pow64 hm.hi)
  have l2 := Nat.lt_of_lt_of_le (sum_lt hm (B.take n)) (pow64 hm.hi)
  have l3 := Nat.lt_of_lt_of_le (sum_lt hm (C.take n)) (pow64 hm.hi)
  have l4 := Nat.lt_of_lt_of_le (sum_lt hm D) (pow64 hm.hi)
  have x1 : bits .xor .u64 (sumS m (A.take n) : Int) (sumS m (B.take n) : Int) = ((sumS m (A.take n) ^^^ sumS m (B.take n) : Nat) : Int) := u64_xor_nat _ _ l1 l2
  have x2 : bits .xor .u64 ((sumS m (A.take n) ^^^ sumS m (B.take n) : Nat) : Int) (sumS m (C.take n) : Int) = ((sumS m (A.take n) ^^^ sumS m (B.take n) ^^^ sumS m (C.take n) : Nat) : Int) := u64_xor_nat _ _ (xor_lt (w := 64) l1 l2) l3
  have x3 : bits .xor .u64 ((sumS m (A.take n) ^^^ sumS m (B.take n) ^^^ sumS m (C.take n) : Nat) : Int) (sumS m D : Int) = 0 := by
    rw [u64_xor_nat _ _ (xor_lt (w := 64) (xor_lt (w := 64) l1 l2) l3) l4, HAF.out]; rfl
  clear l1 l2 l3 l4 HAF hD
  have HM0 := hidD (MdAt.new m w 46)
  have HSZ : Hid (w.heap.size < (w.alloc (.cells m.cells 46)).heap.size) := by show _ < _; simp
  have HB0 : Hid (Below w.heap.size w (w.alloc (.cells m.cells 46))) := (Below.refl _ _).alloc (Nat.le_refl _) _
  have HMN : Hid (∀ w : World, MdAt (w.alloc (.cells m.cells 35)) w.heap.size m) := fun w => MdAt.new m w 35
  obtain ⟨a0, ca0, ea, hsa⟩ := ha.shape
  obtain ⟨b0, cb0, eb, hsb⟩ := hb.shape
  obtain ⟨c0, cc0, ec, hsc⟩ := hc.shape
  cases ea; cases eb; cases ec
  have HHA := hidD hsa
  have HHB := hidD hsb
  have HHC := hidD hsc
  have i1 : (n : Int) ≤ ca := by omega
  have i2 : (n : Int) ≤ cb := by omega
  have i3 : (n : Int) ≤ cc := by omega
  have n1 : n ≤ ca := by omega
  have n2 : n ≤ cb := by omega
  have n3 : n ≤ cc := by omega
  have d1 : (B.length : Int) < A.length := by omega
  have d2 : ¬ ((C.length : Int) < B.length) := by omega
  have d3 : decide (B.length < A.length) = true := by simp; omega
  have d4 : decide (C.length < B.length) = false := by simp; omega
  have hn47 : n ≤ 140737488355327 := by omega
  clear hm hc1 hc2 hla hlb hlc hca hcb hcc ha hb hc hsa hsb hsc
  generalize sumS m (A.take n) ^^^ sumS m (B.take n) ^^^ sumS m (C.take n) = X3 at *
  generalize sumS m (A.take n) ^^^ sumS m (B.take n) = X2 at *
  generalize sumS m (A.take n) = SA at *
  generalize sumS m (B.take n) = SB at *
  generalize sumS m (C.take n) = SC at *
  generalize sumS m D = SD at *
  rw [← hn] at *
  have HN2 := hidD hn
  clear hn
  obtain ⟨nm, ww, P, I, inn, out, X⟩ := m
  simp only [Md.v, Md.cells] at *
  obtain ⟨i0, hi, hz0, hz1, hz2⟩ := info_parts Try.info5
  go_enter Try.func7, Try.ntmps7
  go_wp2_with (first
    | (go_at_call 13; refine (HL.out _).mono ?_; rintro e w1 ⟨rfl, hb1⟩; obtain ⟨k0, k1, k2, k3, k4, k5, k6⟩ := HM0.out.below hb1 HSZ.out; have HB1 := hidD (Below.next HB0.out hb1); clear hb1)
    | (go_at_call 22; refine (HM.out _).mono ?_; rintro e w2 ⟨rfl, hb2⟩; have HB2 := hidD (Below.next HB1.out hb2); clear hb2 k0 k1 k2 k3 k4 k5 k6; have HX := hidD (HMN.out w2); have HX0 : Hid (∀ o, w2.heap.size < (w2.alloc o).heap.size) := fun o => by simp)
    | (go_at_call 25; refine (HV.out _).mono ?_; rintro e w3 ⟨rfl, hb3⟩; have HX := hidD (HX.out.below hb3 (HX0.out _)); have HG := hidD (Nat.lt_of_lt_of_le (HX0.out _) hb3.size); have HB3 := hidD (Below.next (Below.more HB2.out _) hb3); clear hb3))
  have HWG : Hid (w.heap.size ≤ w2.heap.size) := HB2.out.size
  generalize w2.heap.size = gx at *
  go_loopw [13, 14] (fun d i wr => ∃ k : Nat, k ≤ n ∧ i = .int .i64 k ∧ wr.ownsRow w3.heap.size 5 1 d k ((D.take k).map encB) ∧ Below w3.heap.size w3 wr) (fun _ i _ => n - (intOf i).toNat)
  case atStart => exact ⟨0, Nat.zero_le _, rfl, World.ownsRow_nil _ _ _ _, Below.refl _ _⟩
  case round =>
    obtain ⟨k, hk, rfl, hown, hbel⟩ := hrel
    obtain ⟨ad, cd, hde⟩ := row_shape hown
    subst hde
    have HBL := hidD hbel
    have HOW := hidD hown
    have HBW := hidD (Below.next HB3.out hbel)
    clear hown
    by_cases hlt : k < n
    · obtain ⟨g1, o1, rfl, hg1, hc1⟩ := HHA.out k (by omega)
      obtain ⟨g2, o2, rfl, hg2, hc2⟩ := HHB.out k (by omega)
      obtain ⟨g3, o3, rfl, hg3, hc3⟩ := HHC.out k (by omega)
      have y1 := (HBW.out.cell (p := ⟨g1, o1 + k, none⟩) hg1).trans hc1
      have y2 := (HBW.out.cell (p := ⟨g2, o2 + k, none⟩) hg2).trans hc2
      have y3 := (HBW.out.cell (p := ⟨g3, o3 + k, none⟩) hg3).trans hc3
      have hlti : (k : Int) < n := by omega
      have HDK := hidD (HDA.out k hlt)
      have z1 : bits .xor .u8 ((A.getD k 0).toNat : Int) ((B.getD k 0).toNat : Int) = (((A.getD k 0 ^^^ B.getD k 0).toNat : Nat) : Int) := by rw [UInt8.toNat_xor]; exact u8_xor_nat _ _ (A.getD k 0).toNat_lt (B.getD k 0).toNat_lt
      have z2 : bits .xor .u8 (((A.getD k 0 ^^^ B.getD k 0).toNat : Nat) : Int) ((C.getD k 0).toNat : Int) = (((D.getD k 0).toNat : Nat) : Int) := by rw [HDK.out, UInt8.toNat_xor (A.getD k 0 ^^^ B.getD k 0)]; exact u8_xor_nat _ _ (A.getD k 0 ^^^ B.getD k 0).toNat_lt (C.getD k 0).toNat_lt
      have q1 : (k : Int) < A.length := by omega
      have q2 : (k : Int) < n := by omega
      have q3 : (k : Int) < C.length := by omega
      have HTK := hidD (take_next (D := D) (k := k) (by have := HDL.out; omega))
      have hwz := hbel.size
      have CX1 := hidD hc1
      have CX2 := hidD hc2
      have CX3 := hidD hc3
      clear hbel hc1 hc2 hc3 HDK
      generalize ((A.getD k 0 ^^^ B.getD k 0).toNat : Nat) = ab' at *
      generalize (A.getD k 0).toNat = av at *
      generalize (B.getD k 0).toNat = bv at *
      generalize (C.getD k 0).toNat = cv at *
      generalize hdv : D.getD k 0 = dv at *
      have HOA : Hid (∀ o, (wr.drew.alloc o).ownsRow w3.heap.size 5 1 (.slice ad k cd) k ((D.take k).map encB)) := fun o => row_below HOW.out (((Below.refl _ _).drew).alloc (Nat.le_refl _) o)
      go_wp2_with fail
      go_region_held_law (fun w' => w'.cell? ⟨g1, o1 + k, none⟩ = some (.int .u8 (av : Int)) ∧ w'.cell? ⟨g2, o2 + k, none⟩ = some (.int .u8 (bv : Int)) ∧ w'.cell? ⟨g3, o3 + k, none⟩ = some (.int .u8 (cv : Int))) (go_keep)
        ((refine step_append_own rfl _ _ 22 rfl w3.heap.size 5 i0 (.int .u8 0) 1 1 Try.underlying22 hi hz0 hz1 hz2 rfl (by decide) (.slice ad k cd) k ((D.take k).map encB) rfl (HOA.out _) ⟨wr.heap.size, 0, none⟩ 1 1 [encB dv] rfl rfl (new_cell1 _ _ _) (by simp [encB, Value.oneCell']) (by unfold maxLen; omega) (by omega) (by simp; omega) ?_; intro v' w4 hown4 hg4 hnil4; have hb4 : Below w3.heap.size w3 w4 := row_grown (HOA.out _) ((HBL.out.drew).alloc (by simp; omega) _) hg4 (by simp; omega); have HB4 := hidD hb4; have r1 := ((Below.next HB3.out hb4).cell (p := ⟨g1, o1 + k, none⟩) hg1).trans CX1.out; have r2 := ((Below.next HB3.out hb4).cell (p := ⟨g2, o2 + k, none⟩) hg2).trans CX2.out; have r3 := ((Below.next HB3.out hb4).cell (p := ⟨g3, o3 + k, none⟩) hg3).trans CX3.out; clear hb4))
      go_wp2
      go_roundw
      case rel => exact ⟨k + 1, by omega, by go_num, by rw [HTK.out]; exact hown4, HB4.out⟩
      case measure => simp [intOf]; omega
    · obtain rfl : k = n := by omega
      have HD2 : Hid (ByAt wr (.slice ad k cd) D) := by
        have h1 : D.take k = D := List.take_of_length_le (by rw [HDL.out]; exact Nat.le_refl _)
        have h2 := HOW.out
        rw [h1] at h2
        rw [show wr.ownsRow w3.heap.size 5 1 (.slice ad k cd) k (D.map encB) = wr.ownsRow w3.heap.size 5 1 (.slice ad k cd) D.length (D.map encB) by rw [HDL.out]] at h2
        exact row_by h2
      have hcl : ∀ w', Below wr.heap.size wr w' → MdAt w' gx ⟨nm, ww, P, I, inn, out, X⟩ := fun w' h => (HX.out.below HBL.out HG.out).below h (Nat.lt_of_lt_of_le HG.out HBL.out.size)
      have HCL := hidD hcl
      have k0 := fun i : BW wr => (hcl _ i.below).c0
      have k1 := fun i : BW wr => (hcl _ i.below).c1
      have k2 := fun i : BW wr => (hcl _ i.below).c2
      have k3 := fun i : BW wr => (hcl _ i.below).c3
      have k4 := fun i : BW wr => (hcl _ i.below).c4
      have k5 := fun i : BW wr => (hcl _ i.below).c5
      have k6 := fun i : BW wr => (hcl _ i.below).c6
      simp only at k0 k1 k2 k3 k4 k5 k6
      clear hcl hbel
      go_wp2_with fail
      refine wp_region_below (by kernel_rfl) (by kernel_rfl) ?_
      repeat (go_big_quiet_step ((go_at_call 24; exact Calls.below_of (HSA.out _ (Below.next HBW.out (BW.below _))))))
      refine wpQuiet_nil ?_
      intro i
      have hcl : ∀ w', Below i.v.heap.size i.v w' → MdAt w' gx ⟨nm, ww, P, I, inn, out, X⟩ := fun w' h => HCL.out w' (Below.next i.below h)
      have HBI := hidD (Below.next HBW.out i.below)
      have k0 := fun i : BW i.v => (hcl _ i.below).c0
      have k1 := fun i : BW i.v => (hcl _ i.below).c1
      have k2 := fun i : BW i.v => (hcl _ i.below).c2
      have k3 := fun i : BW i.v => (hcl _ i.below).c3
      have k4 := fun i : BW i.v => (hcl _ i.below).c4
      have k5 := fun i : BW i.v => (hcl _ i.below).c5
      have k6 := fun i : BW i.v => (hcl _ i.below).c6
      simp only at k0 k1 k2 k3 k4 k5 k6
      clear hcl
      go_wp2_with fail
      refine wp_region_below (by kernel_rfl) (by kernel_rfl) ?_
      repeat (go_big_quiet_step ((go_at_call 24; exact Calls.below_of (HSB.out _ (Below.next HBI.out (BW.below _))))))
      refine wpQuiet_nil ?_
      intro j
      have hcl : ∀ w', Below j.v.heap.size j.v w' → MdAt w' gx ⟨nm, ww, P, I, inn, out, X⟩ := fun w' h => HCL.out w' (Below.next i.below (Below.next j.below h))
      have HBJ := hidD (Below.next HBI.out j.below)
      have k0 := fun i : BW j.v => (hcl _ i.below).c0
      have k1 := fun i : BW j.v => (hcl _ i.below).c1
      have k2 := fun i : BW j.v => (hcl _ i.below).c2
      have k3 := fun i : BW j.v => (hcl _ i.below).c3
      have k4 := fun i : BW j.v => (hcl _ i.below).c4
      have k5 := fun i : BW j.v => (hcl _ i.below).c5
      have k6 := fun i : BW j.v => (hcl _ i.below).c6
      simp only at k0 k1 k2 k3 k4 k5 k6
      clear hcl
      go_wp2_with fail
      refine wp_region_below (by kernel_rfl) (by kernel_rfl) ?_
      repeat (go_big_quiet_step ((go_at_call 24; exact Calls.below_of (HSC.out _ (Below.next HBJ.out (BW.below _))))))
      refine wpQuiet_nil ?_
      intro l
      obtain ⟨k0, k1, k2, k3, k4, k5, k6⟩ := HCL.out l.v (Below.next i.below (Below.next j.below l.below))
      have HD3 := hidD (HD2.out.below (Below.next i.below (Below.next j.below l.below)) (Nat.le_refl _))
      have HBL2 := hidD (Below.next HBJ.out l.below)
      simp only at k0 k1 k2 k3 k4 k5 k6
      go_wp2_with (first | (go_at_call 24; refine (HSD.out _ _ HD3.out).mono ?_; rintro e w5 ⟨rfl, hb5⟩) | (go_at_call 27; refine (HN.out _ _).mono ?_; rintro e w6 ⟨rfl, hb6⟩))
      go_ret
      exact ⟨rfl, Below.next (Below.next HBL2.out hb5) hb6⟩

set_option maxRecDepth 100000 in
set_option maxHeartbeats 1000000 in
theorem affine_c (m : Md) (hm : MdOk m) (A B C : List UInt8) (hla : A.length ≤ 140737488355327) (hlb : B.length ≤ 140737488355327) (hlc : C.length ≤ 140737488355327) (hc1 : A.length ≤ B.length) (hc2 : C.length < A.length) (aa ab ac : Option Addr) (ca cb cc : Nat) (hca : A.length ≤ ca) (hcb : B.length ≤ cb) (hcc : C.length ≤ cc) (w : World)
    (ha : ByAt w (.slice aa A.length ca) A) (hb : ByAt w (.slice ab B.length cb) B) (hc : ByAt w (.slice ac C.length cc) C) : Calls Try.prog 7 #[m.v, .slice aa A.length ca, .slice ab B.length cb, .slice ac C.length cc] w fun e w' => e = .returned (.bool true) ∧ Below w.heap.size w w' := by
  have HL := hidD live_any
  have HM : Hid (∀ w, Calls Try.prog 22 #[m.v] w fun e w' => e = .returned m.v ∧ Below w.heap.size w w') := fun w => mine_any ⟨m.name, m.w, m.P, m.I, m.inn, m.out, m.X⟩ w
  have HV : Hid (∀ w, Calls Try.prog 25 #[m.v] w fun e w' => e = .returned (.bool true) ∧ Below w.heap.size w w') := fun w => valid_any ⟨m.name, m.w, m.P, m.I, m.inn, m.out, m.X⟩ hm.raw true (by simp [Md.valid m hm]) w
  have HN := hidD no_any
  obtain ⟨n, hn⟩ : ∃ n : Nat, n = C.length := ⟨_, rfl⟩
  have hna : n ≤ A.length := by omega
  have hnb : n ≤ B.length := by omega
  have hnc : n ≤ C.length := by omega
  obtain ⟨D, hD⟩ : ∃ D, D = xorL (xorL (A.take n) (B.take n)) (C.take n) := ⟨_, rfl⟩
  have HDL : Hid (D.length = n) := by rw [hD]; exact xor3_length hna hnb hnc
  have HDA : Hid (∀ k, k < n → D.getD k 0 = A.getD k 0 ^^^ B.getD k 0 ^^^ C.getD k 0) := fun k hk => by rw [hD]; exact xor3_at hk hna hnb hnc
  have HAF : Hid (sumS m (A.take n) ^^^ sumS m (B.take n) ^^^ sumS m (C.take n) ^^^ sumS m D = 0) := by rw [hD]; exact affine m _ _ _ (by simp; omega) (by simp; omega)
  have HSA : Hid (∀ w', Below w.heap.size w w' → Calls Try.prog 24 #[m.v, .slice aa n ca] w' fun e w2 => e = .returned (.tuple #[.int .u64 (sumS m (A.take n) : Nat), .int .i64 0]) ∧ Below w'.heap.size w' w2) := fun w' h => sum_some m hm _ (by simp; omega) _ w' ((ha.take hna).below h (Nat.le_refl _))
  have HSB : Hid (∀ w', Below w.heap.size w w' → Calls Try.prog 24 #[m.v, .slice ab n cb] w' fun e w2 => e = .returned (.tuple #[.int .u64 (sumS m (B.take n) : Nat), .int .i64 0]) ∧ Below w'.heap.size w' w2) := fun w' h => sum_some m hm _ (by simp; omega) _ w' ((hb.take hnb).below h (Nat.le_refl _))
  have HSC : Hid (∀ w', Below w.heap.size w w' → Calls Try.prog 24 #[m.v, .slice ac n cc] w' fun e w2 => e = .returned (.tuple #[.int .u64 (sumS m (C.take n) : Nat), .int .i64 0]) ∧ Below w'.heap.size w' w2) := fun w' h => sum_some m hm _ (by simp; omega) _ w' ((hc.take hnc).below h (Nat.le_refl _))
  have HSD : Hid (∀ v w', ByAt w' v D → Calls Try.prog 24 #[m.v, v] w' fun e w2 => e = .returned (.tuple #[.int .u64 (sumS m D : Nat), .int .i64 0]) ∧ Below w'.heap.size w' w2) := fun v w' h => sum_some m hm _ (by have := HDL.out; omega) _ w' h
  have l1 := Nat.lt_of_lt_of_le (sum_lt hm (A.take n)) (pow64 hm.hi)
  have l2 := Nat.lt_of_lt_of_le (sum_lt hm (B.take n)) (pow64 hm.hi)
  have l3 := Nat.lt_of_lt_of_le (sum_lt hm (C.take n)) (pow64 hm.hi)
  have l4 := Nat.lt_of_lt_of_le (sum_lt hm D) (pow64 hm.hi)
  have x1 : bits .xor .u64 (sumS m (A.take n) : Int) (sumS m (B.take n) : Int) = ((sumS m (A.take n) ^^^ sumS m (B.take n) : Nat) : Int) := u64_xor_nat _ _ l1 l2
  have x2 : bits .xor .u64 ((sumS m (A.take n) ^^^ sumS m (B.take n) : Nat) : Int) (sumS m (C.take n) : Int) = ((sumS m (A.take n) ^^^ sumS m (B.take n) ^^^ sumS m (C.take n) : Nat) : Int) := u64_xor_nat _ _ (xor_lt (w := 64) l1 l2) l3
  have x3 : bits .xor .u64 ((sumS m (A.take n) ^^^ sumS m (B.take n) ^^^ sumS m (C.take n) : Nat) : Int) (sumS m D : Int) = 0 := by
    rw [u64_xor_nat _ _ (xor_lt (w := 64) (xor_lt (w := 64) l1 l2) l3) l4, HAF.out]; rfl
  clear l1 l2 l3 l4 HAF hD
  have HM0 := hidD (MdAt.new m w 46)
  have HSZ : Hid (w.heap.size < (w.alloc (.cells m.cells 46)).heap.size) := by show _ < _; simp
  have HB0 : Hid (Below w.heap.size w (w.alloc (.cells m.cells 46))) := (Below.refl _ _).alloc (Nat.le_refl _) _
  have HMN : Hid (∀ w : World, MdAt (w.alloc (.cells m.cells 35)) w.heap.size m) := fun w => MdAt.new m w 35
  obtain ⟨a0, ca0, ea, hsa⟩ := ha.shape
  obtain ⟨b0, cb0, eb, hsb⟩ := hb.shape
  obtain ⟨c0, cc0, ec, hsc⟩ := hc.shape
  cases ea; cases eb; cases ec
  have HHA := hidD hsa
  have HHB := hidD hsb
  have HHC := hidD hsc
  have i1 : (n : Int) ≤ ca := by omega
  have i2 : (n : Int) ≤ cb := by omega
  have i3 : (n : Int) ≤ cc := by omega
  have n1 : n ≤ ca := by omega
  have n2 : n ≤ cb := by omega
  have n3 : n ≤ cc := by omega
  have d1 : ¬ ((B.length : Int) < A.length) := by omega
  have d2 : (C.length : Int) < A.length := by omega
  have d3 : decide (B.length < A.length) = false := by simp; omega
  have d4 : decide (C.length < A.length) = true := by simp; omega
  have hn47 : n ≤ 140737488355327 := by omega
  clear hm hc1 hc2 hla hlb hlc hca hcb hcc ha hb hc hsa hsb hsc
  generalize sumS m (A.take n) ^^^ sumS m (B.take n) ^^^ sumS m (C.take n) = X3 at *
  generalize sumS m (A.take n) ^^^ sumS m (B.take n) = X2 at *
  generalize sumS m (A.take n) = SA at *
  generalize sumS m (B.take n) = SB at *
  generalize sumS m (C.take n) = SC at *
  generalize sumS m D = SD at *
  rw [← hn] at *
  have HN2 := hidD hn
  clear hn
  obtain ⟨nm, ww, P, I, inn, out, X⟩ := m
  simp only [Md.v, Md.cells] at *
  obtain ⟨i0, hi, hz0, hz1, hz2⟩ := info_parts Try.info5
  go_enter Try.func7, Try.ntmps7
  go_wp2_with (first
    | (go_at_call 13; refine (HL.out _).mono ?_; rintro e w1 ⟨rfl, hb1⟩; obtain ⟨k0, k1, k2, k3, k4, k5, k6⟩ := HM0.out.below hb1 HSZ.out; have HB1 := hidD (Below.next HB0.out hb1); clear hb1)
    | (go_at_call 22; refine (HM.out _).mono ?_; rintro e w2 ⟨rfl, hb2⟩; have HB2 := hidD (Below.next HB1.out hb2); clear hb2 k0 k1 k2 k3 k4 k5 k6; have HX := hidD (HMN.out w2); have HX0 : Hid (∀ o, w2.heap.size < (w2.alloc o).heap.size) := fun o => by simp)
    | (go_at_call 25; refine (HV.out _).mono ?_; rintro e w3 ⟨rfl, hb3⟩; have HX := hidD (HX.out.below hb3 (HX0.out _)); have HG := hidD (Nat.lt_of_lt_of_le (HX0.out _) hb3.size); have HB3 := hidD (Below.next (Below.more HB2.out _) hb3); clear hb3))
  have HWG : Hid (w.heap.size ≤ w2.heap.size) := HB2.out.size
  generalize w2.heap.size = gx at *
  go_loopw [13, 14] (fun d i wr => ∃ k : Nat, k ≤ n ∧ i = .int .i64 k ∧ wr.ownsRow w3.heap.size 5 1 d k ((D.take k).map encB) ∧ Below w3.heap.size w3 wr) (fun _ i _ => n - (intOf i).toNat)
  case atStart => exact ⟨0, Nat.zero_le _, rfl, World.ownsRow_nil _ _ _ _, Below.refl _ _⟩
  case round =>
    obtain ⟨k, hk, rfl, hown, hbel⟩ := hrel
    obtain ⟨ad, cd, hde⟩ := row_shape hown
    subst hde
    have HBL := hidD hbel
    have HOW := hidD hown
    have HBW := hidD (Below.next HB3.out hbel)
    clear hown
    by_cases hlt : k < n
    · obtain ⟨g1, o1, rfl, hg1, hc1⟩ := HHA.out k (by omega)
      obtain ⟨g2, o2, rfl, hg2, hc2⟩ := HHB.out k (by omega)
      obtain ⟨g3, o3, rfl, hg3, hc3⟩ := HHC.out k (by omega)
      have y1 := (HBW.out.cell (p := ⟨g1, o1 + k, none⟩) hg1).trans hc1
      have y2 := (HBW.out.cell (p := ⟨g2, o2 + k, none⟩) hg2).trans hc2
      have y3 := (HBW.out.cell (p := ⟨g3, o3 + k, none⟩) hg3).trans hc3
      have hlti : (k : Int) < n := by omega
      have HDK := hidD (HDA.out k hlt)
      have z1 : bits .xor .u8 ((A.getD k 0).toNat : Int) ((B.getD k 0).toNat : Int) = (((A.getD k 0 ^^^ B.getD k 0).toNat : Nat) : Int) := by rw [UInt8.toNat_xor]; exact u8_xor_nat _ _ (A.getD k 0).toNat_lt (B.getD k 0).toNat_lt
      have z2 : bits .xor .u8 (((A.getD k 0 ^^^ B.getD k 0).toNat : Nat) : Int) ((C.getD k 0).toNat : Int) = (((D.getD k 0).toNat : Nat) : Int) := by rw [HDK.out, UInt8.toNat_xor (A.getD k 0 ^^^ B.getD k 0)]; exact u8_xor_nat _ _ (A.getD k 0 ^^^ B.getD k 0).toNat_lt (C.getD k 0).toNat_lt
      have q1 : (k : Int) < A.length := by omega
      have q2 : (k : Int) < B.length := by omega
      have q3 : (k : Int) < n := by omega
      have HTK := hidD (take_next (D := D) (k := k) (by have := HDL.out; omega))
      have hwz := hbel.size
      have CX1 := hidD hc1
      have CX2 := hidD hc2
      have CX3 := hidD hc3
      clear hbel hc1 hc2 hc3 HDK
      generalize ((A.getD k 0 ^^^ B.getD k 0).toNat : Nat) = ab' at *
      generalize (A.getD k 0).toNat = av at *
      generalize (B.getD k 0).toNat = bv at *
      generalize (C.getD k 0).toNat = cv at *
      generalize hdv : D.getD k 0 = dv at *
      have HOA : Hid (∀ o, (wr.drew.alloc o).ownsRow w3.heap.size 5 1 (.slice ad k cd) k ((D.take k).map encB)) := fun o => row_below HOW.out (((Below.refl _ _).drew).alloc (Nat.le_refl _) o)
      go_wp2_with fail
      go_region_held_law (fun w' => w'.cell? ⟨g1, o1 + k, none⟩ = some (.int .u8 (av : Int)) ∧ w'.cell? ⟨g2, o2 + k, none⟩ = some (.int .u8 (bv : Int)) ∧ w'.cell? ⟨g3, o3 + k, none⟩ = some (.int .u8 (cv : Int))) (go_keep)
        ((refine step_append_own rfl _ _ 22 rfl w3.heap.size 5 i0 (.int .u8 0) 1 1 Try.underlying22 hi hz0 hz1 hz2 rfl (by decide) (.slice ad k cd) k ((D.take k).map encB) rfl (HOA.out _) ⟨wr.heap.size, 0, none⟩ 1 1 [encB dv] rfl rfl (new_cell1 _ _ _) (by simp [encB, Value.oneCell']) (by unfold maxLen; omega) (by omega) (by simp; omega) ?_; intro v' w4 hown4 hg4 hnil4; have hb4 : Below w3.heap.size w3 w4 := row_grown (HOA.out _) ((HBL.out.drew).alloc (by simp; omega) _) hg4 (by simp; omega); have HB4 := hidD hb4; have r1 := ((Below.next HB3.out hb4).cell (p := ⟨g1, o1 + k, none⟩) hg1).trans CX1.out; have r2 := ((Below.next HB3.out hb4).cell (p := ⟨g2, o2 + k, none⟩) hg2).trans CX2.out; have r3 := ((Below.next HB3.out hb4).cell (p := ⟨g3, o3 + k, none⟩) hg3).trans CX3.out; clear hb4))
      go_wp2
      go_roundw
      case rel => exact ⟨k + 1, by omega, by go_num, by rw [HTK.out]; exact hown4, HB4.out⟩
      case measure => simp [intOf]; omega
    · obtain rfl : k = n := by omega
      have HD2 : Hid (ByAt wr (.slice ad k cd) D) := by
        have h1 : D.take k = D := List.take_of_length_le (by rw [HDL.out]; exact Nat.le_refl _)
        have h2 := HOW.out
        rw [h1] at h2
        rw [show wr.ownsRow w3.heap.size 5 1 (.slice ad k cd) k (D.map encB) = wr.ownsRow w3.heap.size 5 1 (.slice ad k cd) D.length (D.map encB) by rw [HDL.out]] at h2
        exact row_by h2
      have hcl : ∀ w', Below wr.heap.size wr w' → MdAt w' gx ⟨nm, ww, P, I, inn, out, X⟩ := fun w' h => (HX.out.below HBL.out HG.out).below h (Nat.lt_of_lt_of_le HG.out HBL.out.size)
      have HCL := hidD hcl
      have k0 := fun i : BW wr => (hcl _ i.below).c0
      have k1 := fun i : BW wr => (hcl _ i.below).c1
      have k2 := fun i : BW wr => (hcl _ i.below).c2
      have k3 := fun i : BW wr => (hcl _ i.below).c3
      have k4 := fun i : BW wr => (hcl _ i.below).c4
      have k5 := fun i : BW wr => (hcl _ i.below).c5
      have k6 := fun i : BW wr => (hcl _ i.below).c6
      simp only at k0 k1 k2 k3 k4 k5 k6
      clear hcl hbel
      go_wp2_with fail
      refine wp_region_below (by kernel_rfl) (by kernel_rfl) ?_
      repeat (go_big_quiet_step ((go_at_call 24; exact Calls.below_of (HSA.out _ (Below.next HBW.out (BW.below _))))))
      refine wpQuiet_nil ?_
      intro i
      have hcl : ∀ w', Below i.v.heap.size i.v w' → MdAt w' gx ⟨nm, ww, P, I, inn, out, X⟩ := fun w' h => HCL.out w' (Below.next i.below h)
      have HBI := hidD (Below.next HBW.out i.below)
      have k0 := fun i : BW i.v => (hcl _ i.below).c0
      have k1 := fun i : BW i.v => (hcl _ i.below).c1
      have k2 := fun i : BW i.v => (hcl _ i.below).c2
      have k3 := fun i : BW i.v => (hcl _ i.below).c3
      have k4 := fun i : BW i.v => (hcl _ i.below).c4
      have k5 := fun i : BW i.v => (hcl _ i.below).c5
      have k6 := fun i : BW i.v => (hcl _ i.below).c6
      simp only at k0 k1 k2 k3 k4 k5 k6
      clear hcl
      go_wp2_with fail
      refine wp_region_below (by kernel_rfl) (by kernel_rfl) ?_
      repeat (go_big_quiet_step ((go_at_call 24; exact Calls.below_of (HSB.out _ (Below.next HBI.out (BW.below _))))))
      refine wpQuiet_nil ?_
      intro j
      have hcl : ∀ w', Below j.v.heap.size j.v w' → MdAt w' gx ⟨nm, ww, P, I, inn, out, X⟩ := fun w' h => HCL.out w' (Below.next i.below (Below.next j.below h))
      have HBJ := hidD (Below.next HBI.out j.below)
      have k0 := fun i : BW j.v => (hcl _ i.below).c0
      have k1 := fun i : BW j.v => (hcl _ i.below).c1
      have k2 := fun i : BW j.v => (hcl _ i.below).c2
      have k3 := fun i : BW j.v => (hcl _ i.below).c3
      have k4 := fun i : BW j.v => (hcl _ i.below).c4
      have k5 := fun i : BW j.v => (hcl _ i.below).c5
      have k6 := fun i : BW j.v => (hcl _ i.below).c6
      simp only at k0 k1 k2 k3 k4 k5 k6
      clear hcl
      go_wp2_with fail
      refine wp_region_below (by kernel_rfl) (by kernel_rfl) ?_
      repeat (go_big_quiet_step ((go_at_call 24; exact Calls.below_of (HSC.out _ (Below.next HBJ.out (BW.below _))))))
      refine wpQuiet_nil ?_
      intro l
      obtain ⟨k0, k1, k2, k3, k4, k5, k6⟩ := HCL.out l.v (Below.next i.below (Below.next j.below l.below))
      have HD3 := hidD (HD2.out.below (Below.next i.below (Below.next j.below l.below)) (Nat.le_refl _))
      have HBL2 := hidD (Below.next HBJ.out l.below)
      simp only at k0 k1 k2 k3 k4 k5 k6
      go_wp2_with (first | (go_at_call 24; refine (HSD.out _ _ HD3.out).mono ?_; rintro e w5 ⟨rfl, hb5⟩) | (go_at_call 27; refine (HN.out _ _).mono ?_; rintro e w6 ⟨rfl, hb6⟩))
      go_ret
      exact ⟨rfl, Below.next (Below.next HBL2.out hb5) hb6⟩

set_option maxRecDepth 100000 in
set_option maxHeartbeats 1000000 in
theorem affine_d (m : Md) (hm : MdOk m) (A B C : List UInt8) (hla : A.length ≤ 140737488355327) (hlb : B.length ≤ 140737488355327) (hlc : C.length ≤ 140737488355327) (hc1 : B.length < A.length) (hc2 : C.length < B.length) (aa ab ac : Option Addr) (ca cb cc : Nat) (hca : A.length ≤ ca) (hcb : B.length ≤ cb) (hcc : C.length ≤ cc) (w : World)
    (ha : ByAt w (.slice aa A.length ca) A) (hb : ByAt w (.slice ab B.length cb) B) (hc : ByAt w (.slice ac C.length cc) C) : Calls Try.prog 7 #[m.v, .slice aa A.length ca, .slice ab B.length cb, .slice ac C.length cc] w fun e w' => e = .returned (.bool true) ∧ Below w.heap.size w w' := by
  have HL := hidD live_any
  have HM : Hid (∀ w, Calls Try.prog 22 #[m.v] w fun e w' => e = .returned m.v ∧ Below w.heap.size w w') := fun w => mine_any ⟨m.name, m.w, m.P, m.I, m.inn, m.out, m.X⟩ w
  have HV : Hid (∀ w, Calls Try.prog 25 #[m.v] w fun e w' => e = .returned (.bool true) ∧ Below w.heap.size w w') := fun w => valid_any ⟨m.name, m.w, m.P, m.I, m.inn, m.out, m.X⟩ hm.raw true (by simp [Md.valid m hm]) w
  have HN := hidD no_any
  obtain ⟨n, hn⟩ : ∃ n : Nat, n = C.length := ⟨_, rfl⟩
  have hna : n ≤ A.length := by omega
  have hnb : n ≤ B.length := by omega
  have hnc : n ≤ C.length := by omega
  obtain ⟨D, hD⟩ : ∃ D, D = xorL (xorL (A.take n) (B.take n)) (C.take n) := ⟨_, rfl⟩
  have HDL : Hid (D.length = n) := by rw [hD]; exact xor3_length hna hnb hnc
  have HDA : Hid (∀ k, k < n → D.getD k 0 = A.getD k 0 ^^^ B.getD k 0 ^^^ C.getD k 0) := fun k hk => by rw [hD]; exact xor3_at hk hna hnb hnc
  have HAF : Hid (sumS m (A.take n) ^^^ sumS m (B.take n) ^^^ sumS m (C.take n) ^^^ sumS m D = 0) := by rw [hD]; exact affine m _ _ _ (by simp; omega) (by simp; omega)
  have HSA : Hid (∀ w', Below w.heap.size w w' → Calls Try.prog 24 #[m.v, .slice aa n ca] w' fun e w2 => e = .returned (.tuple #[.int .u64 (sumS m (A.take n) : Nat), .int .i64 0]) ∧ Below w'.heap.size w' w2) := fun w' h => sum_some m hm _ (by simp; omega) _ w' ((ha.take hna).below h (Nat.le_refl _))
  have HSB : Hid (∀ w', Below w.heap.size w w' → Calls Try.prog 24 #[m.v, .slice ab n cb] w' fun e w2 => e = .returned (.tuple #[.int .u64 (sumS m (B.take n) : Nat), .int .i64 0]) ∧ Below w'.heap.size w' w2) := fun w' h => sum_some m hm _ (by simp; omega) _ w' ((hb.take hnb).below h (Nat.le_refl _))
  have HSC : Hid (∀ w', Below w.heap.size w w' → Calls Try.prog 24 #[m.v, .slice ac n cc] w' fun e w2 => e = .returned (.tuple #[.int .u64 (sumS m (C.take n) : Nat), .int .i64 0]) ∧ Below w'.heap.size w' w2) := fun w' h => sum_some m hm _ (by simp; omega) _ w' ((hc.take hnc).below h (Nat.le_refl _))
  have HSD : Hid (∀ v w', ByAt w' v D → Calls Try.prog 24 #[m.v, v] w' fun e w2 => e = .returned (.tuple #[.int .u64 (sumS m D : Nat), .int .i64 0]) ∧ Below w'.heap.size w' w2) := fun v w' h => sum_some m hm _ (by have := HDL.out; omega) _ w' h
  have l1 := Nat.lt_of_lt_of_le (sum_lt hm (A.take n)) (pow64 hm.hi)
  have l2 := Nat.lt_of_lt_of_le (sum_lt hm (B.take n)) (pow64 hm.hi)
  have l3 := Nat.lt_of_lt_of_le (sum_lt hm (C.take n)) (pow64 hm.hi)
  have l4 := Nat.lt_of_lt_of_le (sum_lt hm D) (pow64 hm.hi)
  have x1 : bits .xor .u64 (sumS m (A.take n) : Int) (sumS m (B.take n) : Int) = ((sumS m (A.take n) ^^^ sumS m (B.take n) : Nat) : Int) := u64_xor_nat _ _ l1 l2
  have x2 : bits .xor .u64 ((sumS m (A.take n) ^^^ sumS m (B.take n) : Nat) : Int) (sumS m (C.take n) : Int) = ((sumS m (A.take n) ^^^ sumS m (B.take n) ^^^ sumS m (C.take n) : Nat) : Int) := u64_xor_nat _ _ (xor_lt (w := 64) l1 l2) l3
  have x3 : bits .xor .u64 ((sumS m (A.take n) ^^^ sumS m (B.take n) ^^^ sumS m (C.take n) : Nat) : Int) (sumS m D : Int) = 0 := by
    rw [u64_xor_nat _ _ (xor_lt (w := 64) (xor_lt (w := 64) l1 l2) l3) l4, HAF.out]; rfl
  clear l1 l2 l3 l4 HAF hD
  have HM0 := hidD (MdAt.new m w 46)
  have HSZ : Hid (w.heap.size < (w.alloc (.cells m.cells 46)).heap.size) := by show _ < _; simp
  have HB0 : Hid (Below w.heap.size w (w.alloc (.cells m.cells 46))) := (Below.refl _ _).alloc (Nat.le_refl _) _
  have HMN : Hid (∀ w : World, MdAt (w.alloc (.cells m.cells 35)) w.heap.size m) := fun w => MdAt.new m w 35
  obtain ⟨a0, ca0, ea, hsa⟩ := ha.shape
  obtain ⟨b0, cb0, eb, hsb⟩ := hb.shape
  obtain ⟨c0, cc0, ec, hsc⟩ := hc.shape
  cases ea; cases eb; cases ec
  have HHA := hidD hsa
  have HHB := hidD hsb
  have HHC := hidD hsc
  have i1 : (n : Int) ≤ ca := by omega
  have i2 : (n : Int) ≤ cb := by omega
  have i3 : (n : Int) ≤ cc := by omega
  have n1 : n ≤ ca := by omega
  have n2 : n ≤ cb := by omega
  have n3 : n ≤ cc := by omega
  have d1 : (B.length : Int) < A.length := by omega
  have d2 : (C.length : Int) < B.length := by omega
  have d3 : decide (B.length < A.length) = true := by simp; omega
  have d4 : decide (C.length < B.length) = true := by simp; omega
  have hn47 : n ≤ 140737488355327 := by omega
  clear hm hc1 hc2 hla hlb hlc hca hcb hcc ha hb hc hsa hsb hsc
  generalize sumS m (A.take n) ^^^ sumS m (B.take n) ^^^ sumS m (C.take n) = X3 at *
  generalize sumS m (A.take n) ^^^ sumS m (B.take n) = X2 at *
  generalize sumS m (A.take n) = SA at *
  generalize sumS m (B.take n) = SB at *
  generalize sumS m (C.take n) = SC at *
  generalize sumS m D = SD at *
  rw [← hn] at *
  have HN2 := hidD hn
  clear hn
  obtain ⟨nm, ww, P, I, inn, out, X⟩ := m
  simp only [Md.v, Md.cells] at *
  obtain ⟨i0, hi, hz0, hz1, hz2⟩ := info_parts Try.info5
  go_enter Try.func7, Try.ntmps7
  go_wp2_with (first
    | (go_at_call 13; refine (HL.out _).mono ?_; rintro e w1 ⟨rfl, hb1⟩; obtain ⟨k0, k1, k2, k3, k4, k5, k6⟩ := HM0.out.below hb1 HSZ.out; have HB1 := hidD (Below.next HB0.out hb1); clear hb1)
    | (go_at_call 22; refine (HM.out _).mono ?_; rintro e w2 ⟨rfl, hb2⟩; have HB2 := hidD (Below.next HB1.out hb2); clear hb2 k0 k1 k2 k3 k4 k5 k6; have HX := hidD (HMN.out w2); have HX0 : Hid (∀ o, w2.heap.size < (w2.alloc o).heap.size) := fun o => by simp)
    | (go_at_call 25; refine (HV.out _).mono ?_; rintro e w3 ⟨rfl, hb3⟩; have HX := hidD (HX.out.below hb3 (HX0.out _)); have HG := hidD (Nat.lt_of_lt_of_le (HX0.out _) hb3.size); have HB3 := hidD (Below.next (Below.more HB2.out _) hb3); clear hb3))
  have HWG : Hid (w.heap.size ≤ w2.heap.size) := HB2.out.size
  generalize w2.heap.size = gx at *
  go_loopw [13, 14] (fun d i wr => ∃ k : Nat, k ≤ n ∧ i = .int .i64 k ∧ wr.ownsRow w3.heap.size 5 1 d k ((D.take k).map encB) ∧ Below w3.heap.size w3 wr) (fun _ i _ => n - (intOf i).toNat)
  case atStart => exact ⟨0, Nat.zero_le _, rfl, World.ownsRow_nil _ _ _ _, Below.refl _ _⟩
  case round =>
    obtain ⟨k, hk, rfl, hown, hbel⟩ := hrel
    obtain ⟨ad, cd, hde⟩ := row_shape hown
    subst hde
    have HBL := hidD hbel
    have HOW := hidD hown
    have HBW := hidD (Below.next HB3.out hbel)
    clear hown
    by_cases hlt : k < n
    · obtain ⟨g1, o1, rfl, hg1, hc1⟩ := HHA.out k (by omega)
      obtain ⟨g2, o2, rfl, hg2, hc2⟩ := HHB.out k (by omega)
      obtain ⟨g3, o3, rfl, hg3, hc3⟩ := HHC.out k (by omega)
      have y1 := (HBW.out.cell (p := ⟨g1, o1 + k, none⟩) hg1).trans hc1
      have y2 := (HBW.out.cell (p := ⟨g2, o2 + k, none⟩) hg2).trans hc2
      have y3 := (HBW.out.cell (p := ⟨g3, o3 + k, none⟩) hg3).trans hc3
      have hlti : (k : Int) < n := by omega
      have HDK := hidD (HDA.out k hlt)
      have z1 : bits .xor .u8 ((A.getD k 0).toNat : Int) ((B.getD k 0).toNat : Int) = (((A.getD k 0 ^^^ B.getD k 0).toNat : Nat) : Int) := by rw [UInt8.toNat_xor]; exact u8_xor_nat _ _ (A.getD k 0).toNat_lt (B.getD k 0).toNat_lt
      have z2 : bits .xor .u8 (((A.getD k 0 ^^^ B.getD k 0).toNat : Nat) : Int) ((C.getD k 0).toNat : Int) = (((D.getD k 0).toNat : Nat) : Int) := by rw [HDK.out, UInt8.toNat_xor (A.getD k 0 ^^^ B.getD k 0)]; exact u8_xor_nat _ _ (A.getD k 0 ^^^ B.getD k 0).toNat_lt (C.getD k 0).toNat_lt
      have q1 : (k : Int) < A.length := by omega
      have q2 : (k : Int) < B.length := by omega
      have q3 : (k : Int) < n := by omega
      have HTK := hidD (take_next (D := D) (k := k) (by have := HDL.out; omega))
      have hwz := hbel.size
      have CX1 := hidD hc1
      have CX2 := hidD hc2
      have CX3 := hidD hc3
      clear hbel hc1 hc2 hc3 HDK
      generalize ((A.getD k 0 ^^^ B.getD k 0).toNat : Nat) = ab' at *
      generalize (A.getD k 0).toNat = av at *
      generalize (B.getD k 0).toNat = bv at *
      generalize (C.getD k 0).toNat = cv at *
      generalize hdv : D.getD k 0 = dv at *
      have HOA : Hid (∀ o, (wr.drew.alloc o).ownsRow w3.heap.size 5 1 (.slice ad k cd) k ((D.take k).map encB)) := fun o => row_below HOW.out (((Below.refl _ _).drew).alloc (Nat.le_refl _) o)
      go_wp2_with fail
      go_region_held_law (fun w' => w'.cell? ⟨g1, o1 + k, none⟩ = some (.int .u8 (av : Int)) ∧ w'.cell? ⟨g2, o2 + k, none⟩ = some (.int .u8 (bv : Int)) ∧ w'.cell? ⟨g3, o3 + k, none⟩ = some (.int .u8 (cv : Int))) (go_keep)
        ((refine step_append_own rfl _ _ 22 rfl w3.heap.size 5 i0 (.int .u8 0) 1 1 Try.underlying22 hi hz0 hz1 hz2 rfl (by decide) (.slice ad k cd) k ((D.take k).map encB) rfl (HOA.out _) ⟨wr.heap.size, 0, none⟩ 1 1 [encB dv] rfl rfl (new_cell1 _ _ _) (by simp [encB, Value.oneCell']) (by unfold maxLen; omega) (by omega) (by simp; omega) ?_; intro v' w4 hown4 hg4 hnil4; have hb4 : Below w3.heap.size w3 w4 := row_grown (HOA.out _) ((HBL.out.drew).alloc (by simp; omega) _) hg4 (by simp; omega); have HB4 := hidD hb4; have r1 := ((Below.next HB3.out hb4).cell (p := ⟨g1, o1 + k, none⟩) hg1).trans CX1.out; have r2 := ((Below.next HB3.out hb4).cell (p := ⟨g2, o2 + k, none⟩) hg2).trans CX2.out; have r3 := ((Below.next HB3.out hb4).cell (p := ⟨g3, o3 + k, none⟩) hg3).trans CX3.out; clear hb4))
      go_wp2
      go_roundw
      case rel => exact ⟨k + 1, by omega, by go_num, by rw [HTK.out]; exact hown4, HB4.out⟩
      case measure => simp [intOf]; omega
    · obtain rfl : k = n := by omega
      have HD2 : Hid (ByAt wr (.slice ad k cd) D) := by
        have h1 : D.take k = D := List.take_of_length_le (by rw [HDL.out]; exact Nat.le_refl _)
        have h2 := HOW.out
        rw [h1] at h2
        rw [show wr.ownsRow w3.heap.size 5 1 (.slice ad k cd) k (D.map encB) = wr.ownsRow w3.heap.size 5 1 (.slice ad k cd) D.length (D.map encB) by rw [HDL.out]] at h2
        exact row_by h2
      have hcl : ∀ w', Below wr.heap.size wr w' → MdAt w' gx ⟨nm, ww, P, I, inn, out, X⟩ := fun w' h => (HX.out.below HBL.out HG.out).below h (Nat.lt_of_lt_of_le HG.out HBL.out.size)
      have HCL := hidD hcl
      have k0 := fun i : BW wr => (hcl _ i.below).c0
      have k1 := fun i : BW wr => (hcl _ i.below).c1
      have k2 := fun i : BW wr => (hcl _ i.below).c2
      have k3 := fun i : BW wr => (hcl _ i.below).c3
      have k4 := fun i : BW wr => (hcl _ i.below).c4
      have k5 := fun i : BW wr => (hcl _ i.below).c5
      have k6 := fun i : BW wr => (hcl _ i.below).c6
      simp only at k0 k1 k2 k3 k4 k5 k6
      clear hcl hbel
      go_wp2_with fail
      refine wp_region_below (by kernel_rfl) (by kernel_rfl) ?_
      repeat (go_big_quiet_step ((go_at_call 24; exact Calls.below_of (HSA.out _ (Below.next HBW.out (BW.below _))))))
      refine wpQuiet_nil ?_
      intro i
      have hcl : ∀ w', Below i.v.heap.size i.v w' → MdAt w' gx ⟨nm, ww, P, I, inn, out, X⟩ := fun w' h => HCL.out w' (Below.next i.below h)
      have HBI := hidD (Below.next HBW.out i.below)
      have k0 := fun i : BW i.v => (hcl _ i.below).c0
      have k1 := fun i : BW i.v => (hcl _ i.below).c1
      have k2 := fun i : BW i.v => (hcl _ i.below).c2
      have k3 := fun i : BW i.v => (hcl _ i.below).c3
      have k4 := fun i : BW i.v => (hcl _ i.below).c4
      have k5 := fun i : BW i.v => (hcl _ i.below).c5
      have k6 := fun i : BW i.v => (hcl _ i.below).c6
      simp only at k0 k1 k2 k3 k4 k5 k6
      clear hcl
      go_wp2_with fail
      refine wp_region_below (by kernel_rfl) (by kernel_rfl) ?_
      repeat (go_big_quiet_step ((go_at_call 24; exact Calls.below_of (HSB.out _ (Below.next HBI.out (BW.below _))))))
      refine wpQuiet_nil ?_
      intro j
      have hcl : ∀ w', Below j.v.heap.size j.v w' → MdAt w' gx ⟨nm, ww, P, I, inn, out, X⟩ := fun w' h => HCL.out w' (Below.next i.below (Below.next j.below h))
      have HBJ := hidD (Below.next HBI.out j.below)
      have k0 := fun i : BW j.v => (hcl _ i.below).c0
      have k1 := fun i : BW j.v => (hcl _ i.below).c1
      have k2 := fun i : BW j.v => (hcl _ i.below).c2
      have k3 := fun i : BW j.v => (hcl _ i.below).c3
      have k4 := fun i : BW j.v => (hcl _ i.below).c4
      have k5 := fun i : BW j.v => (hcl _ i.below).c5
      have k6 := fun i : BW j.v => (hcl _ i.below).c6
      simp only at k0 k1 k2 k3 k4 k5 k6
      clear hcl
      go_wp2_with fail
      refine wp_region_below (by kernel_rfl) (by kernel_rfl) ?_
      repeat (go_big_quiet_step ((go_at_call 24; exact Calls.below_of (HSC.out _ (Below.next HBJ.out (BW.below _))))))
      refine wpQuiet_nil ?_
      intro l
      obtain ⟨k0, k1, k2, k3, k4, k5, k6⟩ := HCL.out l.v (Below.next i.below (Below.next j.below l.below))
      have HD3 := hidD (HD2.out.below (Below.next i.below (Below.next j.below l.below)) (Nat.le_refl _))
      have HBL2 := hidD (Below.next HBJ.out l.below)
      simp only at k0 k1 k2 k3 k4 k5 k6
      go_wp2_with (first | (go_at_call 24; refine (HSD.out _ _ HD3.out).mono ?_; rintro e w5 ⟨rfl, hb5⟩) | (go_at_call 27; refine (HN.out _ _).mono ?_; rintro e w6 ⟨rfl, hb6⟩))
      go_ret
      exact ⟨rfl, Below.next (Below.next HBL2.out hb5) hb6⟩

theorem affine_any (m : Mw) (hm : MwOk m) (A B C : List UInt8) (hla : A.length ≤ 140737488355327) (hlb : B.length ≤ 140737488355327) (hlc : C.length ≤ 140737488355327) (aa ab ac : Option Addr) (ca cb cc : Nat) (hca : A.length ≤ ca) (hcb : B.length ≤ cb) (hcc : C.length ≤ cc) (w : World)
    (ha : ByAt w (.slice aa A.length ca) A) (hb : ByAt w (.slice ab B.length cb) B) (hc : ByAt w (.slice ac C.length cc) C) : Calls Try.prog 7 #[m.v, .slice aa A.length ca, .slice ab B.length cb, .slice ac C.length cc] w fun e w' => e = .returned (.bool true) ∧ Below w.heap.size w w' := by
  by_cases hv : m.Valid
  · rw [hv.v]
    by_cases h1 : B.length < A.length
    · by_cases h2 : C.length < B.length
      · exact affine_d m.md hv.2.2 A B C hla hlb hlc h1 h2 aa ab ac ca cb cc hca hcb hcc w ha hb hc
      · exact affine_b m.md hv.2.2 A B C hla hlb hlc h1 (by omega) aa ab ac ca cb cc hca hcb hcc w ha hb hc
    · by_cases h2 : C.length < A.length
      · exact affine_c m.md hv.2.2 A B C hla hlb hlc (by omega) h2 aa ab ac ca cb cc hca hcb hcc w ha hb hc
      · exact affine_a m.md hv.2.2 A B C hla hlb hlc (by omega) (by omega) aa ab ac ca cb cc hca hcb hcc w ha hb hc
  · exact affine_none m hm hv _ _ _ w
end Go.Proofs.Ytjhaaphgaplhlaa
