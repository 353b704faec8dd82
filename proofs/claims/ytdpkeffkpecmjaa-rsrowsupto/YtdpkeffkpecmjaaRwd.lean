/- What the document's Deal answers: the walk. -/
import Derived.Test.YtdpkeffkpecmjaaRwc
namespace Go.Proofs.Ytdpkeffkpecmjaa
open Go.RowKit
set_option linter.unusedVariables false

set_option maxRecDepth 100000 in
set_option maxHeartbeats 1600000 in
theorem rdeal_less (len : Nat) (a : Option Addr) (cap : Nat) (z : Int) (hz : z < 1) (w : World) : Calls Try.prog 29 #[.slice a len cap, .int .i64 z] w fun e w' => e = .returned (.tuple #[.slice none 0 0, .int .i64 1]) ∧ Below w.heap.size w w' := by
  have HW : Hid (Below w.heap.size w w) := Below.refl _ _
  go_enter Try.func29, Try.ntmps29
  go_wp2_with fail
  refine bodyPost_ret (v := .tuple #[.slice none 0 0, .int .i64 1]) (by simp [results, Try.results29, go_sem]) rfl ?_
  exact ⟨rfl, HW.out⟩
set_option maxRecDepth 100000 in
set_option maxHeartbeats 1600000 in
theorem rdeal_more (len : Nat) (a : Option Addr) (cap : Nat) (z : Int) (hz : 1048576 < z) (w : World) : Calls Try.prog 29 #[.slice a len cap, .int .i64 z] w fun e w' => e = .returned (.tuple #[.slice none 0 0, .int .i64 1]) ∧ Below w.heap.size w w' := by
  have HW : Hid (Below w.heap.size w w) := Below.refl _ _
  have hz1 : ¬ z < 1 := by omega
  go_enter Try.func29, Try.ntmps29
  go_wp2_with fail
  refine bodyPost_ret (v := .tuple #[.slice none 0 0, .int .i64 1]) (by simp [results, Try.results29, go_sem]) rfl ?_
  exact ⟨rfl, HW.out⟩
set_option maxRecDepth 100000 in
set_option maxHeartbeats 1600000 in
theorem rdeal_rest (len : Nat) (a : Option Addr) (cap : Nat) (n : Nat) (h1 : 1 ≤ n) (h2 : n ≤ 1048576) (hr : len % n ≠ 0) (w : World) : Calls Try.prog 29 #[.slice a len cap, .int .i64 n] w fun e w' => e = .returned (.tuple #[.slice none 0 0, .int .i64 1]) ∧ Below w.heap.size w w' := by
  have HW : Hid (Below w.heap.size w w) := Below.refl _ _
  have hrem := rem_int len n
  have hz1 : ¬ (n : Int) < 1 := by omega
  have hz2 : ¬ (1048576 : Int) < n := by omega
  have hn0 : ¬ (n : Int) = 0 := by omega
  have hnb : ((n : Int) == 0) = false := beq_eq_false_iff_ne.2 hn0
  have hri : ¬ ((len % n : Nat) : Int) = 0 := by omega
  have hrb : (((len % n : Nat) : Int) == 0) = false := beq_eq_false_iff_ne.2 hri
  generalize len % n = q at *
  go_enter Try.func29, Try.ntmps29
  go_wp2_with fail
  refine bodyPost_ret (v := .tuple #[.slice none 0 0, .int .i64 1]) (by simp [results, Try.results29, go_sem]) rfl ?_
  exact ⟨rfl, HW.out⟩

set_option maxRecDepth 100000 in
set_option maxHeartbeats 3200000 in
theorem rdeal_ok (data : List UInt8) (hd : data.length ≤ 1048576) (n m : Nat) (h1 : 1 ≤ n) (h2 : n ≤ 1048576) (hm : data.length = n * m) (v : Value) (w : World) (hv : ByAt w v data) :
    Calls Try.prog 29 #[v, .int .i64 n] w fun e w' => ∃ g V, e = .returned (.tuple #[.slice (some ⟨g, 0, none⟩) n n, .int .i64 0]) ∧ GrAt w' w.heap.size g n V (fun r => (List.range m).map (dlA data n r)) ∧ Below w.heap.size w w' := by
  have hrem0 := rem_int data.length n
  rw [show data.length % n = 0 by rw [hm]; exact Nat.mul_mod_right n m] at hrem0
  obtain ⟨a, cap, rfl, hcell⟩ := hv.shape
  have HCE : Hid (∀ k, k < data.length → ∃ g off, a = some ⟨g, off, none⟩ ∧ g < w.heap.size ∧ w.cell? ⟨g, off + k, none⟩ = some (.int .u8 ((cf data k).toNat : Int))) := hcell
  have HALL : Hid (∀ r, r < n → grR data n data.length r = (List.range m).map (dlA data n r)) := fun r hr => by rw [hm]; exact grR_all data n r hr m
  clear hcell hv hm
  generalize data.length = len at *
  have hz1 : ¬ (n : Int) < 1 := by omega
  have hz2 : ¬ (1048576 : Int) < n := by omega
  have hn0 : ¬ (n : Int) = 0 := by omega
  have hnb : ((n : Int) == 0) = false := beq_eq_false_iff_ne.2 hn0
  obtain ⟨i22, hi22, hz220, hz221, hz222⟩ := info_parts Try.info22
  go_enter Try.func29, Try.ntmps29
  go_wp2_with (at_make; refine wpList_make_row _ rfl _ _ 47 rfl 22 i22 (.slice none 0 0) Try.underlying47 hi22 hz220 hz221 rfl _ _ n rfl rfl (by rw [hz222]; omega) (by omega) ?_; have HM1 : Hid (GrAt (w.alloc (.cells (madeCells #[Value.slice none 0 0] n) (22 : TypeId))) w.heap.size w.heap.size n (fun _ => .slice none 0 0) (grR data n 0)) := (GrAt.make (Nat.le_refl _)); have HB1 : Hid (Below w.heap.size w (w.alloc (.cells (madeCells #[Value.slice none 0 0] n) (22 : TypeId)))) := ((Below.refl _ _).alloc (Nat.le_refl _) _); generalize (w.alloc (.cells (madeCells #[Value.slice none 0 0] n) (22 : TypeId))) = w1 at *)
  generalize hG : w.heap.size = G at *
  have HG := hidD hG
  clear hG
  go_loopw [7] (fun i wr => ∃ (k : Nat) (V : Nat → Value), k ≤ len ∧ i = .int .i64 k ∧ GrAt wr G G n V (grR data n k) ∧ Below G w wr) (fun i _ => len - (intOf i).toNat)
  case atStart => exact ⟨0, _, Nat.zero_le _, rfl, HM1.out, HB1.out⟩
  case round =>
    obtain ⟨k, V, hk, rfl, hmat, hbel⟩ := hrel
    by_cases hlt : k < len
    · have hlti : (k : Int) < len := by omega
      have HMW := hidD hmat
      have HBW := hidD hbel
      have hrem := rem_int k n
      have hrl : k % n < n := Nat.mod_lt _ h1
      have HRG : Hid (∀ s, grR data n (k + 1) s = if s = k % n then grR data n k (k % n) ++ [cf data k] else grR data n k s) := fun s => by
        show (if k % n = s then grR data n k s ++ [cf data k] else grR data n k s) = _
        by_cases h : s = k % n
        · rw [if_pos h.symm, if_pos h, h]
        · rw [if_neg (fun e => h e.symm), if_neg h]
      obtain ⟨gd, od, rfl, hgd, hcd⟩ := HCE.out k hlt
      have hlen := grR_len data n k (k % n)
      generalize hrr : k % n = r at *
      clear hrr
      have hrli : (r : Int) < n := by omega
      obtain ⟨ar, cr, hVr⟩ := row_shape (hmat.row r hrl)
      have HOW := hidD (hmat.row r hrl)
      have hcG : wr.cell? ⟨G, r, none⟩ = some (V r) := by rw [cell_of_row _ _ _ _ _ _ hmat.sl, vwC_get hrl]
      rw [hVr] at hcG HOW
      have HVR := hidD hVr
      have hfG : wr.frozen? ⟨G, r, none⟩ = false := frozen_of_row _ _ _ _ _ hmat.sl
      have hcd' : wr.cell? ⟨gd, od + k, none⟩ = some (.int .u8 ((cf data k).toNat : Int)) := (hbel.cell (p := ⟨gd, od + k, none⟩) hgd).trans hcd
      clear hVr hcd
      have HNE : Hid ((Value.slice ar (grR data n k r).length cr).ownBlock ≠ some G) := by
        have := hmat.ne hrl; rwa [HVR.out] at this
      generalize hRR : grR data n k r = RR at *
      clear hRR
      generalize hLL : RR.length = LL at *
      have HLL := hidD hLL
      clear hLL
      generalize cf data k = X at *
      have fG : ∀ i : KB wr [G, gd], i.v.cell? ⟨G, r, none⟩ = some (.slice ar LL cr) := fun i => (i.cell (b := G) (by simp) _).trans hcG
      have fD : ∀ i : KB wr [G, gd], i.v.cell? ⟨gd, od + k, none⟩ = some (.int .u8 (X.toNat : Int)) := fun i => (i.cell (b := gd) (by simp) _).trans hcd'
      have HCG := hidD hcG
      have HGL := hidD hmat.lt
      have HMG : Hid (G ≤ wr.heap.size) := Nat.le_of_lt hmat.lt
      have HA1 : Hid (Below wr.heap.size wr (wr.alloc (.cells #[.int .u8 (X.toNat : Int)] (5 : TypeId))).drew) := ((Below.refl _ _).alloc (Nat.le_refl _) _).drew
      have HBY : Hid (ByAt (wr.alloc (.cells #[.int .u8 (X.toNat : Int)] (5 : TypeId))).drew (.slice (some ⟨wr.heap.size, 0, none⟩) 1 1) [X]) := ((sl_new wr [X] _ 1 rfl rfl (by omega)).by').next ((Below.refl _ _).drew)
      have HKK : Hid (∀ wB, Below wr.heap.size wr wB → ∃ i : KB wr [G, gd], wB = i.v) := fun wB hb => ⟨⟨wB, fun b hx => by
        rcases (show b = G ∨ b = gd by simpa using hx) with h | h
        · rw [h]; exact hb.block _ HGL.out
        · rw [h]; exact hb.block _ (by have := HBW.out.size; have := HG.out; omega)⟩, rfl⟩
      clear hmat hbel hcG hcd'
      go_wp2_with fail
      refine wp_region_seg [0, 0, 0, 0, 0, 0, 0, 0, 0, 0, 0, 0, 0, 0, 1, 3, 4, 99] 2 17 [G, gd] (by kernel_rfl) (by kernel_rfl) (by kernel_rfl) (by kernel_rfl) (by kernel_rfl) (by kernel_rfl) (by kernel_rfl) (by kernel_rfl) (fun _ _ _ _ _ h => h) ?_
      simp only [SegW, pk, Nat.reduceMul, Nat.reduceAdd, Nat.reduceBEq, cond_true, cond_false]
      repeat (go_big_quiet_step (fail))
      refine wpQuiet_nil ?_
      go_wp2_with fail
      refine ⟨HKK.out _ HA1.out, ?_⟩
      repeat (go_big_quiet_step (fail))
      refine wpQuiet_nil ?_
      go_wp2_with (at_builtin; refine wpList_append_byB rfl (.tmp 38) (.tmp 43) rfl G (.slice ar LL cr) LL (RR.map encB) rfl (row_below HOW.out HA1.out) (.slice (some ⟨wr.heap.size, 0, none⟩) 1 1) [X] rfl HBY.out (by simp) (by simp; omega) (Nat.le_trans HMG.out HA1.out.size) ?_; intro v8 w8 hown8 hg8 hat8)
      have HG8 : Hid (wr.grownBy w8 (V r).ownBlock) := by
        refine ⟨hg8.os, hg8.tape, hg8.output, Nat.le_trans HA1.out.size hg8.size, fun b hb hne => ?_⟩
        rw [hg8.block b (Nat.lt_of_lt_of_le hb HA1.out.size) (by rw [← HVR.out]; exact hne)]
        exact HA1.out.block b hb
      have HAT : Hid (v8.ownBlock = (V r).ownBlock ∨ ∃ b, v8.ownBlock = some b ∧ wr.heap.size ≤ b) := by
        rcases hat8 with h | h
        · exact .inl (h.trans (by rw [HVR.out]))
        · exact .inr ⟨_, h, HA1.out.size⟩
      have HN8 : Hid (GrAt (w8.setCell ⟨G, r, none⟩ v8) G G n (fun s => if s = r then v8 else V s) (grR data n (k + 1))) := by
        refine (HMW.out.grow hrl (L := RR ++ [X]) ?_ HG8.out HAT.out).congr fun s hs => (HRG.out s).symm
        rw [List.length_append, List.length_singleton, List.map_append, HLL.out]
        exact hown8
      have HB8 : Hid (Below G w (w8.setCell ⟨G, r, none⟩ v8)) := by
        have h0 : Below G w w8 := row_grown (row_below HOW.out HA1.out) (HBW.out.trans (HA1.out.mono HMG.out)) hg8 (Nat.le_trans HMG.out HA1.out.size)
        exact h0.setCell (p := ⟨G, r, none⟩) (Nat.le_refl _) _
      have hcG8 : w8.cell? ⟨G, r, none⟩ = some (.slice ar LL cr) := by
        rw [World.cell?_of_block (w := wr) (HG8.out.block G HGL.out (fun e => HNE.out (by rw [HVR.out] at e; exact e.symm)))]
        exact HCG.out
      have hfG8 : w8.frozen? ⟨G, r, none⟩ = false := by
        rw [World.frozen?_of_block (w := wr) (HG8.out.block G HGL.out (fun e => HNE.out (by rw [HVR.out] at e; exact e.symm)))]
        exact hfG
      obtain ⟨a8, c8, h8⟩ := row_shape hown8
      subst h8
      have HKE : Hid (∃ i : KB wr [G, gd], w8 = i.v) := ⟨⟨w8, fun b hb => by
        rcases (show b = G ∨ b = gd by simpa using hb) with h | h
        · rw [h]; exact HG8.out.block G HGL.out (fun e => HNE.out (by rw [HVR.out] at e; exact e.symm))
        · rw [h]; exact HG8.out.block gd (by have := HBW.out.size; have := HG.out; omega) (fun e => by
            have h2 := (HMW.out.row r hrl).lt gd e.symm
            have := HG.out
            omega)⟩, rfl⟩
      clear hown8 hg8 hat8
      refine ⟨HKE.out, ?_⟩
      repeat (go_big_quiet_step (fail))
      refine wpQuiet_nil ?_
      go_wp2_with fail
      go_roundw
      case rel => exact ⟨k + 1, _, by omega, by go_num, HN8.out, HB8.out⟩
      case measure => simp [intOf]; omega
    · obtain rfl : k = len := by omega
      have HMW := hidD (hmat.congr HALL.out)
      have HBW := hidD hbel
      clear hmat hbel
      go_wp2_with fail
      refine bodyPost_ret (v := .tuple #[.slice (some ⟨G, 0, none⟩) n n, .int .i64 0]) (by simp [results, Try.results29, go_sem]) rfl ?_
      exact ⟨G, V, rfl, by rw [HG.out]; exact HMW.out, by rw [HG.out]; exact HBW.out⟩
end Go.Proofs.Ytdpkeffkpecmjaa
