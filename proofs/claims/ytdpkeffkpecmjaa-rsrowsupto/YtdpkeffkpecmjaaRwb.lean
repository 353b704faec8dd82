/- What the program's Deal answers. -/
import Derived.Test.YtdpkeffkpecmjaaRmx
import Derived.Test.YtdpkeffkpecmjaaGa
import Derived.Test.YtdpkeffkpecmjaaEvl
namespace Go.Proofs.Ytdpkeffkpecmjaa
open Go.RowKit
set_option linter.unusedVariables false

theorem rem_int (i M : Nat) : (i : Int).tmod (M : Int) = ((i % M : Nat) : Int) := (Int.ofNat_tmod i M).symm
theorem quo_int (i M : Nat) : (i : Int).tdiv (M : Int) = ((i / M : Nat) : Int) := (Int.ofNat_tdiv i M).symm
/-- What is dealt, row by row. -/
def dlA (data : List UInt8) (n : Nat) (r j : Nat) : UInt8 := cf data (j * n + r)
theorem dl_lt {len n m r j : Nat} (hm : len = n * m) (hr : r < n) (hj : j < m) : j * n + r < len := by
  rw [hm]
  have : (j + 1) * n ≤ m * n := Nat.mul_le_mul_right _ hj
  rw [Nat.succ_mul, Nat.mul_comm m n] at this
  omega

set_option maxRecDepth 100000 in
set_option maxHeartbeats 1600000 in
theorem deal_less (len : Nat) (a : Option Addr) (cap : Nat) (z : Int) (hz : z < 1) (w : World) : Calls Try.prog 28 #[.slice a len cap, .int .i64 z] w fun e w' => e = .returned (.tuple #[.slice none 0 0, .int .i64 1]) ∧ Below w.heap.size w w' := by
  have HW : Hid (Below w.heap.size w w) := Below.refl _ _
  go_enter Try.func28, Try.ntmps28
  go_wp2_with fail
  refine bodyPost_ret (v := .tuple #[.slice none 0 0, .int .i64 1]) (by simp [results, Try.results28, go_sem]) rfl ?_
  exact ⟨rfl, HW.out⟩
set_option maxRecDepth 100000 in
set_option maxHeartbeats 1600000 in
theorem deal_more (len : Nat) (a : Option Addr) (cap : Nat) (z : Int) (hz : 1048576 < z) (w : World) : Calls Try.prog 28 #[.slice a len cap, .int .i64 z] w fun e w' => e = .returned (.tuple #[.slice none 0 0, .int .i64 1]) ∧ Below w.heap.size w w' := by
  have HW : Hid (Below w.heap.size w w) := Below.refl _ _
  have hz1 : ¬ z < 1 := by omega
  go_enter Try.func28, Try.ntmps28
  go_wp2_with fail
  refine bodyPost_ret (v := .tuple #[.slice none 0 0, .int .i64 1]) (by simp [results, Try.results28, go_sem]) rfl ?_
  exact ⟨rfl, HW.out⟩
set_option maxRecDepth 100000 in
set_option maxHeartbeats 1600000 in
theorem deal_rest (len : Nat) (a : Option Addr) (cap : Nat) (n : Nat) (h1 : 1 ≤ n) (h2 : n ≤ 1048576) (hr : len % n ≠ 0) (w : World) : Calls Try.prog 28 #[.slice a len cap, .int .i64 n] w fun e w' => e = .returned (.tuple #[.slice none 0 0, .int .i64 1]) ∧ Below w.heap.size w w' := by
  have HW : Hid (Below w.heap.size w w) := Below.refl _ _
  have hrem := rem_int len n
  have hz1 : ¬ (n : Int) < 1 := by omega
  have hz2 : ¬ (1048576 : Int) < n := by omega
  have hn0 : ¬ (n : Int) = 0 := by omega
  have hnb : ((n : Int) == 0) = false := beq_eq_false_iff_ne.2 hn0
  have hri : ¬ ((len % n : Nat) : Int) = 0 := by omega
  have hrb : (((len % n : Nat) : Int) == 0) = false := beq_eq_false_iff_ne.2 hri
  generalize len % n = q at *
  go_enter Try.func28, Try.ntmps28
  go_wp2_with fail
  refine bodyPost_ret (v := .tuple #[.slice none 0 0, .int .i64 1]) (by simp [results, Try.results28, go_sem]) rfl ?_
  exact ⟨rfl, HW.out⟩

set_option maxRecDepth 100000 in
set_option maxHeartbeats 3200000 in
theorem deal_ok (data : List UInt8) (hd : data.length ≤ 1048576) (n m : Nat) (h1 : 1 ≤ n) (h2 : n ≤ 1048576) (hm : data.length = n * m) (v : Value) (w : World) (hv : ByAt w v data) :
    Calls Try.prog 28 #[v, .int .i64 n] w fun e w' => ∃ g bl, e = .returned (.tuple #[.slice (some ⟨g, 0, none⟩) n n, .int .i64 0]) ∧ MatAt w' w.heap.size g n m n bl (dlA data n) ∧ Below w.heap.size w w' := by
  have hrem := rem_int data.length n
  have hquo := quo_int data.length n
  rw [show data.length % n = 0 by rw [hm]; exact Nat.mul_mod_right n m] at hrem
  rw [show data.length / n = m by rw [hm]; exact Nat.mul_div_cancel_left m h1] at hquo
  have hml : m ≤ 1048576 := Nat.le_trans (Nat.le_mul_of_pos_left m h1) (hm ▸ hd)
  obtain ⟨a, cap, rfl, hcell⟩ := hv.shape
  have HCE : Hid (∀ k, k < data.length → ∃ g off, a = some ⟨g, off, none⟩ ∧ g < w.heap.size ∧ w.cell? ⟨g, off + k, none⟩ = some (.int .u8 ((cf data k).toNat : Int))) := hcell
  have HLT := hidD (fun r j => dl_lt (r := r) (j := j) hm)
  have HA : Hid (∀ r j, dlA data n r j = cf data (j * n + r)) := fun r j => rfl
  clear hcell hv hm
  generalize data.length = len at *
  have hz1 : ¬ (n : Int) < 1 := by omega
  have hz2 : ¬ (1048576 : Int) < n := by omega
  have hn0 : ¬ (n : Int) = 0 := by omega
  have hnb : ((n : Int) == 0) = false := beq_eq_false_iff_ne.2 hn0
  have hquo' : (len : Int) / (n : Int) = (m : Int) := by rw [← hquo]; exact (Int.tdiv_eq_ediv_of_nonneg (by omega)).symm
  obtain ⟨i22, hi22, hz220, hz221, hz222⟩ := info_parts Try.info22
  obtain ⟨i5, hi5, hz50, hz51, hz52⟩ := info_parts Try.info5
  go_enter Try.func28, Try.ntmps28
  go_wp2_with (at_make; refine wpList_make_row _ rfl _ _ 47 rfl 22 i22 (.slice none 0 0) Try.underlying47 hi22 hz220 hz221 rfl _ _ n rfl rfl (by rw [hz222]; omega) (by omega) ?_; have HM1 : Hid (MatAt (w.alloc (.cells (madeCells #[Value.slice none 0 0] n) (22 : TypeId))) w.heap.size w.heap.size n m 0 (fun _ => 0) (dlA data n)) := (MatAt.make _ _ (Nat.le_refl _)); have HB1 : Hid (Below w.heap.size w (w.alloc (.cells (madeCells #[Value.slice none 0 0] n) (22 : TypeId)))) := ((Below.refl _ _).alloc (Nat.le_refl _) _); generalize (w.alloc (.cells (madeCells #[Value.slice none 0 0] n) (22 : TypeId))) = w1 at *)
  generalize hG : w.heap.size = G at *
  have HG := hidD hG
  clear hG
  go_loopw [26] (fun i wr => ∃ (k : Nat) (bl : Nat → Nat), k ≤ n ∧ i = .int .i64 k ∧ MatAt wr G G n m k bl (dlA data n) ∧ Below G w wr) (fun i _ => n - (intOf i).toNat)
  case atStart => exact ⟨0, _, Nat.zero_le _, rfl, HM1.out, HB1.out⟩
  case round =>
    obtain ⟨k, bl, hk, rfl, hmat, hbel⟩ := hrel
    by_cases hlt : k < n
    · have hlti : (k : Int) < n := by omega
      have HMW := hidD hmat
      have HBW := hidD hbel
      have hnl : ∀ o, (wr.alloc o).cell? ⟨G, k, none⟩ = some (.slice none 0 0) := fun o => (hmat.next ((Below.refl _ _).alloc (Nat.le_refl _) o)).nlc (Nat.le_refl _) hlt
      have hfz : ∀ o, (wr.alloc o).frozen? ⟨G, k, none⟩ = false := fun o => (hmat.next ((Below.refl _ _).alloc (Nat.le_refl _) o)).frz k
      have HM2 : Hid (MatAt ((wr.alloc (.cells (madeCells #[Value.int .u8 0] m) (5 : TypeId))).setCell ⟨G, k, none⟩ (.slice (some ⟨wr.heap.size, 0, none⟩) m m)) G G n m (k + 1) (fun r => if r = k then wr.heap.size else bl r) (fun r j => if r = k then (if j < 0 then dlA data n k j else 0) else dlA data n r j)) := by
        refine (hmat.lay (b := wr.heap.size) hlt ((Below.refl _ _).alloc (Nat.le_refl _) _) (Nat.le_refl _) ?_).congr fun r j _ _ => ?_
        · show _ = _
          rw [heap_alloc_last, made_bytes]
        · by_cases h : r = k
          · rw [if_pos h, if_pos h, if_neg (by omega)]
          · rw [if_neg h, if_neg h]
      have HB2 : Hid (Below G w ((wr.alloc (.cells (madeCells #[Value.int .u8 0] m) (5 : TypeId))).setCell ⟨G, k, none⟩ (.slice (some ⟨wr.heap.size, 0, none⟩) m m))) := (hbel.alloc (by have := hmat.lt; omega) _).setCell (p := ⟨G, k, none⟩) (Nat.le_refl _) _
      have hc2 := HM2.out.slc (r := k) (by omega) (by omega)
      rw [if_pos rfl] at hc2
      clear hmat hbel
      go_wp2_with (at_make; refine wpList_make_row _ rfl _ _ 22 rfl 5 i5 (.int .u8 0) Try.underlying22 hi5 hz50 hz51 rfl _ _ m rfl rfl (by rw [hz52]; omega) (by omega) ?_)
      generalize hbk : wr.heap.size = b at *
      clear hbk
      generalize ((wr.alloc (.cells (madeCells #[Value.int .u8 0] m) (5 : TypeId))).setCell ⟨G, k, none⟩ (.slice (some ⟨b, 0, none⟩) m m)) = w2 at *
      go_loopw [42] (fun i wq => ∃ q : Nat, q ≤ m ∧ i = .int .i64 q ∧ MatAt wq G G n m (k + 1) (fun r => if r = k then b else bl r) (fun r j => if r = k then (if j < q then dlA data n k j else 0) else dlA data n r j) ∧ Below G w wq) (fun i _ => m - (intOf i).toNat)
      case atStart => exact ⟨0, Nat.zero_le _, rfl, HM2.out, HB2.out⟩
      case round =>
        obtain ⟨q, hq, rfl, hmat, hbel⟩ := hrel
        by_cases hqt : q < m
        · have hqti : (q : Int) < m := by omega
          have hDl := HLT.out k q hlt hqt
          obtain ⟨gd, od, rfl, hgd, hcd⟩ := HCE.out _ hDl
          have hmulN : q * n ≤ len := by omega
          obtain ⟨M, hM⟩ : ∃ M : Nat, M = q * n := ⟨_, rfl⟩
          obtain ⟨D, hD⟩ : ∃ D : Nat, D = M + k := ⟨_, rfl⟩
          have hmw : IntKind.i64.wrap ((q : Int) * (n : Int)) = (M : Int) := by
            rw [hM, ← Int.natCast_mul, IntKind.wrap_i64]; omega
          have haw : IntKind.i64.wrap ((M : Int) + (k : Int)) = (D : Int) := by
            rw [hD, IntKind.wrap_i64]; omega
          have hDi : (D : Int) < len := by rw [hD, hM]; omega
          have hDe : q * n + k = D := by rw [hD, hM]
          rw [hDe] at hcd hDl
          have HX : Hid (dlA data n k q = cf data D) := by show _ = _; rw [HA.out, hDe]
          have HMW := hidD hmat
          have HBW := hidD hbel
          have hc0 : wr.cell? ⟨G, k, none⟩ = some (.slice (some ⟨b, 0, none⟩) m m) := by
            have := hmat.slc (r := k) (by omega) (by omega)
            rwa [if_pos rfl] at this
          have hcb : ∃ y : UInt8, wr.cell? ⟨b, q, none⟩ = some (.int .u8 (y.toNat : Int)) := by
            have := hmat.cell (r := k) (by omega) hqt
            rw [if_pos rfl] at this
            exact ⟨_, this⟩
          obtain ⟨y, hcb⟩ := hcb
          have hfb : wr.frozen? ⟨b, q, none⟩ = false := by
            have := hmat.frzr (r := k) (by omega) q
            rwa [if_pos rfl] at this
          have fG : ∀ i : KB wr [G, gd], i.v.cell? ⟨G, k, none⟩ = some (.slice (some ⟨b, 0, none⟩) m m) := fun i => (i.cell (b := G) (by simp) _).trans hc0
          have fD : ∀ i : KB wr [G, gd], i.v.cell? ⟨gd, od + D, none⟩ = some (.int .u8 ((cf data D).toNat : Int)) := fun i => (i.cell (b := gd) (by simp) _).trans ((hbel.cell (p := ⟨gd, od + D, none⟩) hgd).trans hcd)
          have hcd2 : wr.drew.cell? ⟨b, q, none⟩ = some (.int .u8 (y.toNat : Int)) := hcb
          have hfd2 : wr.drew.frozen? ⟨b, q, none⟩ = false := hfb
          have hblk : b ≠ G := by have := hmat.ne k (by omega); rwa [if_pos rfl] at this
          have hblo : G ≤ b := by have := hmat.low k (by omega); rwa [if_pos rfl] at this
          have HRS : Hid (MatAt (wr.drew.setCell ⟨b, q, none⟩ (.int .u8 ((cf data D).toNat : Int))) G G n m (k + 1) (fun r => if r = k then b else bl r) (fun r j => if r = k then (if j < q + 1 then dlA data n k j else 0) else dlA data n r j)) := by
            have h1 := (hmat.next ((Below.refl _ _).drew)).put (r := k) (by omega) hqt (cf data D)
            rw [if_pos rfl] at h1
            refine h1.congr fun r j hr hj => ?_
            by_cases hrk : r = k
            · subst hrk
              by_cases hjq : j = q
              · subst hjq; rw [if_pos ⟨rfl, rfl⟩, if_pos rfl, if_pos (by omega), HX.out]
              · rw [if_neg (fun h => hjq h.2), if_pos rfl, if_pos rfl]
                by_cases h2 : j < q
                · rw [if_pos h2, if_pos (by omega)]
                · rw [if_neg h2, if_neg (by omega)]
            · rw [if_neg (fun h => hrk h.1), if_neg hrk, if_neg hrk]
          have HBS : Hid (Below G w (wr.drew.setCell ⟨b, q, none⟩ (.int .u8 ((cf data D).toNat : Int)))) := (hbel.drew).setCell (p := ⟨b, q, none⟩) hblo _
          generalize cf data D = X at *
          clear hmat hbel hcd hM hD hDe hc0
          go_wp2_with fail
          refine wp_region_seg [0, 0, 0, 0, 0, 0, 0, 0, 0, 0, 0, 0, 0, 0, 99] 0 14 [G, gd] (by kernel_rfl) (by kernel_rfl) (by kernel_rfl) (by kernel_rfl) (by kernel_rfl) (by kernel_rfl) (by kernel_rfl) (by kernel_rfl) (fun _ _ _ _ _ h => h) ?_
          simp only [SegW, pk, Nat.reduceMul, Nat.reduceBEq, cond_true, cond_false]
          repeat (go_big_quiet_step (fail))
          refine wpQuiet_nil ?_
          go_wp2_with fail
          go_roundw
          case rel => exact ⟨q + 1, by omega, by go_num, HRS.out, HBS.out⟩
          case measure => simp [intOf]; omega
        · obtain rfl : q = m := by omega
          have HMW := hidD hmat
          have HBW := hidD hbel
          have HNX : Hid (MatAt wr G G n q (k + 1) (fun r => if r = k then b else bl r) (dlA data n)) := hmat.congr fun r j hr hj => by
            by_cases hrk : r = k
            · subst hrk; rw [if_pos rfl, if_pos hj]
            · rw [if_neg hrk]
          clear hmat hbel
          go_wp2_with fail
          go_roundw
          case rel => exact ⟨k + 1, _, by omega, by go_num, HNX.out, HBW.out⟩
          case measure => simp [intOf]; omega
    · obtain rfl : k = n := by omega
      have HMW := hidD hmat
      have HBW := hidD hbel
      clear hmat hbel
      go_wp2_with fail
      refine bodyPost_ret (v := .tuple #[.slice (some ⟨G, 0, none⟩) k k, .int .i64 0]) (by simp [results, Try.results28, go_sem]) rfl ?_
      exact ⟨G, bl, rfl, by rw [HG.out]; exact HMW.out, by rw [HG.out]; exact HBW.out⟩
end Go.Proofs.Ytdpkeffkpecmjaa
