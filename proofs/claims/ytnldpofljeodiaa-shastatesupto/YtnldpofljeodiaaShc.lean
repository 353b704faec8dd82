/- What bytes answers: the first bytes of the chain's words. -/
import Derived.Test.YtnldpofljeodiaaShb
import Derived.Test.YtnldpofljeodiaaCpy
namespace Go.Proofs.Ytnldpofljeodiaa
open Go.RowKit
set_option linter.unusedVariables false

theorem two_blocks2 (w : World) (A B : Array Value) (ta tb : TypeId) : ((w.alloc (.cells A ta)).alloc (.cells B tb)).heap[w.heap.size]? = some (.cells A ta (0, 0)) ∧ ((w.alloc (.cells A ta)).alloc (.cells B tb)).heap[w.heap.size + 1]? = some (.cells B tb (0, 0)) ∧ Below w.heap.size w ((w.alloc (.cells A ta)).alloc (.cells B tb)) ∧ ((w.alloc (.cells A ta)).alloc (.cells B tb)).heap.size = w.heap.size + 2 := by
  have sz : ∀ (w : World) o, (w.alloc o).heap.size = w.heap.size + 1 := fun w o => by simp
  refine ⟨?_, ?_, (((Below.refl _ _).alloc (Nat.le_refl _) _).alloc (by rw [sz]; omega) _), by rw [sz, sz]⟩
  · rw [Below.heap_alloc _ _ _ (by rw [sz]; omega)]; exact heap_alloc_last _ _
  · have := heap_alloc_last (w.alloc (.cells A ta)) (.cells B tb); rw [sz] at this; exact this
/- byte i of the words, of n bytes each -/
def cbS (n : Nat) (c : Nat → Nat) (i : Nat) : UInt8 := UInt8.ofNat (c (i / n) / 2 ^ (8 * (n - 1 - i % n)) % 256)
theorem cbS_nat (n : Nat) (c : Nat → Nat) (i : Nat) : (cbS n c i).toNat = c (i / n) / 2 ^ (8 * (n - 1 - i % n)) % 256 := by
  unfold cbS; rw [UInt8.toNat_ofNat']; exact Nat.mod_eq_of_lt (Nat.mod_lt _ (by omega))

set_option maxRecDepth 100000 in
set_option maxHeartbeats 1600000 in
theorem bytesW_any (c : Nat → Nat) (hcl : ∀ j, c j < 18446744073709551616) (size : Nat) (hs : size ≤ 64) (w : World) : Calls Try.prog 51 #[.agg (rowZ .u64 8 (fun j => (c j : Int))), .int .i64 (size : Int), .agg shW] w fun e w' => ∃ g, e = .returned (.slice (some ⟨g, 0, none⟩) size size) ∧ w.heap.size ≤ g ∧ RowZ w' g .u8 size 5 (fun i => ((cbS 8 c i).toNat : Int)) ∧ Below w.heap.size w w' := by
  obtain ⟨b1, b2, b3, b4⟩ := two_blocks2 w (rowZ .u64 8 (fun j => (c j : Int))) shW 90 96
  have W1 : Hid (RowZ ((w.alloc (.cells (rowZ .u64 8 (fun j => (c j : Int))) (90 : TypeId))).alloc (.cells shW (96 : TypeId))) w.heap.size .u64 8 90 (fun j => (c j : Int))) := b1
  have W2 := hidD b2
  have W3 := hidD b3
  have W4 := hidD b4
  clear b1 b2 b3 b4
  have HQ0 : Hid (shW[0]? = some (.int .i64 64)) := hidD rfl
  go_enter Try.func51, Try.ntmps51
  generalize shW = SH at *
  generalize hR8 : (rowZ .u64 8 fun j => (c j : Int)) = C8
  generalize hWA : (w.alloc (.cells (rowZ .u64 8 (fun j => (c j : Int))) (90 : TypeId))).alloc (.cells SH (96 : TypeId)) = WA at *
  rw [hR8] at hWA
  go_wp2_with (first
    | (at_make; refine wpList_makeB _ rfl _ _ rfl .i64 .i64 (size : Int) (size : Int) size rfl rfl rfl rfl (by omega) ?_; intro w1 hr1 hb1; have X1 := hidD (W1.out.next hb1); have X2 := hidD ((hb1.block _ (row_lt W2.out)).trans W2.out); have X7 := hidD hr1.out; have X4 : Hid (Below w.heap.size w w1) := Below.next W3.out hb1; have XL : Hid (w.heap.size + 1 < WA.heap.size) := row_lt W2.out; clear hr1 hb1; have c0 : w1.cell? ⟨w.heap.size + 1, 0, none⟩ = some (.int .i64 64) := by rw [cell_of_row _ _ _ _ _ _ X2.out]; exact HQ0.out))
  clear c0
  generalize hgs : WA.heap.size = gs at *
  clear hgs
  have X7' : Hid (RowZ w1 gs .u8 size 5 (fun j => (((if j < 0 then cbS 8 c j else 0 : UInt8)).toNat : Int))) := X7.out.congr fun j _ => by rw [if_neg (by omega)]; rfl
  go_loopw [18] (fun iv wr => ∃ i : Nat, i ≤ size ∧ iv = .int .i64 (i : Int) ∧ RowZ wr gs .u8 size 5 (fun j => (((if j < i then cbS 8 c j else 0 : UInt8)).toNat : Int)) ∧ But gs w1 wr) (fun iv _ => size - (intOf iv).toNat)
  case atStart => exact ⟨0, by omega, rfl, X7'.out, But.refl _ _⟩
  case round =>
    clear X7'
    obtain ⟨i, hi, rfl, hrow, hbut⟩ := hrel
    by_cases hlt : i < size
    · have hlti : (i : Int) < (size : Int) := by omega
      have hq : (i : Int) / 8 = ((i / 8 : Nat) : Int) := by omega
      have hqt : Int.tdiv (i : Int) 8 = ((i / 8 : Nat) : Int) := by rw [Int.tdiv_eq_ediv_of_nonneg (by omega)]; omega
      have hr : (i : Int) % 8 = ((i % 8 : Nat) : Int) := by omega
      have hrt : Int.tmod (i : Int) 8 = ((i % 8 : Nat) : Int) := by rw [Int.tmod_eq_emod_of_nonneg (by omega)]; omega
      have hb : (7 : Int) - ((i % 8 : Nat) : Int) = ((8 - 1 - i % 8 : Nat) : Int) := by omega
      have hb8 : ((8 - 1 - i % 8 : Nat) : Int) * 8 = ((8 * (8 - 1 - i % 8) : Nat) : Int) := by omega
      have hq8 : i / 8 < 8 := by omega
      have hbl : 8 * (8 - 1 - i % 8) ≤ 56 := by omega
      have hbl2 : 8 - 1 - i % 8 ≤ 7 := by omega
      have hc : wr.cell? ⟨w.heap.size, i / 8, none⟩ = some (.int .u64 (c (i / 8) : Int)) := ((hbut.rest _ (row_lt X1.out) (by have := XL.out; omega)).trans X1.out |> fun h => RowZ.cell (show RowZ wr w.heap.size .u64 8 90 (fun j => (c j : Int)) from h) hq8)
      have ht : wr.cell? ⟨gs, i, none⟩ = some (.int .u8 ((if i < i then cbS 8 c i else 0 : UInt8).toNat : Int)) := hrow.cell hlt
      have hf := hrow.frozen i
      have hv : (c (i / 8) : Int) / 2 ^ (8 * (8 - 1 - i % 8)) % 256 = ((cbS 8 c i).toNat : Int) := by rw [cbS_nat]; simp
      have HST : Hid (RowZ (wr.setCell ⟨gs, i, none⟩ (.int .u8 ((cbS 8 c i).toNat : Int))) gs .u8 size 5 (fun j => (((if j < i + 1 then cbS 8 c j else 0 : UInt8)).toNat : Int))) := (hrow.set hlt _).congr fun j hj => by
        by_cases h : j = i
        · subst h; rw [if_pos rfl, if_pos (by omega)]
        · rw [if_neg h]
          by_cases h2 : j < i
          · rw [if_pos h2, if_pos (by omega)]
          · rw [if_neg h2, if_neg (by omega)]
      have HSB : Hid (But gs w1 (wr.setCell ⟨gs, i, none⟩ (.int .u8 ((cbS 8 c i).toNat : Int)))) := hbut.put i _
      clear hrow hbut
      generalize ((cbS 8 c i).toNat : Int) = Z at *
      generalize c (i / 8) = CI at *
      generalize i / 8 = iq at *
      generalize hm8 : 8 * (8 - 1 - i % 8) = m8 at *
      clear hm8
      generalize hnb : 8 - 1 - i % 8 = nb at *
      clear hnb
      generalize i % 8 = ir at *
      go_wp2_with fail
      go_roundw
      case rel =>
        first
        | exact ⟨i + 1, by omega, by go_num, HST.out, HSB.out⟩
        | ((repeat apply Exists.intro); refine And.intro ?_ rfl; exact ⟨i + 1, by omega, by go_num, HST.out, HSB.out⟩)
      case measure => simp [intOf]; omega
    · obtain rfl : i = size := by omega
      have hlti : ¬ (i : Int) < (i : Int) := by omega
      have HF : Hid (RowZ wr gs .u8 i 5 (fun j => ((cbS 8 c j).toNat : Int))) := hrow.congr fun j hj => by rw [if_pos hj]
      have HBF : Hid (Below w.heap.size w wr) := X4.out.trans (hbut.bel.mono (by have := XL.out; omega))
      clear hrow hbut
      go_wp2_with fail
      go_ret
      exact ⟨gs, rfl, by have := XL.out; omega, HF.out, HBF.out⟩

set_option maxRecDepth 100000 in
set_option maxHeartbeats 1600000 in
theorem bytesN_any (c : Nat → Nat) (hcl : ∀ j, c j < 4294967296) (size : Nat) (hs : size ≤ 32) (w : World) : Calls Try.prog 53 #[.agg (rowZ .u32 8 (fun j => (c j : Int))), .int .i64 (size : Int), .agg shN] w fun e w' => ∃ g, e = .returned (.slice (some ⟨g, 0, none⟩) size size) ∧ w.heap.size ≤ g ∧ RowZ w' g .u8 size 5 (fun i => ((cbS 4 c i).toNat : Int)) ∧ Below w.heap.size w w' := by
  obtain ⟨b1, b2, b3, b4⟩ := two_blocks2 w (rowZ .u32 8 (fun j => (c j : Int))) shN 88 96
  have W1 : Hid (RowZ ((w.alloc (.cells (rowZ .u32 8 (fun j => (c j : Int))) (88 : TypeId))).alloc (.cells shN (96 : TypeId))) w.heap.size .u32 8 88 (fun j => (c j : Int))) := b1
  have W2 := hidD b2
  have W3 := hidD b3
  have W4 := hidD b4
  clear b1 b2 b3 b4
  have HQ0 : Hid (shN[0]? = some (.int .i64 32)) := hidD rfl
  go_enter Try.func53, Try.ntmps53
  generalize shN = SH at *
  generalize hR8 : (rowZ .u32 8 fun j => (c j : Int)) = C8
  generalize hWA : (w.alloc (.cells (rowZ .u32 8 (fun j => (c j : Int))) (88 : TypeId))).alloc (.cells SH (96 : TypeId)) = WA at *
  rw [hR8] at hWA
  go_wp2_with (first
    | (at_make; refine wpList_makeB _ rfl _ _ rfl .i64 .i64 (size : Int) (size : Int) size rfl rfl rfl rfl (by omega) ?_; intro w1 hr1 hb1; have X1 := hidD (W1.out.next hb1); have X2 := hidD ((hb1.block _ (row_lt W2.out)).trans W2.out); have X7 := hidD hr1.out; have X4 : Hid (Below w.heap.size w w1) := Below.next W3.out hb1; have XL : Hid (w.heap.size + 1 < WA.heap.size) := row_lt W2.out; clear hr1 hb1; have c0 : w1.cell? ⟨w.heap.size + 1, 0, none⟩ = some (.int .i64 32) := by rw [cell_of_row _ _ _ _ _ _ X2.out]; exact HQ0.out))
  clear c0
  generalize hgs : WA.heap.size = gs at *
  clear hgs
  have X7' : Hid (RowZ w1 gs .u8 size 5 (fun j => (((if j < 0 then cbS 4 c j else 0 : UInt8)).toNat : Int))) := X7.out.congr fun j _ => by rw [if_neg (by omega)]; rfl
  go_loopw [18] (fun iv wr => ∃ i : Nat, i ≤ size ∧ iv = .int .i64 (i : Int) ∧ RowZ wr gs .u8 size 5 (fun j => (((if j < i then cbS 4 c j else 0 : UInt8)).toNat : Int)) ∧ But gs w1 wr) (fun iv _ => size - (intOf iv).toNat)
  case atStart => exact ⟨0, by omega, rfl, X7'.out, But.refl _ _⟩
  case round =>
    clear X7'
    obtain ⟨i, hi, rfl, hrow, hbut⟩ := hrel
    by_cases hlt : i < size
    · have hlti : (i : Int) < (size : Int) := by omega
      have hq : (i : Int) / 4 = ((i / 4 : Nat) : Int) := by omega
      have hqt : Int.tdiv (i : Int) 4 = ((i / 4 : Nat) : Int) := by rw [Int.tdiv_eq_ediv_of_nonneg (by omega)]; omega
      have hr : (i : Int) % 4 = ((i % 4 : Nat) : Int) := by omega
      have hrt : Int.tmod (i : Int) 4 = ((i % 4 : Nat) : Int) := by rw [Int.tmod_eq_emod_of_nonneg (by omega)]; omega
      have hb : (3 : Int) - ((i % 4 : Nat) : Int) = ((4 - 1 - i % 4 : Nat) : Int) := by omega
      have hb8 : ((4 - 1 - i % 4 : Nat) : Int) * 8 = ((8 * (4 - 1 - i % 4) : Nat) : Int) := by omega
      have hq8 : i / 4 < 8 := by omega
      have hbl : 8 * (4 - 1 - i % 4) ≤ 24 := by omega
      have hbl2 : 4 - 1 - i % 4 ≤ 3 := by omega
      have hc : wr.cell? ⟨w.heap.size, i / 4, none⟩ = some (.int .u32 (c (i / 4) : Int)) := ((hbut.rest _ (row_lt X1.out) (by have := XL.out; omega)).trans X1.out |> fun h => RowZ.cell (show RowZ wr w.heap.size .u32 8 88 (fun j => (c j : Int)) from h) hq8)
      have ht : wr.cell? ⟨gs, i, none⟩ = some (.int .u8 ((if i < i then cbS 4 c i else 0 : UInt8).toNat : Int)) := hrow.cell hlt
      have hf := hrow.frozen i
      have hv : (c (i / 4) : Int) / 2 ^ (8 * (4 - 1 - i % 4)) % 256 = ((cbS 4 c i).toNat : Int) := by rw [cbS_nat]; simp
      have HST : Hid (RowZ (wr.setCell ⟨gs, i, none⟩ (.int .u8 ((cbS 4 c i).toNat : Int))) gs .u8 size 5 (fun j => (((if j < i + 1 then cbS 4 c j else 0 : UInt8)).toNat : Int))) := (hrow.set hlt _).congr fun j hj => by
        by_cases h : j = i
        · subst h; rw [if_pos rfl, if_pos (by omega)]
        · rw [if_neg h]
          by_cases h2 : j < i
          · rw [if_pos h2, if_pos (by omega)]
          · rw [if_neg h2, if_neg (by omega)]
      have HSB : Hid (But gs w1 (wr.setCell ⟨gs, i, none⟩ (.int .u8 ((cbS 4 c i).toNat : Int)))) := hbut.put i _
      clear hrow hbut
      generalize ((cbS 4 c i).toNat : Int) = Z at *
      generalize c (i / 4) = CI at *
      generalize i / 4 = iq at *
      generalize hm8 : 8 * (4 - 1 - i % 4) = m8 at *
      clear hm8
      generalize hnb : 4 - 1 - i % 4 = nb at *
      clear hnb
      generalize i % 4 = ir at *
      go_wp2_with fail
      go_roundw
      case rel =>
        first
        | exact ⟨i + 1, by omega, by go_num, HST.out, HSB.out⟩
        | ((repeat apply Exists.intro); refine And.intro ?_ rfl; exact ⟨i + 1, by omega, by go_num, HST.out, HSB.out⟩)
      case measure => simp [intOf]; omega
    · obtain rfl : i = size := by omega
      have hlti : ¬ (i : Int) < (i : Int) := by omega
      have HF : Hid (RowZ wr gs .u8 i 5 (fun j => ((cbS 4 c j).toNat : Int))) := hrow.congr fun j hj => by rw [if_pos hj]
      have HBF : Hid (Below w.heap.size w wr) := X4.out.trans (hbut.bel.mono (by have := XL.out; omega))
      clear hrow hbut
      go_wp2_with fail
      go_ret
      exact ⟨gs, rfl, by have := XL.out; omega, HF.out, HBF.out⟩
end Go.Proofs.Ytnldpofljeodiaa
