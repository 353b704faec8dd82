/- What byHash and find answer. -/
import Derived.Test.YtfecadongbmfhaaOp7
import Derived.Deep.WholeRow
import Derived.Laws.Alloc2
namespace Go.Proofs.Ytfecadongbmfhaa
open Go.RowKit
set_option linter.unusedVariables false

/- which mnemonic has a hash, k of them looked at -/
def bhN : Nat → Nat → Nat
  | 0, _ => 0
  | k + 1, i => if i = hsS (nmS (k + 1)) 7 79 then k + 1 else bhN k i
def bhTo (k : Nat) (i : Nat) : Int := (bhN k i : Int)
theorem bh_le : ∀ k i, bhN k i ≤ k
  | 0, _ => Nat.le_refl _
  | k + 1, i => by
    rw [bhN]
    split
    · omega
    · have := bh_le k i; omega
theorem nm_cap : ∀ k ≤ 56, 0 < k → Cap (nmS k) := by decide +kernel
theorem nm_hash : ∀ k ≤ 56, 0 < k → bhN 56 (hsS (nmS k) 7 79) = k := by decide +kernel
theorem hs_lt (s : List UInt8) (p q : Nat) : hsS s p q < 256 := Nat.mod_lt _ (by decide)
/- the mnemonic of a text, 0 of none -/
def fiS (s : List UInt8) : Nat := if Cap s ∧ nmS (bhN 56 (hsS s 7 79)) = s then bhN 56 (hsS s 7 79) else 0
theorem fi_le (s : List UInt8) : fiS s ≤ 56 := by unfold fiS; have := bh_le 56 (hsS s 7 79); split <;> omega
theorem fi_name {s : List UInt8} (h : fiS s ≠ 0) : nmS (fiS s) = s := by
  unfold fiS at *
  split at h
  · rename_i hc; rw [if_pos hc]; exact hc.2
  · exact absurd rfl h
theorem fi_of (k : Nat) (hk : k ≤ 56) (h0 : 0 < k) : fiS (nmS k) = k := by
  unfold fiS
  rw [nm_hash k hk h0, if_pos ⟨nm_cap k hk h0, rfl⟩]
theorem fi_nil : fiS [] = 0 := by decide +kernel
theorem fi_none {s : List UInt8} (h : fiS s = 0) (k : Nat) (hk : k ≤ 56) (h0 : 0 < k) : nmS k ≠ s := fun he => by
  have := fi_of k hk h0
  rw [he, h] at this
  omega

theorem Try.zero256 : (Try.prog.info? 60).map (fun i => (i.zero, i.size)) = some (some (.agg (rowZ .u8 256 (bhTo 0))), 256) := by kernel_rfl
set_option maxRecDepth 100000 in
set_option maxHeartbeats 800000 in
theorem byHash_any (w : World) : Calls Try.prog 38 #[] w fun e w' => e = .returned (.agg (rowZ .u8 256 (bhTo 56))) ∧ Below w.heap.size w w' := by
  have HN : Hid (∀ k : Nat, k ≤ 56 → ∀ w, Calls Try.prog 41 #[.int .i64 (k : Int)] w fun e w' => e = .returned (.string ⟨(nmS k).toArray⟩) ∧ w' = w) := fun k hk w => nameOf_any k hk w
  have HH : Hid (∀ k : Nat, 0 < k → k ≤ 56 → ∀ w, Calls Try.prog 54 #[.string ⟨(nmS k).toArray⟩, .int .i64 7, .int .i64 79] w fun e w' => e = .returned (.int .i64 (hsS (nmS k) 7 79 : Int)) ∧ Below w.heap.size w w') := fun k h0 hk w => hashOf_any _ (nm_cap k hk h0) 7 79 (by decide) (by decide) w
  obtain ⟨hz, hsz⟩ := zero_of_info Try.zero256
  have HI : Hid ((Try.prog.info? 60).map (·.size) = some (rowZ .u8 256 (bhTo 56)).size) := by rw [rowZ_size]; exact hsz
  clear hsz
  obtain ⟨hA, hB, hL, _⟩ := two_blocks w (rowZ .u8 256 (bhTo 0)) (rowZ .u8 256 (bhTo 0)) (60 : TypeId)
  have HA := hidD hA
  have HB := hidD hB
  have HL := hidD hL
  clear hA hB hL
  have HU : Hid (Try.prog.underlying 60 = some (.array 256 5)) := by show _ = _; kernel_rfl
  have HZ0 : Hid ((rowZ .u8 256 (bhTo 0)).size = 256) := rowZ_size _ _ _
  have HZ1 : Hid ((rowZ .u8 256 (bhTo 56)).size = 256) := rowZ_size _ _ _
  generalize hR0 : rowZ .u8 256 (bhTo 0) = R0 at *
  go_enter Try.func38, Try.ntmps38
  go_wp2_with fail
  generalize (w.alloc (.cells R0 (60 : TypeId))).alloc (.cells R0 (60 : TypeId)) = W0 at *
  go_loopw [2] (fun i wr => ∃ k : Nat, k ≤ 56 ∧ i = .int .i64 ((k + 1 : Nat) : Int) ∧ RowZ wr (w.heap.size + 1) .u8 256 (60 : TypeId) (bhTo k) ∧ wr.heap[w.heap.size]? = some (.cells R0 (60 : TypeId) (0, 0)) ∧ Below w.heap.size w wr) (fun i _ => 57 - (intOf i).toNat)
  case atStart => exact ⟨0, Nat.zero_le _, rfl, by unfold RowZ; rw [hR0]; exact HB.out, HA.out, HL.out⟩
  case round =>
    obtain ⟨k, hk, rfl, hrow, hold, hbel⟩ := hrel
    have HO := hidD hold
    have HLb := hidD hbel
    clear hold hbel HA HB HL hR0
    by_cases hlt : k < 56
    · have hlti : ((k + 1 : Nat) : Int) ≤ 56 := by omega
      have HN1 := hidD (HN.out (k + 1) (by omega))
      have HH1 := hidD (HH.out (k + 1) (by omega) (by omega))
      have hh := hs_lt (nmS (k + 1)) 7 79
      have HS : Hid (∀ i, i < 256 → (if i = hsS (nmS (k + 1)) 7 79 then ((k + 1 : Nat) : Int) else bhTo k i) = bhTo (k + 1) i) := fun i _ => by
        unfold bhTo
        rw [bhN]
        split <;> rfl
      clear HN HH
      generalize nmS (k + 1) = NM at *
      generalize hsS NM 7 79 = H at *
      have hK : k + 1 ≤ 56 := by omega
      have HK : Hid (∃ K : Nat, K = k + 1) := ⟨_, rfl⟩
      have hrow' := hidD hrow
      clear hrow
      generalize hKK : k + 1 = K at *
      have hHi : (H : Int) < 256 := by omega
      have hc : ∀ w2 : World, Below wr.heap.size wr w2 → w2.cell? ⟨w.heap.size + 1, H, none⟩ = some (.int .u8 (bhTo k H)) := fun w2 hb => (hrow'.out.next hb).cell hh
      have hf : ∀ w2 : World, Below wr.heap.size wr w2 → w2.frozen? ⟨w.heap.size + 1, H, none⟩ = false := fun w2 hb => (hrow'.out.next hb).frozen H
      have HC := hidD hc
      have HF := hidD hf
      clear hc hf
      go_wp2_with (first | (go_at_call 54; refine (HH1.out _).mono ?_; rintro e w2 ⟨rfl, hb2⟩; have c1 := HC.out _ hb2; have c2 := HF.out _ hb2) | (go_at_call 41; refine (HN1.out _).mono ?_; rintro e w1 ⟨rfl, rfl⟩))
      go_roundw
      case rel =>
        subst hKK
        refine ⟨k + 1, by omega, by go_num, ((hrow'.out.next hb2).set hh _).congr HS.out, ?_, ?_⟩
        · rw [heap_setCell_other _ _ _ _ (by simp), hb2.block _ (row_lt HO.out)]; exact HO.out
        · exact below_setCell (Below.next HLb.out hb2) (by omega) _ _
      case measure => simp [intOf]; omega
    · obtain rfl : k = 56 := by omega
      clear HN HH
      have HRW : Hid (wr.heap[w.heap.size + 1]? = some (.cells (rowZ .u8 256 (bhTo 56)) (60 : TypeId) (0, 0))) := hrow
      have HON := hidD (rowZ_one .u8 256 (bhTo 56))
      clear hrow
      generalize hR1 : rowZ .u8 256 (bhTo 56) = R1 at *
      have HR1 := hidD hR1
      clear hR1
      go_wp2_with (first | (refine wpList_load_row rfl 60 _ rfl (w.heap.size + 1) rfl 60 R1 (0, 0) _ HRW.out HU.out rfl HI.out ?_) | (refine wpList_store_row rfl 60 _ _ rfl w.heap.size R1 rfl rfl 60 R0 HO.out HI.out (HZ0.out.trans HZ1.out.symm) HON.out ?_))
      refine bodyPost_ret (results_cell_row (P := Try.prog) (p := 0) (ty := 60) (by kernel_rfl) _ _ w.heap.size 60 R1 (0, 0) _ rfl (setRow_heap _ _ _ _ _ _ HO.out) HU.out rfl HI.out) rfl ?_
      exact ⟨by rw [HR1.out], below_setRow HLb.out (Nat.le_refl _) _⟩

theorem Try.infoB : (Try.prog.info? 5).map (fun i => (i.zero, i.size, i.bytes)) = some (some (.int .u8 0), 1, 1) := by kernel_rfl
theorem index_256 (C : Array Value) (k : Nat) (u : Value) (hk : k < 256) (h : C[k]? = some u) (w : World) : (Instr.index 60 (.agg C) (.int .i64 (k : Int))).run Try.prog w = .ok u w := by
  have hu : Try.prog.underlying 60 = some (.array 256 5) := by kernel_rfl
  have hpk : Try.prog.plainKey 5 = true := by kernel_rfl
  have hc : Try.prog.cellsOf 5 = 1 := by kernel_rfl
  obtain ⟨i0, hi, _⟩ := info_parts Try.infoB
  have hn : (0 : Int) ≤ (k : Int) ∧ (k : Int) < ((256 : Nat) : Int) := by omega
  have hp := run_part_plain (P := Try.prog) (w := w) hpk (xs := C) (off := k) (v := u) h
  simp only [Instr.index, asIntOf, Sem.run_bind, Sem.run_pure, Result.andThen_ok, run_underlying hu, if_pos hn, run_sizeOf w hi, hc, Nat.mul_one, Int.toNat_natCast, hp]
def bA (s : List UInt8) : ByteArray := ⟨s.toArray⟩
theorem bA_list (s : List UInt8) : (bA s).toList = s := ba_list s
set_option maxRecDepth 100000 in
set_option maxHeartbeats 800000 in
theorem find_any (s : List UInt8) (hs : s.length ≤ 140737488355328) (w : World) : Calls Try.prog 48 #[.string ⟨s.toArray⟩] w fun e w' => e = .returned (.int .i64 (fiS s : Int)) ∧ Below w.heap.size w w' := by
  have HH : Hid (∀ w, Calls Try.prog 31 #[.string ⟨s.toArray⟩, .int .i64 7, .int .i64 79] w fun e w' => e = .returned (.tuple #[.int .i64 ((haS s 7 79).1 : Int), .int .i64 ((haS s 7 79).2 : Int)]) ∧ Below w.heap.size w w') := fun w => hash_any s hs 7 79 w
  have HB : Hid (∀ w, Calls Try.prog 38 #[] w fun e w' => e = .returned (.agg (rowZ .u8 256 (bhTo 56))) ∧ Below w.heap.size w w') := fun w => byHash_any w
  by_cases hc : Cap s
  · have hha : haS s 7 79 = (hsS s 7 79, 0) := if_pos ⟨hc, rfl, rfl⟩
    rw [hha] at HH
    have hlt := hs_lt s 7 79
    have hle := bh_le 56 (hsS s 7 79)
    have hix := index_256 (rowZ .u8 256 (bhTo 56)) (hsS s 7 79) _ hlt (rowZ_get .u8 256 (bhTo 56) _ hlt)
    have HM : Hid (∀ w, Calls Try.prog 41 #[.int .i64 (bhN 56 (hsS s 7 79) : Int)] w fun e w' => e = .returned (.string ⟨(nmS (bhN 56 (hsS s 7 79))).toArray⟩) ∧ w' = w) := fun w => nameOf_any _ hle w
    have HF : Hid (fiS s = if nmS (bhN 56 (hsS s 7 79)) = s then bhN 56 (hsS s 7 79) else 0) := by
      show _ = _
      unfold fiS
      by_cases h : nmS (bhN 56 (hsS s 7 79)) = s
      · rw [if_pos ⟨hc, h⟩, if_pos h]
      · rw [if_neg (fun h2 => h h2.2), if_neg h]
    unfold bhTo at hix
    change Hid (∀ w, Calls Try.prog 31 #[.string (bA s), .int .i64 7, .int .i64 79] w _) at HH
    change Hid (∀ w, Calls Try.prog 41 #[.int .i64 (bhN 56 (hsS s 7 79) : Int)] w (fun e w' => e = .returned (.string (bA (nmS (bhN 56 (hsS s 7 79))))) ∧ w' = w)) at HM
    have hl1 := bA_list s
    have hl2 := bA_list (nmS (bhN 56 (hsS s 7 79)))
    change Calls Try.prog 48 #[.string (bA s)] w _
    have HB' : Hid (∀ w, Calls Try.prog 38 #[] w fun e w' => e = .returned (.agg (rowZ .u8 256 (fun i => (bhN 56 i : Int)))) ∧ Below w.heap.size w w') := HB
    clear HB hha
    generalize rowZ .u8 256 (fun i => (bhN 56 i : Int)) = R1 at *
    generalize fiS s = F at *
    generalize bhN 56 (hsS s 7 79) = M at *
    generalize hsS s 7 79 = X at *
    by_cases hE : nmS M = s
    · have hF := HF.out
      rw [if_pos hE] at hF
      subst hF
      subst hE
      generalize bA (nmS F) = N at *
      go_enter Try.func48, Try.ntmps48
      go_wp2_with (first | (go_at_call 41; refine (HM.out _).mono ?_; rintro e w3 ⟨rfl, rfl⟩) | (go_at_call 38; refine (HB'.out _).mono ?_; rintro e w2 ⟨rfl, hb2⟩) | (go_at_call 31; refine (HH.out _).mono ?_; rintro e w1 ⟨rfl, hb1⟩))
      go_ret
      exact ⟨rfl, Below.next hb1 hb2⟩
    · have hF := HF.out
      rw [if_neg hE] at hF
      subst hF
      have hne : ((bA (nmS M)).toList == (bA s).toList) = false := by rw [hl1, hl2]; exact beq_eq_false_iff_ne.2 hE
      clear hl1 hl2
      generalize bA (nmS M) = N at *
      generalize bA s = N2 at *
      go_enter Try.func48, Try.ntmps48
      go_wp2_with (first | (go_at_call 41; refine (HM.out _).mono ?_; rintro e w3 ⟨rfl, rfl⟩) | (go_at_call 38; refine (HB'.out _).mono ?_; rintro e w2 ⟨rfl, hb2⟩) | (go_at_call 31; refine (HH.out _).mono ?_; rintro e w1 ⟨rfl, hb1⟩))
      go_ret
      exact ⟨rfl, Below.next hb1 hb2⟩
  · have hha : haS s 7 79 = (0, 1) := if_neg (fun h => hc h.1)
    rw [hha] at HH
    have hF : fiS s = 0 := if_neg (fun h => hc h.1)
    rw [hF]
    clear hha hF
    go_enter Try.func48, Try.ntmps48
    go_wp2_with (go_at_call 31; refine (HH.out _).mono ?_; rintro e w1 ⟨rfl, hb1⟩)
    go_ret
    exact ⟨rfl, hb1⟩
end Go.Proofs.Ytfecadongbmfhaa
