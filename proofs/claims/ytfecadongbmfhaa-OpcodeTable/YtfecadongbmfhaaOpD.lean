/- What the statements' live and the program's Mnemonics answer. -/
import Derived.Test.YtfecadongbmfhaaOpB
import Derived.Test.YtfecadongbmfhaaOpC
import Derived.Deep.OwnRows
namespace Go.Proofs.Ytfecadongbmfhaa
open Go.RowKit
set_option linter.unusedVariables false

theorem live_f : fiS [83, 84, 88] = 49 := by decide +kernel
theorem live_c : coS 49 5 = 150 := by decide +kernel
theorem live_h : haS [76, 68, 65] 7 79 = (32, 0) := by decide +kernel
set_option maxRecDepth 100000 in
set_option maxHeartbeats 1600000 in
theorem live_any (w : World) : Calls Try.prog 13 #[] w fun e w' => e = .returned (.bool true) ∧ Below w.heap.size w w' := by
  have HO : Hid (∀ w, Calls Try.prog 14 #[.int .u8 169] w fun e w' => e = .returned (.tuple #[.string ⟨#[76, 68, 65]⟩, .int .i64 2, .bool true]) ∧ Below w.heap.size w w') := fun w => of_any 169 (by decide) w
  have HC : Hid (∀ w, Calls Try.prog 20 #[.string ⟨#[83, 84, 88]⟩, .int .i64 5] w fun e w' => e = .returned (.tuple #[.int .u8 150, .bool true]) ∧ Below w.heap.size w w') := fun w => by
    have h := code_any [83, 84, 88] (by decide) 5 w
    rw [live_f, show coV 49 5 = .tuple #[.int .u8 150, .bool true] from by unfold coV; rw [live_c]; rfl] at h
    exact h
  have HY : Hid (∀ w, Calls Try.prog 16 #[.int .u8 189] w fun e w' => e = .returned (.tuple #[.int .i64 4, .int .i64 1, .bool true]) ∧ Below w.heap.size w w') := fun w => cycles_any 189 (by decide) w
  have HH : Hid (∀ w, Calls Try.prog 31 #[.string ⟨#[76, 68, 65]⟩, .int .i64 7, .int .i64 79] w fun e w' => e = .returned (.tuple #[.int .i64 32, .int .i64 0]) ∧ Below w.heap.size w w') := fun w => by
    have h := hash_any [76, 68, 65] (by decide) 7 79 w
    rw [live_h] at h
    exact h
  have HN : Hid (∀ w, Calls Try.prog 34 #[.int .i64 0] w fun e w' => e = .returned (.int .i64 0) ∧ w' = w) := fun w => no_any 0 w
  go_enter Try.func13, Try.ntmps13
  go_wp2_with (first | (go_at_call 34; refine (HN.out _).mono ?_; rintro e w5 ⟨rfl, rfl⟩) | (go_at_call 31; refine (HH.out _).mono ?_; rintro e w4 ⟨rfl, hb4⟩) | (go_at_call 16; refine (HY.out _).mono ?_; rintro e w3 ⟨rfl, hb3⟩) | (go_at_call 20; refine (HC.out _).mono ?_; rintro e w2 ⟨rfl, hb2⟩) | (go_at_call 14; refine (HO.out _).mono ?_; rintro e w1 ⟨rfl, hb1⟩))
  go_ret
  exact ⟨rfl, Below.next (Below.next (Below.next hb1 hb2) hb3) hb4⟩

/- a row of texts -/
def txC (n : Nat) (f : Nat → ByteArray) : Array Value := ((List.range n).map fun i => Value.string (f i)).toArray
theorem txC_get (n : Nat) (f : Nat → ByteArray) (i : Nat) (h : i < n) : (txC n f)[i]? = some (.string (f i)) := by
  unfold txC
  rw [List.getElem?_toArray, List.getElem?_map, List.getElem?_range h]; rfl
theorem txC_size (n : Nat) (f : Nat → ByteArray) : (txC n f).size = n := by simp [txC]
theorem txC_congr {n : Nat} {f g : Nat → ByteArray} (h : ∀ i, i < n → f i = g i) : txC n f = txC n g := by
  apply Array.ext_getElem?
  intro i
  by_cases hi : i < n
  · rw [txC_get n f i hi, txC_get n g i hi, h i hi]
  · rw [Array.getElem?_eq_none (by rw [txC_size]; omega), Array.getElem?_eq_none (by rw [txC_size]; omega)]
theorem txC_set (n : Nat) (f : Nat → ByteArray) (j : Nat) (v : ByteArray) (h : j < n) : (txC n f).setIfInBounds j (.string v) = txC n (fun i => if i = j then v else f i) := by
  apply Array.ext_getElem?
  intro i
  rw [Array.getElem?_setIfInBounds]
  by_cases hi : i < n
  · rw [txC_size]
    by_cases he : j = i
    · subst he; rw [if_pos rfl, if_pos h, txC_get n _ j h, if_pos rfl]
    · rw [if_neg he, txC_get n f i hi, txC_get n _ i hi, if_neg (fun h => he h.symm)]
  · have h1 : ∀ f, (txC n f)[i]? = none := fun f => Array.getElem?_eq_none (by rw [txC_size]; omega)
    rw [if_neg (by omega), h1, h1]
def RowT (w : World) (g n : Nat) (f : Nat → ByteArray) : Prop := w.heap[g]? = some (.cells (txC n f) (9 : TypeId) (0, 0))
theorem RowT.lt {w : World} {g n : Nat} {f : Nat → ByteArray} (h : RowT w g n f) : g < w.heap.size := row_lt h
theorem RowT.cell {w : World} {g n : Nat} {f : Nat → ByteArray} (h : RowT w g n f) {k : Nat} (hk : k < n) : w.cell? ⟨g, k, none⟩ = some (.string (f k)) := by
  rw [cell_of_row _ _ _ _ _ _ h]; exact txC_get n f k hk
theorem RowT.frozen {w : World} {g n : Nat} {f : Nat → ByteArray} (h : RowT w g n f) (k : Nat) : w.frozen? ⟨g, k, none⟩ = false := frozen_of_row _ _ _ _ _ h
theorem RowT.set {w : World} {g n : Nat} {f : Nat → ByteArray} (h : RowT w g n f) {k : Nat} (hk : k < n) (v : ByteArray) : RowT (w.setCell ⟨g, k, none⟩ (.string v)) g n (fun i => if i = k then v else f i) := by
  unfold RowT; rw [← txC_set n f k v hk, heap_setCell_same w g k _ _ _ h]
theorem RowT.next {w w' : World} {g n : Nat} {f : Nat → ByteArray} (h : RowT w g n f) (hb : Below w.heap.size w w') : RowT w' g n f := (hb.block g h.lt).trans h
theorem RowT.congr {w : World} {g n : Nat} {f f' : Nat → ByteArray} (h : RowT w g n f) (he : ∀ i, i < n → f i = f' i) : RowT w g n f' := by
  unfold RowT; rw [← txC_congr he]; exact h
/- the names, k of them laid -/
def mnF (k i : Nat) : ByteArray := if i < k then bA (nmS (i + 1)) else ⟨#[]⟩
theorem mn_made : madeCells #[(.string ⟨#[]⟩ : Value)] 56 = txC 56 (mnF 0) := by kernel_rfl
theorem Try.info9 : (Try.prog.info? 9).map (fun i => (i.zero, i.size, i.bytes)) = some (some (.string ⟨#[]⟩), 1, 16) := by kernel_rfl
theorem make_names (w : World) : (Instr.makeSlice 37 (.int .i64 56) (.int .i64 56)).run Try.prog w = .ok (.slice (some ⟨w.heap.size, 0, none⟩) 56 56) (w.alloc (.cells (txC 56 (mnF 0)) 9)) := by
  rw [← mn_made]
  exact run_make_row' 37 9 (.string ⟨#[]⟩) 16 Try.underlying37 Try.info9 rfl .i64 .i64 56 (by decide) (by decide) w
set_option maxRecDepth 100000 in
set_option maxHeartbeats 800000 in
theorem mnemonics_any (w : World) : Calls Try.prog 22 #[] w fun e w' => ∃ g, e = .returned (.slice (some ⟨g, 0, none⟩) 56 56) ∧ w.heap.size ≤ g ∧ RowT w' g 56 (mnF 56) ∧ Below w.heap.size w w' := by
  have HN : Hid (∀ k : Nat, k ≤ 56 → ∀ w, Calls Try.prog 41 #[.int .i64 (k : Int)] w fun e w' => e = .returned (.string (bA (nmS k))) ∧ w' = w) := fun k hk w => nameOf_any k hk w
  have hmk := make_names
  have HR : Hid (RowT (w.alloc (.cells (txC 56 (mnF 0)) 9)) w.heap.size 56 (mnF 0)) := heap_alloc_last _ _
  have HL : Hid (Below w.heap.size w (w.alloc (.cells (txC 56 (mnF 0)) 9))) := (Below.refl _ _).alloc (Nat.le_refl _) _
  generalize txC 56 (mnF 0) = C0 at *
  go_enter Try.func22, Try.ntmps22
  go_wp2_with fail
  clear hmk
  generalize w.alloc (.cells C0 9) = W0 at *
  go_loopw [2, 6] (fun _ i wr => ∃ k : Nat, k ≤ 56 ∧ i = .int .i64 k ∧ RowT wr w.heap.size 56 (mnF k) ∧ Below w.heap.size w wr) (fun _ i _ => 56 - (intOf i).toNat)
  case atStart => exact ⟨0, Nat.zero_le _, rfl, HR.out, HL.out⟩
  case round =>
    obtain ⟨k, hk, rfl, hrow, hbel⟩ := hrel
    have HRW := hidD hrow
    have HBL := hidD hbel
    clear hrow hbel HR HL
    by_cases hlt : k < 56
    · have hlti : (k : Int) < 56 := by omega
      have HN1 := hidD (HN.out (k + 1) (by omega))
      have he : (k : Int) + 1 = ((k + 1 : Nat) : Int) := by omega
      have c1 := HRW.out.cell hlt
      have c2 := HRW.out.frozen k
      have HS : Hid (∀ i, i < 56 → (if i = k then bA (nmS (k + 1)) else mnF k i) = mnF (k + 1) i) := fun i _ => by
        unfold mnF
        by_cases h : i = k
        · subst h; rw [if_pos rfl, if_pos (by omega)]
        · rw [if_neg h]
          by_cases h2 : i < k
          · rw [if_pos h2, if_pos (by omega)]
          · rw [if_neg h2, if_neg (by omega)]
      clear HN
      generalize bA (nmS (k + 1)) = NM at *
      have hK : k + 1 ≤ 56 := by omega
      generalize hKK : k + 1 = K at *
      go_wp2_with (go_at_call 41; refine (HN1.out _).mono ?_; rintro e w1 ⟨rfl, rfl⟩)
      go_roundw
      case rel =>
        subst hKK
        refine ⟨k + 1, by omega, by go_num, (HRW.out.set hlt _).congr HS.out, below_setCell HBL.out (Nat.le_refl _) _ _⟩
      case measure => simp [intOf]; omega
    · obtain rfl : k = 56 := by omega
      clear HN
      go_wp2_with fail
      go_ret
      exact ⟨_, rfl, Nat.le_refl _, HRW.out, HBL.out⟩
end Go.Proofs.Ytfecadongbmfhaa
