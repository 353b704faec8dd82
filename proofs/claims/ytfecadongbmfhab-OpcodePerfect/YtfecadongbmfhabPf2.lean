/- What the statement's apart answers; OpcodePerfect: the law's walk. -/
import Derived.Test.YtfecadongbmfhabPf1
import Derived.Test.YtfecadongbmfhabOpD
namespace Go.Proofs.Ytfecadongbmfhab
open Go.RowKit
set_option linter.unusedVariables false

/- a row of Bools -/
def boC (n : Nat) (f : Nat → Bool) : Array Value := ((List.range n).map fun i => Value.bool (f i)).toArray
theorem boC_get (n : Nat) (f : Nat → Bool) (i : Nat) (h : i < n) : (boC n f)[i]? = some (.bool (f i)) := by
  unfold boC
  rw [List.getElem?_toArray, List.getElem?_map, List.getElem?_range h]; rfl
theorem boC_size (n : Nat) (f : Nat → Bool) : (boC n f).size = n := by simp [boC]
theorem boC_congr {n : Nat} {f g : Nat → Bool} (h : ∀ i, i < n → f i = g i) : boC n f = boC n g := by
  apply Array.ext_getElem?
  intro i
  by_cases hi : i < n
  · rw [boC_get n f i hi, boC_get n g i hi, h i hi]
  · rw [Array.getElem?_eq_none (by rw [boC_size]; omega), Array.getElem?_eq_none (by rw [boC_size]; omega)]
theorem boC_set (n : Nat) (f : Nat → Bool) (j : Nat) (v : Bool) (h : j < n) : (boC n f).setIfInBounds j (.bool v) = boC n (fun i => if i = j then v else f i) := by
  apply Array.ext_getElem?
  intro i
  rw [Array.getElem?_setIfInBounds]
  by_cases hi : i < n
  · rw [boC_size]
    by_cases he : j = i
    · subst he; rw [if_pos rfl, if_pos h, boC_get n _ j h, if_pos rfl]
    · rw [if_neg he, boC_get n f i hi, boC_get n _ i hi, if_neg (fun h => he h.symm)]
  · have h1 : ∀ f, (boC n f)[i]? = none := fun f => Array.getElem?_eq_none (by rw [boC_size]; omega)
    rw [if_neg (by omega), h1, h1]
def RowO (w : World) (g : Nat) (f : Nat → Bool) : Prop := w.heap[g]? = some (.cells (boC 256 f) (43 : TypeId) (0, 0))
theorem RowO.lt {w : World} {g : Nat} {f : Nat → Bool} (h : RowO w g f) : g < w.heap.size := row_lt h
theorem RowO.cell {w : World} {g : Nat} {f : Nat → Bool} (h : RowO w g f) {k : Nat} (hk : k < 256) : w.cell? ⟨g, k, none⟩ = some (.bool (f k)) := by
  rw [cell_of_row _ _ _ _ _ _ h]; exact boC_get 256 f k hk
theorem RowO.frozen {w : World} {g : Nat} {f : Nat → Bool} (h : RowO w g f) (k : Nat) : w.frozen? ⟨g, k, none⟩ = false := frozen_of_row _ _ _ _ _ h
theorem RowO.set {w : World} {g : Nat} {f : Nat → Bool} (h : RowO w g f) {k : Nat} (hk : k < 256) (v : Bool) : RowO (w.setCell ⟨g, k, none⟩ (.bool v)) g (fun i => if i = k then v else f i) := by
  unfold RowO; rw [← boC_set 256 f k v hk, heap_setCell_same w g k _ _ _ h]
theorem RowO.next {w w' : World} {g : Nat} {f : Nat → Bool} (h : RowO w g f) (hb : Below w.heap.size w w') : RowO w' g f := (hb.block g h.lt).trans h
theorem RowO.congr {w : World} {g : Nat} {f f' : Nat → Bool} (h : RowO w g f) (he : ∀ i, i < 256 → f i = f' i) : RowO w g f' := by
  unfold RowO; rw [← boC_congr he]; exact h
theorem Try.zeroBo : (Try.prog.info? 43).map (fun i => (i.zero, i.size)) = some (some (.agg (boC 256 (seN 0 0 0))), 256) := by kernel_rfl
theorem RowT.other {w : World} {h g n : Nat} {f : Nat → ByteArray} (hr : RowT w h n f) (hne : h ≠ g) (k : Nat) (v : Value) : RowT (w.setCell ⟨g, k, none⟩ v) h n f := (heap_setCell_other w ⟨g, k, none⟩ h v hne).trans hr

set_option maxRecDepth 100000 in
set_option maxHeartbeats 1600000 in
theorem apart_any (p q : Nat) (hp : p < 256) (hq : q < 256) (w : World) : Calls Try.prog 7 #[.int .i64 (p : Int), .int .i64 (q : Int)] w fun e w' => e = .returned (.bool (decide (apP p q))) ∧ Below w.heap.size w w' := by
  have HM : Hid (∀ w, Calls Try.prog 15 #[] w fun e w' => ∃ g, e = .returned (.slice (some ⟨g, 0, none⟩) 56 56) ∧ w.heap.size ≤ g ∧ RowT w' g 56 (mnF 56) ∧ Below w.heap.size w w') := fun w => mnemonics_any w
  have HH : Hid (∀ k : Nat, k < 56 → ∀ w, Calls Try.prog 10 #[.string (bA (nmS (k + 1))), .int .i64 (p : Int), .int .i64 (q : Int)] w fun e w' => e = .returned (.tuple #[.int .i64 (hkS p q k : Int), .int .i64 0]) ∧ Below w.heap.size w w') := fun k hk w => by
    have h := hash_any (nmS (k + 1)) (by rw [nm_len _ (by omega) (by omega)]; decide) (p : Int) (q : Int) w
    rw [show haS (nmS (k + 1)) (p : Int) (q : Int) = (hkS p q k, 0) from if_pos ⟨nm_cap _ (by omega) (by omega), decide_eq_true ⟨by omega, by omega⟩, decide_eq_true ⟨by omega, by omega⟩⟩] at h
    exact h
  have HN : Hid (∀ w, Calls Try.prog 11 #[.int .i64 0] w fun e w' => e = .returned (.int .i64 0) ∧ w' = w) := fun w => no_any 0 w
  obtain ⟨A, hA, ha, hc⟩ := first_meet p q 56
  have HG := hidD ha
  have HA := hidD hc
  have HD : Hid (decide (apP p q) = decide (A = 56)) := by
    show _ = _
    by_cases h : A = 56
    · subst h; rw [decide_eq_true rfl, decide_eq_true (show apP p q from ha)]
    · rw [decide_eq_false h, decide_eq_false (show ¬ apP p q from fun h2 => by have := h2 A (by omega); rw [hc (by omega)] at this; cases this)]
  rw [HD.out]
  clear ha hc HD
  obtain ⟨hz, hsz⟩ := zero_of_info Try.zeroBo
  have HR : Hid (RowO (w.alloc (.cells (boC 256 (seN 0 0 0)) (43 : TypeId))) w.heap.size (seN p q 0)) := by
    have : RowO (w.alloc (.cells (boC 256 (seN 0 0 0)) (43 : TypeId))) w.heap.size (seN 0 0 0) := heap_alloc_last _ _
    exact this.congr (fun i _ => rfl)
  have HL : Hid (Below w.heap.size w (w.alloc (.cells (boC 256 (seN 0 0 0)) (43 : TypeId)))) := (Below.refl _ _).alloc (Nat.le_refl _) _
  have HS : Hid (w.heap.size < (w.alloc (.cells (boC 256 (seN 0 0 0)) (43 : TypeId))).heap.size) := by show _ < _; simp
  clear hsz
  generalize boC 256 (seN 0 0 0) = C0 at *
  go_enter Try.func7, Try.ntmps7
  go_wp2_with (go_at_call 15; refine (HM.out _).mono ?_; rintro e w1 ⟨g, rfl, hg, hrt, hb1⟩)
  have HRT := hidD hrt
  have HR1 := hidD (HR.out.next hb1)
  have HL1 := hidD (Below.next HL.out hb1)
  have HGN : Hid (w.heap.size ≠ g) := by have := HS.out; show _ ≠ _; omega
  clear hrt hb1 hg HR HL HS HM hz
  go_loopw [7, 8, 9] (fun i _ _ wr => ∃ k : Nat, k ≤ A ∧ i = .int .i64 k ∧ RowO wr w.heap.size (seN p q k) ∧ RowT wr g 56 (mnF 56) ∧ Below w.heap.size w wr) (fun i _ _ _ => 56 - (intOf i).toNat)
  case atStart => exact ⟨0, Nat.zero_le _, rfl, HR1.out, HRT.out, HL1.out⟩
  case round =>
    obtain ⟨k, hk, rfl, hro, hrt, hbel⟩ := hrel
    have HRO := hidD hro
    have HRW := hidD hrt
    have HBL := hidD hbel
    clear hro hrt hbel HR1 HRT HL1
    by_cases hlt : k < 56
    · have hlti : (k : Int) < 56 := by omega
      have c1 : wr.cell? ⟨g, k, none⟩ = some (.string (bA (nmS (k + 1)))) := by rw [HRW.out.cell hlt]; unfold mnF; rw [if_pos hlt]
      have HH1 := hidD (HH.out k hlt)
      have hx : hkS p q k < 256 := hs_lt _ _ _
      have hxi : (hkS p q k : Int) < 256 := by omega
      have hx1 : ¬ (hkS p q k : Int) < 0 := by omega
      have hx2 : ¬ (255 : Int) < (hkS p q k : Int) := by omega
      have hx3 : decide ((hkS p q k : Int) < 0) = false := decide_eq_false hx1
      have hx4 : decide ((255 : Int) < (hkS p q k : Int)) = false := decide_eq_false hx2
      have HSE : Hid (∀ i, i < 256 → (if i = hkS p q k then true else seN p q k i) = seN p q (k + 1) i) := fun i _ => by rw [seN]
      have HC : Hid (∀ w2 : World, Below wr.heap.size wr w2 → w2.cell? ⟨w.heap.size, hkS p q k, none⟩ = some (.bool (seN p q k (hkS p q k))) ∧ w2.frozen? ⟨w.heap.size, hkS p q k, none⟩ = false) := fun w2 hb => ⟨(HRO.out.next hb).cell hx, (HRO.out.next hb).frozen _⟩
      clear HH
      by_cases hkA : k < A
      · rw [HG.out k hkA] at HC
        generalize hkS p q k = X at *
        generalize bA (nmS (k + 1)) = NM at *
        go_wp2_with (first | (go_at_call 11; refine (HN.out _).mono ?_; rintro e w3 ⟨rfl, rfl⟩) | (go_at_call 10; refine (HH1.out _).mono ?_; rintro e w2 ⟨rfl, hb2⟩; obtain ⟨c2, c3⟩ := HC.out _ hb2; clear c1))
        go_roundw
        case rel =>
          refine ⟨k + 1, by omega, by go_num, ((HRO.out.next hb2).set hx _).congr HSE.out, (HRW.out.next hb2).other HGN.out.symm _ _, below_setCell (Below.next HBL.out hb2) (Nat.le_refl _) _ _⟩
        case measure => simp [intOf]; omega
      · obtain rfl : k = A := by omega
        rw [HA.out hlt] at HC
        have hne : ¬ k = 56 := by omega
        generalize hkS p q k = X at *
        generalize bA (nmS (k + 1)) = NM at *
        go_wp2_with (first | (go_at_call 11; refine (HN.out _).mono ?_; rintro e w3 ⟨rfl, rfl⟩) | (go_at_call 10; refine (HH1.out _).mono ?_; rintro e w2 ⟨rfl, hb2⟩; obtain ⟨c2, c3⟩ := HC.out _ hb2; clear c1))
        go_ret
        exact ⟨by first | rfl | (rw [decide_eq_false hne]; rfl), Below.next HBL.out hb2⟩
    · have HE : Hid (A = 56) := (show A = 56 by omega)
      have hk3 : ¬ (k : Int) < 56 := by omega
      clear HH
      go_wp2_with fail
      go_ret
      exact ⟨by first | rfl | (rw [decide_eq_true HE.out]; rfl), HBL.out⟩

set_option maxRecDepth 100000 in
set_option maxHeartbeats 1600000 in
theorem perfect_any (p q : Int) (w : World) : Calls Try.prog 3 #[.int .i64 p, .int .i64 q] w fun e w' => e = .returned (.bool true) ∧ Below w.heap.size w w' := by
  have HL : Hid (∀ w, Calls Try.prog 5 #[] w fun e w' => e = .returned (.bool true) ∧ Below w.heap.size w w') := fun w => live_any w
  have HP : Hid (∀ w, Calls Try.prog 6 #[] w fun e w' => e = .returned (.tuple #[.int .i64 7, .int .i64 79]) ∧ w' = w) := fun w => pair_any w
  have HA : Hid (∀ w, Calls Try.prog 7 #[.int .i64 7, .int .i64 79] w fun e w' => e = .returned (.bool true) ∧ Below w.heap.size w w') := fun w => by
    have h := apart_any 7 79 (by decide) (by decide) w
    rw [decide_eq_true ap_yes] at h
    exact h
  by_cases h1 : p < 0
  · have d1 : decide (p < 0) = true := decide_eq_true (by omega)
    go_enter Try.func3, Try.ntmps3
    go_wp2_with (first | (go_at_call 7; refine (HA.out _).mono ?_; rintro e w3 ⟨rfl, b3⟩) | (go_at_call 6; refine (HP.out _).mono ?_; rintro e w2 ⟨rfl, rfl⟩) | (go_at_call 5; refine (HL.out _).mono ?_; rintro e w1 ⟨rfl, b1⟩))
    go_ret
    exact ⟨rfl, Below.next b1 b3⟩
  by_cases h2 : 7 < p
  · have d1 : decide (p < 0) = false := decide_eq_false (by omega)
    have d2 : decide (7 < p) = true := decide_eq_true (by omega)
    go_enter Try.func3, Try.ntmps3
    go_wp2_with (first | (go_at_call 7; refine (HA.out _).mono ?_; rintro e w3 ⟨rfl, b3⟩) | (go_at_call 6; refine (HP.out _).mono ?_; rintro e w2 ⟨rfl, rfl⟩) | (go_at_call 5; refine (HL.out _).mono ?_; rintro e w1 ⟨rfl, b1⟩))
    go_ret
    exact ⟨rfl, Below.next b1 b3⟩
  by_cases h3 : q < 0
  · have d1 : decide (p < 0) = false := decide_eq_false (by omega)
    have d2 : decide (7 < p) = false := decide_eq_false (by omega)
    have d3 : decide (q < 0) = true := decide_eq_true (by omega)
    go_enter Try.func3, Try.ntmps3
    go_wp2_with (first | (go_at_call 7; refine (HA.out _).mono ?_; rintro e w3 ⟨rfl, b3⟩) | (go_at_call 6; refine (HP.out _).mono ?_; rintro e w2 ⟨rfl, rfl⟩) | (go_at_call 5; refine (HL.out _).mono ?_; rintro e w1 ⟨rfl, b1⟩))
    go_ret
    exact ⟨rfl, Below.next b1 b3⟩
  by_cases h4 : 255 < q
  · have d1 : decide (p < 0) = false := decide_eq_false (by omega)
    have d2 : decide (7 < p) = false := decide_eq_false (by omega)
    have d3 : decide (q < 0) = false := decide_eq_false (by omega)
    have d4 : decide (255 < q) = true := decide_eq_true (by omega)
    go_enter Try.func3, Try.ntmps3
    go_wp2_with (first | (go_at_call 7; refine (HA.out _).mono ?_; rintro e w3 ⟨rfl, b3⟩) | (go_at_call 6; refine (HP.out _).mono ?_; rintro e w2 ⟨rfl, rfl⟩) | (go_at_call 5; refine (HL.out _).mono ?_; rintro e w1 ⟨rfl, b1⟩))
    go_ret
    exact ⟨rfl, Below.next b1 b3⟩
  have HB : Hid (256 * p + q < 1871 → ∀ w, Calls Try.prog 7 #[.int .i64 p, .int .i64 q] w fun e w' => e = .returned (.bool false) ∧ Below w.heap.size w w') := fun hh w => by
    obtain ⟨p', rfl⟩ : ∃ n : Nat, p = n := ⟨p.toNat, by omega⟩
    obtain ⟨q', rfl⟩ : ∃ n : Nat, q = n := ⟨q.toNat, by omega⟩
    have h := apart_any p' q' (by omega) (by omega) w
    rw [decide_eq_false (ap_no p' q' (by omega) (by omega))] at h
    exact h
  by_cases h5 : p = 7
  · subst h5
    by_cases h6 : 79 ≤ q
    · have d3 : decide (q < 0) = false := decide_eq_false (by omega)
      have d4 : decide (255 < q) = false := decide_eq_false (by omega)
      have d6 : decide (79 ≤ q) = true := decide_eq_true (by omega)
      clear HB
      go_enter Try.func3, Try.ntmps3
      go_wp2_with (first | (go_at_call 7; refine (HA.out _).mono ?_; rintro e w3 ⟨rfl, b3⟩) | (go_at_call 6; refine (HP.out _).mono ?_; rintro e w2 ⟨rfl, rfl⟩) | (go_at_call 5; refine (HL.out _).mono ?_; rintro e w1 ⟨rfl, b1⟩))
      go_ret
      exact ⟨rfl, Below.next b1 b3⟩
    · have d3 : decide (q < 0) = false := decide_eq_false (by omega)
      have d4 : decide (255 < q) = false := decide_eq_false (by omega)
      have d6 : decide (79 ≤ q) = false := decide_eq_false (by omega)
      replace HB := hidD (HB.out (by omega))
      go_enter Try.func3, Try.ntmps3
      go_wp2_with (first | (go_at_call 7; refine (HA.out _).mono ?_; clear HA; rintro e w3 ⟨rfl, b3⟩) | (go_at_call 7; refine (HB.out _).mono ?_; rintro e w4 ⟨rfl, b4⟩) | (go_at_call 6; refine (HP.out _).mono ?_; rintro e w2 ⟨rfl, rfl⟩) | (go_at_call 5; refine (HL.out _).mono ?_; rintro e w1 ⟨rfl, b1⟩))
      go_ret
      exact ⟨rfl, Below.next (Below.next b1 b3) b4⟩
  · have d1 : decide (p < 0) = false := decide_eq_false (by omega)
    have d2 : decide (7 < p) = false := decide_eq_false (by omega)
    have d3 : decide (q < 0) = false := decide_eq_false (by omega)
    have d4 : decide (255 < q) = false := decide_eq_false (by omega)
    have d5 : (p == 7) = false := beq_eq_false_iff_ne.2 h5
    replace HB := hidD (HB.out (by omega))
    go_enter Try.func3, Try.ntmps3
    go_wp2_with (first | (go_at_call 7; refine (HA.out _).mono ?_; clear HA; rintro e w3 ⟨rfl, b3⟩) | (go_at_call 7; refine (HB.out _).mono ?_; rintro e w4 ⟨rfl, b4⟩) | (go_at_call 6; refine (HP.out _).mono ?_; rintro e w2 ⟨rfl, rfl⟩) | (go_at_call 5; refine (HL.out _).mono ?_; rintro e w1 ⟨rfl, b1⟩))
    go_ret
    exact ⟨rfl, Below.next (Below.next b1 b3) b4⟩
end Go.Proofs.Ytfecadongbmfhab
