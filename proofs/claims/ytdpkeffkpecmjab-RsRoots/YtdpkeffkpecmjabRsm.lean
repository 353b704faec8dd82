/- What arePlaces answers. -/
import Derived.Test.YtdpkeffkpecmjabRsl
namespace Go.Proofs.Ytdpkeffkpecmjab
open Go.RowKit
set_option linter.unusedVariables false

/-- A row of truths. -/
def rowB (n : Nat) (f : Nat → Bool) : Array Value := ((List.range n).map fun i => Value.bool (f i)).toArray
theorem rowB_get (n : Nat) (f : Nat → Bool) (i : Nat) (h : i < n) : (rowB n f)[i]? = some (.bool (f i)) := by
  simp [rowB, h]
theorem rowB_set (n : Nat) (f : Nat → Bool) (j : Nat) (b : Bool) (h : j < n) : (rowB n f).setIfInBounds j (.bool b) = rowB n (fun i => if i = j then b else f i) := by
  apply Array.ext_getElem?
  intro i
  rw [Array.getElem?_setIfInBounds]
  by_cases hi : i < n
  · rw [rowB_get n _ i hi, rowB_get n _ i hi]
    by_cases hj : j = i
    · subst hj; rw [if_pos rfl, if_pos (by simp [rowB, h]), if_pos rfl]
    · rw [if_neg hj, if_neg (fun h => hj h.symm)]
  · have h1 : (rowB n f)[i]? = none := Array.getElem?_eq_none (by simp [rowB]; omega)
    have h2 : (rowB n (fun i => if i = j then b else f i))[i]? = none := Array.getElem?_eq_none (by simp [rowB]; omega)
    rw [h1, h2, if_neg (by omega)]
theorem Try.zero74 : (Try.prog.info? 74).map (fun i => (i.zero, i.size)) = some (some (.agg (rowB 255 (fun _ => false))), 255) := by kernel_rfl
/-- Is the i-th a place, and none that stands ahead of it? -/
def okAt (L : List Int) (n i : Nat) : Bool := decide (0 ≤ L.getD i 0) && (decide (L.getD i 0 < n) && !(L.take i).contains (L.getD i 0))
/-- Are these places of a word of n bytes, each one once? -/
def areS (L : List Int) (n : Nat) : Bool := (List.range L.length).all (okAt L n)
theorem are_true {L : List Int} {n : Nat} (h : ∀ i, i < L.length → okAt L n i = true) : areS L n = true := by
  rw [areS, List.all_eq_true]
  intro i hi
  exact h i (List.mem_range.1 hi)
theorem are_false {L : List Int} {n i : Nat} (hi : i < L.length) (h : okAt L n i = false) : areS L n = false := by
  cases ha : areS L n with
  | false => rfl
  | true =>
    rw [areS, List.all_eq_true] at ha
    have := ha i (List.mem_range.2 hi)
    rw [h] at this; cases this
/-- The truths after k of them. -/
def seenC (L : List Int) (k : Nat) : Array Value := rowB 255 fun j => (L.take k).contains (j : Int)
theorem seen_zero (L : List Int) : seenC L 0 = rowB 255 (fun _ => false) := by simp [seenC]
theorem seen_step (L : List Int) (k pl : Nat) (hk : k < L.length) (hp : pl < 255) (hx : L.getD k 0 = (pl : Int)) : (seenC L k).setIfInBounds pl (.bool true) = seenC L (k + 1) := by
  rw [seenC, seenC, rowB_set _ _ _ _ hp]
  congr 1
  funext j
  have ht : L.take (k + 1) = L.take k ++ [(pl : Int)] := by
    rw [List.take_add_one, ← hx, List.getD_eq_getElem?_getD, List.getElem?_eq_getElem hk]; rfl
  rw [ht]
  by_cases hj : j = pl
  · subst hj; simp
  · rw [if_neg hj]
    have : ¬ (j : Int) = (pl : Int) := by omega
    simp [List.contains_eq_mem, this]

set_option maxRecDepth 100000 in
set_option maxHeartbeats 3200000 in
theorem arePlaces_any (L : List Int) (hL : L.length ≤ 9223372036854775806) (n : Nat) (hn : n ≤ 255) (v : Value) (w : World) (hv : IlAt w v L) :
    Calls Try.prog 37 #[v, .int .i64 n] w fun e w' => e = .returned (.bool (areS L n)) ∧ Below w.heap.size w w' := by
  obtain ⟨a, ca, rfl, hca1, hca2, hcell⟩ := hv
  have HCE := hidD hcell
  have HT := hidD (are_true (L := L) (n := n))
  have HF := hidD (fun i => are_false (L := L) (n := n) (i := i))
  have HSS := hidD (seen_step L)
  obtain ⟨hz, hsz⟩ := zero_of_info Try.zero74
  rw [← seen_zero L] at hz
  clear hcell
  generalize L.length = l at *
  go_enter Try.func37, Try.ntmps37
  go_wp2_with fail
  go_loopw [7, 10] (fun _ i wr => ∃ k : Nat, k ≤ l ∧ i = .int .i64 k ∧ (∀ i, i < k → okAt L n i = true) ∧ wr.heap[w.heap.size]? = some (.cells (seenC L k) (74 : TypeId) (0, 0)) ∧ Below w.heap.size w wr) (fun _ i _ => l - (intOf i).toNat)
  case atStart => exact ⟨0, Nat.zero_le _, rfl, fun i hi => absurd hi (by omega), heap_alloc_last _ _, (Below.refl _ _).alloc (Nat.le_refl _) _⟩
  case round =>
    obtain ⟨k, hk, rfl, hok, hrow, hbel⟩ := hrel
    have HOK := hidD hok
    have HRW := hidD hrow
    have HBW := hidD hbel
    clear hok
    by_cases hlt : k < l
    · have hlti : (k : Int) < l := by omega
      obtain ⟨gl, ol, rfl, hgl, hcl⟩ := HCE.out k hlt
      have hcx : wr.cell? ⟨gl, ol + k, none⟩ = some (.int .i64 (L.getD k 0)) := (hbel.cell (p := ⟨gl, _, none⟩) hgl).trans hcl
      clear hcl hbel
      by_cases h0 : L.getD k 0 < 0
      · have HA := hidD (HF.out k hlt (by rw [okAt, decide_eq_false (by omega)]; rfl))
        generalize L.getD k 0 = x at *
        clear hrow
        go_wp2_with fail
        go_ret
        exact ⟨by rw [HA.out]; rfl, HBW.out⟩
      · by_cases h1 : (n : Int) ≤ L.getD k 0
        · have HA := hidD (HF.out k hlt (by rw [okAt, decide_eq_false (show ¬ L.getD k 0 < (n : Int) by omega)]; simp))
          generalize L.getD k 0 = x at *
          clear hrow
          go_wp2_with fail
          go_ret
          exact ⟨by rw [HA.out]; rfl, HBW.out⟩
        · obtain ⟨pl, hplx⟩ : ∃ pl : Nat, L.getD k 0 = (pl : Int) := ⟨(L.getD k 0).toNat, by omega⟩
          have hpl : pl < 255 := by omega
          have hpn : ¬ (n : Int) ≤ (pl : Int) := by omega
          have hcs : wr.cell? ⟨w.heap.size, pl, none⟩ = some (.bool ((L.take k).contains (pl : Int))) := by
            rw [cell_of_row _ _ _ _ _ _ hrow]; exact rowB_get _ _ _ hpl
          have hfr : wr.frozen? ⟨w.heap.size, pl, none⟩ = false := frozen_of_row _ _ _ _ _ hrow
          have HSTk := hidD (HSS.out k pl hlt hpl hplx)
          cases hin : (L.take k).contains (pl : Int) with
          | true =>
            have HA := hidD (HF.out k hlt (by rw [okAt, hplx, hin]; simp))
            rw [hin] at hcs
            rw [hplx] at hcx h0
            clear hrow hplx
            go_wp2_with fail
            go_ret
            exact ⟨by rw [HA.out]; rfl, HBW.out⟩
          | false =>
            have HKO : Hid (okAt L n k = true) := by
              show _ = _
              rw [okAt, hplx, hin, decide_eq_true (show (0 : Int) ≤ pl by omega), decide_eq_true (show (pl : Int) < n by omega)]; rfl
            rw [hin] at hcs
            rw [hplx] at hcx h0
            have HNR : Hid ((wr.setCell ⟨w.heap.size, pl, none⟩ (.bool true)).heap[w.heap.size]? = some (.cells (seenC L (k + 1)) (74 : TypeId) (0, 0))) := by
              rw [← HSTk.out]; exact heap_setCell_same wr w.heap.size pl _ _ _ hrow
            clear hrow hplx
            go_wp2_with fail
            go_roundw
            case rel => exact ⟨k + 1, by omega, by go_num, fun i hi => by
              by_cases he : i = k
              · rw [he]; exact HKO.out
              · exact HOK.out i (by omega), HNR.out, HBW.out.setCell (p := ⟨w.heap.size, pl, none⟩) (Nat.le_refl _) _⟩
            case measure => simp [intOf]; omega
    · obtain rfl : k = l := by omega
      have HA := hidD (HT.out HOK.out)
      clear hrow hbel
      go_wp2_with fail
      go_ret
      exact ⟨by rw [HA.out]; rfl, HBW.out⟩
end Go.Proofs.Ytdpkeffkpecmjab
