/- Texts of one proof, one behind the other. -/
import Derived.Test.YtdpkeffkpecmjaaRsl
/- What arePlaces answers. -/
namespace Go.Proofs.Ytdpkeffkpecmjaa
open Go.RowKit
set_option linter.unusedVariables false

/-- A row of truths. -/
def rowB (n : Nat) (f : Nat → Bool) : Array Value := ((List.range n).map fun i => Value.bool (f i)).toArray
theorem rowB_get (n : Nat) (f : Nat → Bool) (i : Nat) (h : i < n) : (rowB n f)[i]? = some (.bool (f i)) := by
  simp [rowB, h]
theorem rowB_set (n : Nat) (f : Nat → Bool) (j : Nat) (b : Bool) (h : j < n) : (rowB n f).setIfInBounds j (.bool b) = rowB n (fun i => if i = j then b else f i) := by
  apply Array.ext_getElem?
  intro i
  rw [Array.getElem?_setIfInBounds]
  by_cases hi : i < n
  · rw [rowB_get n _ i hi, rowB_get n _ i hi]
    by_cases hj : j = i
    · subst hj; rw [if_pos rfl, if_pos (by simp [rowB, h]), if_pos rfl]
    · rw [if_neg hj, if_neg (fun h => hj h.symm)]
  · have h1 : (rowB n f)[i]? = none := Array.getElem?_eq_none (by simp [rowB]; omega)
    have h2 : (rowB n (fun i => if i = j then b else f i))[i]? = none := Array.getElem?_eq_none (by simp [rowB]; omega)
    rw [h1, h2, if_neg (by omega)]
theorem Try.zero109 : (Try.prog.info? 109).map (fun i => (i.zero, i.size)) = some (some (.agg (rowB 255 (fun _ => false))), 255) := by kernel_rfl
/-- Is the i-th a place, and none that stands ahead of it? -/
def okAt (L : List Int) (n i : Nat) : Bool := decide (0 ≤ L.getD i 0) && (decide (L.getD i 0 < n) && !(L.take i).contains (L.getD i 0))
/-- Are these places of a word of n bytes, each one once? -/
def areS (L : List Int) (n : Nat) : Bool := (List.range L.length).all (okAt L n)
theorem are_true {L : List Int} {n : Nat} (h : ∀ i, i < L.length → okAt L n i = true) : areS L n = true := by
  rw [areS, List.all_eq_true]
  intro i hi
  exact h i (List.mem_range.1 hi)
theorem are_false {L : List Int} {n i : Nat} (hi : i < L.length) (h : okAt L n i = false) : areS L n = false := by
  cases ha : areS L n with
  | false => rfl
  | true =>
    rw [areS, List.all_eq_true] at ha
    have := ha i (List.mem_range.2 hi)
    rw [h] at this; cases this
/-- The truths after k of them. -/
def seenC (L : List Int) (k : Nat) : Array Value := rowB 255 fun j => (L.take k).contains (j : Int)
theorem seen_zero (L : List Int) : seenC L 0 = rowB 255 (fun _ => false) := by simp [seenC]
theorem seen_step (L : List Int) (k pl : Nat) (hk : k < L.length) (hp : pl < 255) (hx : L.getD k 0 = (pl : Int)) : (seenC L k).setIfInBounds pl (.bool true) = seenC L (k + 1) := by
  rw [seenC, seenC, rowB_set _ _ _ _ hp]
  congr 1
  funext j
  have ht : L.take (k + 1) = L.take k ++ [(pl : Int)] := by
    rw [List.take_add_one, ← hx, List.getD_eq_getElem?_getD, List.getElem?_eq_getElem hk]; rfl
  rw [ht]
  by_cases hj : j = pl
  · subst hj; simp
  · rw [if_neg hj]
    have : ¬ (j : Int) = (pl : Int) := by omega
    simp [List.contains_eq_mem, this]

set_option maxRecDepth 100000 in
set_option maxHeartbeats 3200000 in
theorem arePlaces_any (L : List Int) (hL : L.length ≤ 9223372036854775806) (n : Nat) (hn : n ≤ 255) (v : Value) (w : World) (hv : IlAt w v L) :
    Calls Try.prog 60 #[v, .int .i64 n] w fun e w' => e = .returned (.bool (areS L n)) ∧ Below w.heap.size w w' := by
  obtain ⟨a, ca, rfl, hca1, hca2, hcell⟩ := hv
  have HCE := hidD hcell
  have HT := hidD (are_true (L := L) (n := n))
  have HF := hidD (fun i => are_false (L := L) (n := n) (i := i))
  have HSS := hidD (seen_step L)
  obtain ⟨hz, hsz⟩ := zero_of_info Try.zero109
  rw [← seen_zero L] at hz
  clear hcell
  generalize L.length = l at *
  go_enter Try.func60, Try.ntmps60
  go_wp2_with fail
  go_loopw [7, 10] (fun _ i wr => ∃ k : Nat, k ≤ l ∧ i = .int .i64 k ∧ (∀ i, i < k → okAt L n i = true) ∧ wr.heap[w.heap.size]? = some (.cells (seenC L k) (109 : TypeId) (0, 0)) ∧ Below w.heap.size w wr) (fun _ i _ => l - (intOf i).toNat)
  case atStart => exact ⟨0, Nat.zero_le _, rfl, fun i hi => absurd hi (by omega), heap_alloc_last _ _, (Below.refl _ _).alloc (Nat.le_refl _) _⟩
  case round =>
    obtain ⟨k, hk, rfl, hok, hrow, hbel⟩ := hrel
    have HOK := hidD hok
    have HRW := hidD hrow
    have HBW := hidD hbel
    clear hok
    by_cases hlt : k < l
    · have hlti : (k : Int) < l := by omega
      obtain ⟨gl, ol, rfl, hgl, hcl⟩ := HCE.out k hlt
      have hcx : wr.cell? ⟨gl, ol + k, none⟩ = some (.int .i64 (L.getD k 0)) := (hbel.cell (p := ⟨gl, _, none⟩) hgl).trans hcl
      clear hcl hbel
      by_cases h0 : L.getD k 0 < 0
      · have HA := hidD (HF.out k hlt (by rw [okAt, decide_eq_false (by omega)]; rfl))
        generalize L.getD k 0 = x at *
        clear hrow
        go_wp2_with fail
        go_ret
        exact ⟨by rw [HA.out]; rfl, HBW.out⟩
      · by_cases h1 : (n : Int) ≤ L.getD k 0
        · have HA := hidD (HF.out k hlt (by rw [okAt, decide_eq_false (show ¬ L.getD k 0 < (n : Int) by omega)]; simp))
          generalize L.getD k 0 = x at *
          clear hrow
          go_wp2_with fail
          go_ret
          exact ⟨by rw [HA.out]; rfl, HBW.out⟩
        · obtain ⟨pl, hplx⟩ : ∃ pl : Nat, L.getD k 0 = (pl : Int) := ⟨(L.getD k 0).toNat, by omega⟩
          have hpl : pl < 255 := by omega
          have hpn : ¬ (n : Int) ≤ (pl : Int) := by omega
          have hcs : wr.cell? ⟨w.heap.size, pl, none⟩ = some (.bool ((L.take k).contains (pl : Int))) := by
            rw [cell_of_row _ _ _ _ _ _ hrow]; exact rowB_get _ _ _ hpl
          have hfr : wr.frozen? ⟨w.heap.size, pl, none⟩ = false := frozen_of_row _ _ _ _ _ hrow
          have HSTk := hidD (HSS.out k pl hlt hpl hplx)
          cases hin : (L.take k).contains (pl : Int) with
          | true =>
            have HA := hidD (HF.out k hlt (by rw [okAt, hplx, hin]; simp))
            rw [hin] at hcs
            rw [hplx] at hcx h0
            clear hrow hplx
            go_wp2_with fail
            go_ret
            exact ⟨by rw [HA.out]; rfl, HBW.out⟩
          | false =>
            have HKO : Hid (okAt L n k = true) := by
              show _ = _
              rw [okAt, hplx, hin, decide_eq_true (show (0 : Int) ≤ pl by omega), decide_eq_true (show (pl : Int) < n by omega)]; rfl
            rw [hin] at hcs
            rw [hplx] at hcx h0
            have HNR : Hid ((wr.setCell ⟨w.heap.size, pl, none⟩ (.bool true)).heap[w.heap.size]? = some (.cells (seenC L (k + 1)) (109 : TypeId) (0, 0))) := by
              rw [← HSTk.out]; exact heap_setCell_same wr w.heap.size pl _ _ _ hrow
            clear hrow hplx
            go_wp2_with fail
            go_roundw
            case rel => exact ⟨k + 1, by omega, by go_num, fun i hi => by
              by_cases he : i = k
              · rw [he]; exact HKO.out
              · exact HOK.out i (by omega), HNR.out, HBW.out.setCell (p := ⟨w.heap.size, pl, none⟩) (Nat.le_refl _) _⟩
            case measure => simp [intOf]; omega
    · obtain rfl : k = l := by omega
      have HA := hidD (HT.out HOK.out)
      clear hrow hbel
      go_wp2_with fail
      go_ret
      exact ⟨by rw [HA.out]; rfl, HBW.out⟩
end Go.Proofs.Ytdpkeffkpecmjaa
/- What mend answers: the decoder's steps. -/
namespace Go.Proofs.Ytdpkeffkpecmjaa
open Go.RowKit
set_option linter.unusedVariables false

/-- The locator that the decoder finds. -/
def dLoc (f p : Nat) (word : List UInt8) (L : List Int) : List UInt8 := locS p (syns f p word) (powS L word.length)
/-- The places that it finds. -/
def dPl (f p : Nat) (word : List UInt8) (L : List Int) : List Int := placesTo (dLoc f p word L) word.length word.length
/-- The word that it makes. -/
def dWord (f p : Nat) (word : List UInt8) (L : List Int) : List UInt8 := amTo f p word (syns f p word) (dLoc f p word L) (dPl f p word L) (dPl f p word L).length
theorem places_in (loc : List UInt8) (n : Nat) : ∀ k i, i < (placesTo loc n k).length → 0 ≤ (placesTo loc n k).getD i 0 ∧ (placesTo loc n k).getD i 0 < k
  | 0, i, h => by simp [placesTo] at h
  | k + 1, i, h => by
    rw [placesTo] at h ⊢
    split at h
    · rename_i h0
      rw [if_pos h0]
      by_cases hi : i < (placesTo loc n k).length
      · have := places_in loc n k i hi
        rw [List.getD_eq_getElem?_getD, List.getElem?_append_left hi, ← List.getD_eq_getElem?_getD]
        omega
      · simp at h
        have he : i = (placesTo loc n k).length := by omega
        rw [List.getD_eq_getElem?_getD, he, List.getElem?_append_right (Nat.le_refl _)]
        simp
        omega
    · rename_i h0
      rw [if_neg h0]
      have := places_in loc n k i h
      omega
theorem dLoc_len (f p : Nat) (hp : p ≤ 254) (word : List UInt8) (L : List Int) (hL : L.length ≤ 255) : (dLoc f p word L).length ≤ 1000000 := by
  have h1 := mul_len 29 (ofTo (powS L word.length) (powS L word.length).length) (mulS 29 (othersS p (syns f p word) (powS L word.length)) [inv 29 (cf (othersS p (syns f p word) (powS L word.length)) 0)])
  have h2 := mul_len 29 (othersS p (syns f p word) (powS L word.length)) [inv 29 (cf (othersS p (syns f p word) (powS L word.length)) 0)]
  have h3 := others_len p hp (syns f p word) (powS L word.length)
  have h4 := ofTo_len (powS L word.length) (powS L word.length).length
  have h5 : (powS L word.length).length = L.length := by simp [powS]
  simp only [List.length_cons, List.length_nil] at h2
  unfold dLoc locS
  omega

set_option maxRecDepth 100000 in
set_option maxHeartbeats 3200000 in
theorem mend_places {c p f : Nat} (hp1 : 1 ≤ p) (hp : p ≤ 254) (hf : f ≤ 254) (word : List UInt8) (hw1 : p < word.length) (hw2 : word.length ≤ 255) (L : List Int) (hL : L.length ≤ 9223372036854775806) (h : areS L word.length = false) (vw vl : Value) (w : World) (hc : CdAt w c p f) (hvw : SlAt w vw word) (hvl : IlAt w vl L) :
    Calls Try.prog 47 #[.pointer (some ⟨c, 0, none⟩), vw, vl] w fun e w' => e = .returned (.tuple #[.slice none 0 0, .slice none 0 0, .int .i64 1]) ∧ Below w.heap.size w w' := by
  have HS := hidD (syndromes_ok hp hf word hw1 hw2 vw w hc hvw)
  have HAP : Hid (∀ w', Below w.heap.size w w' → Calls Try.prog 60 #[vl, .int .i64 word.length] w' fun e w2 => e = .returned (.bool false) ∧ Below w'.heap.size w' w2) := fun w' hb => by
    have := arePlaces_any L hL word.length hw2 vl w' (hvl.next hb)
    rw [h] at this; exact this
  obtain ⟨⟨aw, cw, rfl, hcw1, hcw2⟩, _⟩ := hvw
  clear hc hvl
  generalize word.length = n at *
  go_enter Try.func47, Try.ntmps47
  go_wp2_with fail
  refine wp_scope_jumps 0 (EndM (.pointer (some ⟨c, 0, none⟩)) (.slice aw n cw) vl (fun _ _ e8 w' => e8 = 1 ∧ Below w.heap.size w w')) (fun _ _ => 0) rfl ?_ ?_
  · go_wp2_with (first
      | (go_at_call 14; refine HS.out.mono ?_; rintro e w2 ⟨g2, rfl, hg2, hr2, hb2⟩; have HB2 := hidD hb2; have HR2 := hidD hr2; clear hb2 hr2)
      | (go_at_call 60; refine (HAP.out _ HB2.out).mono ?_; rintro e w3 ⟨rfl, hb3⟩; have HB3 := hidD (Below.next HB2.out hb3); clear hb3))
    go_step3
    refine ⟨rfl, ?_⟩
    (repeat apply Exists.intro)
    exact ⟨rfl, rfl, HB3.out⟩
  · rintro a' w' ⟨m6, l7, e8, u9, u10, u11, u12, u13, u14, u15, u16, u17, u18, u19, u20, u21, u22, u23, u24, u25, u26, u27, u28, u29, u30, u31, u32, u33, u34, u35, u36, u37, u38, u39, u40, u41, u42, u43, u44, u45, u46, u47, u48, u49, u50, u51, u52, u53, u54, u55, u56, u57, u58, u59, u60, u61, rfl, rfl, hb⟩
    have HB := hidD hb
    clear hb
    go_wp2_with fail
    refine jump_ret ?_
    refine bodyPost_ret (v := .tuple #[.slice none 0 0, .slice none 0 0, .int .i64 1]) (by simp [results, Try.results47, go_sem]) rfl ?_
    exact ⟨rfl, HB.out⟩
end Go.Proofs.Ytdpkeffkpecmjaa
