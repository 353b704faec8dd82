/- What Under of package shelf answers: the least closed list of names, in order. -/
import Derived.Test.YtnjjpahpaeblfaaUnd
import Derived.Shelf.Slices.In.SortNone
import Derived.Deep.RegionWith
namespace Go.Proofs.Ytnjjpahpaeblfaa
open Go.RowKit Go.Maps Go.Sort
set_option linter.unusedVariables false

theorem sort_none (p : Option Addr) (cap : Nat) (w : World) : Calls Try.prog 41 #[.slice p 0 cap] w fun e w' => e = .returned (.tuple #[]) ∧ w' = w := Any.slices_Sort_string_none Try.lays190 p cap w

theorem below_drewU {B : Nat} {w w' : World} (h : Below B w w') : Below B w w'.drew := ⟨h.os, h.tape, h.output, h.size, h.block⟩
theorem below_of_grown' {B : Nat} {W w1 : World} {row : Option Nat} (h : W.grownBy w1 row) (hr : ∀ k, k < B → some k ≠ row) (hB : B ≤ W.heap.size) : Below B W w1 := ⟨h.os, h.tape, h.output, h.size, fun k hk => h.block k (Nat.lt_of_lt_of_le hk hB) (hr k hk)⟩

/-- The sort of a slice of the call's own, nil or not. -/
theorem sort_row {w : World} {base : Nat} {v : Value} {ss : List (List UInt8)} (hrow : w.ownsRow base 9 1 v ss.length (ss.map encStr)) (hl : ss.length ≤ 100000) :
    Calls Try.prog 41 #[v] w fun e w' => e = .returned (.tuple #[]) ∧ w'.ownsRow base 9 1 v ss.length ((ss.mergeSort leB).map encStr) ∧ Below base w w' := by
  rcases hrow.2 with ⟨rfl, h0⟩ | ⟨g, cap, cur, rfl, hbase, hb, h1, h2, h3, h4⟩
  · obtain rfl : ss = [] := List.eq_nil_of_length_eq_zero h0
    refine (sort_none none 0 w).mono ?_
    rintro e w' ⟨rfl, rfl⟩
    exact ⟨rfl, by simpa using World.ownsRow_nil _ _ _ _, Below.refl _ _⟩
  · have hH : Holds encStr w g 0 ss.toArray := holds_of_block hb (by simpa using h4)
    have hgl : g < w.heap.size := (Array.getElem?_eq_some_iff.1 hb).1
    refine (sort_any g 0 cap ss w hH hgl (by omega)).mono ?_
    rintro e w' ⟨rfl, nn, os, rfl⟩
    exact ⟨rfl, ownsRow_sorted (base := base) (n := nn) (os := os) (ts := ss.mergeSort (fun x y => decide (x ≤ y))) (by simp) hbase hb h1 h2 h3, below_of_grown' (grownBy_sorted _) (fun j hj e => by cases e; omega) (by omega)⟩

set_option maxRecDepth 100000 in
set_option maxHeartbeats 2000000 in
theorem under_any (x : List UInt8) (hx : x.length ≤ maxLen) (w : World) (p b : Nat) (F : Nat → Prop) (S : List Nt) (D : DataW Value) (h : SH w p b F S D) :
    Calls Try.prog 25 #[.pointer (some ⟨p, 0, none⟩), .string ⟨x.toArray⟩] w fun e w' => ∃ v U, e = .returned v ∧ IsUnder S x U ∧ U.length ≤ 512 ∧ StrsOk U ∧ w'.ownsRow w.heap.size 9 1 v U.length ((U.mergeSort leB).map encStr) ∧ Below w.heap.size w w' := by
  have hcell := h.cell
  have hp : p < w.heap.size := World.block_lt_of_cell? w _ h.cell
  have HH := hidU h
  obtain ⟨s1, a1, b1, q1, c1, hlook1, hst1, hso1⟩ := h.lookF x hx
  have hl1 := hlook1 w h.own
  have hfd1 := field_leans s1 a1 b1 q1 (leansOf S x).length c1
  have HC1 := hidU (addNew_any [] (leansOf S x) (by have := h.leansOf8 x; simp; omega) hso1 none q1 0 c1 w.heap.size w (Nat.le_refl _) (World.ownsRow_nil _ _ _ _) (fun w' hb => hst1.below hb (Nat.le_refl _)))
  have HU0 := hidU (UnderTo.start S x)
  clear hlook1 hst1 hso1 h
  generalize leansOf S x = ls1 at *
  go_enter Try.func25, Try.ntmps25
  go_wp2_with (go_at_call 40; refine HC1.out.mono ?_; rintro e w1 ⟨v1, rfl, hr1, hb1⟩; have HR1 := hidU hr1; have HB1 := hidU hb1; clear hr1 hb1)
  go_loopw [5, 6] (fun v i wr => ∃ (U : List (List UInt8)) (k : Nat), k ≤ U.length ∧ i = .int .i64 k ∧ UnderTo S x U k ∧ wr.ownsRow w.heap.size 9 1 v U.length (U.map encStr) ∧ Below w.heap.size w wr) (fun _ i _ => 512 - (intOf i).toNat)
  case atStart => exact ⟨_, 0, Nat.zero_le _, rfl, HU0.out, HR1.out, HB1.out⟩
  case round =>
    obtain ⟨U, k, hk, rfl, hU, hrow, hnx⟩ := hrel
    have hU5 := HH.out.under_len hU
    have HU := hidU hU
    have HROW := hidU hrow
    have HNX := hidU hnx
    have hszn := hnx.size
    obtain ⟨a5, c5, rfl⟩ := row_shape hrow
    clear hU
    by_cases hlt : k < U.length
    · have hyl := (HH.out.under_ok HU.out).2 _ (mem_getD hlt)
      rcases StrsAt.of_row hrow with ⟨h0, _⟩ | ⟨g, off, cap', hsl, hg, hcl⟩
      · rw [h0] at hlt; exact absurd hlt (by simp)
      cases hsl
      have hcx : wr.cell? ⟨g, off + k, none⟩ = some (.string ⟨(U.getD k []).toArray⟩) := hcl k hlt
      have hcp : wr.cell? ⟨p, 0, none⟩ = some (.map (some b)) := (hnx.cell (p := ⟨p, 0, none⟩) hp).trans hcell
      obtain ⟨s2, a2, b2, q2, c2, hlook2, hst2, hso2⟩ := HH.out.lookF (U.getD k []) hyl
      have hl2 := hlook2 wr.drew (HH.out.below hnx (Nat.le_refl _)).own.drew
      have hfd2 := field_leans s2 a2 b2 q2 (leansOf S (U.getD k [])).length c2
      have HC2 := hidU (addNew_any U (leansOf S (U.getD k [])) (by have := HH.out.leansOf8 (U.getD k []); omega) hso2 (some ⟨g, off, none⟩) q2 c5 c2 w.heap.size wr.drew hszn hrow (fun w' hb => hst2.below (Below.trans (below_drewU hnx) hb) (Nat.le_refl _)))
      have HU1 := hidU (HU.out.step hlt)
      have hlen1 : k < (addL U (leansOf S (U.getD k []))).length := by
        obtain ⟨t, ht⟩ := addL_prefix U (leansOf S (U.getD k []))
        rw [ht, List.length_append]; omega
      clear hcl hlook2 hst2 hso2 hrow hnx
      generalize addL U (leansOf S (U.getD k [])) = U1 at *
      generalize leansOf S (U.getD k []) = ls2 at *
      generalize U.getD k [] = y at *
      have hlti : (k : Int) < U.length := by omega
      go_wp2_with fail
      go_region_with (go_at_call 40; refine HC2.out.mono ?_; rintro e w2 ⟨v2, rfl, hr2, hb2⟩; have HR2 := hidU hr2; have HB2 := hidU hb2; clear hr2 hb2)
      all_goals
        go_wp2
        go_roundw
        case rel => exact ⟨U1, k + 1, by omega, by go_num, HU1.out, HR2.out, (below_drewU HNX.out).trans HB2.out⟩
        case measure => simp [intOf]; omega
    · have hkl : k = U.length := by omega
      have HDONE := hidU (UnderTo.done (hkl ▸ HU.out))
      have HOK := hidU (HH.out.under_ok HU.out)
      have HSORT := hidU (sort_row hrow (by omega))
      clear hrow hnx
      go_wp2_with (go_at_call 41; refine HSORT.out.mono ?_; rintro e w2 ⟨rfl, hr2, hb2⟩; have HR2 := hidU hr2; have HB2 := hidU hb2; clear hr2 hb2)
      go_ret
      exact ⟨_, U, rfl, HDONE.out, hU5, HOK.out, HR2.out, HNX.out.trans HB2.out⟩
end Go.Proofs.Ytnjjpahpaeblfaa
