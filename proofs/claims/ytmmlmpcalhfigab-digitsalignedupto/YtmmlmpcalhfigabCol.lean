/- What Columns of the program answers. -/
import Derived.Test.YtmmlmpcalhfigabLn
namespace Go.Proofs.Ytmmlmpcalhfigab
open Go.RowKit Go.Maps Go.Sort
set_option linter.unusedVariables false

theorem Try.info9 : (Try.prog.info? 9).map (fun i => (i.zero, i.size, i.bytes)) = some (some (.string ⟨#[]⟩), 1, 16) := by kernel_rfl
theorem cells_row {w : World} {base e : Nat} {v : Value} {ws : List Nat} (h : w.ownsRow base e 1 v ws.length (intsC ws)) : ∃ aw cw, v = .slice aw ws.length cw ∧ CellsOf w (.slice aw ws.length cw) ws.length (intAt ws) := by
  rcases h.2 with ⟨h0, h1⟩ | ⟨g, cap, cur, h0, hb, hg, hc, _⟩
  · exact ⟨none, 0, by rw [h0, h1], .inl ⟨h1, none, 0, by rw [h1]⟩⟩
  · subst h0
    refine ⟨_, cap, rfl, .inr ⟨g, 0, cap, rfl, ?_, fun j hj => ?_⟩⟩
    · rcases Nat.lt_or_ge g w.heap.size with h' | h'
      · exact h'
      · rw [Array.getElem?_eq_none h'] at hg; cases hg
    · rw [Nat.zero_add, h.cellAt j (by omega)]
      exact ints_at ws j hj
def lineOf (L : List Rw) (rs : List Bool) (i : Nat) : List UInt8 := lineTo (L.getD i rw0).ss (wsTo L L.length) rs (L.getD i rw0).ss.length
/-- The lines, the first k of them made. -/
def linesUp (L : List Rw) (rs : List Bool) (k : Nat) : List (List UInt8) := (List.range L.length).map fun i => if i < k then lineOf L rs i else []
def linesS (L : List Rw) (rs : List Bool) : List (List UInt8) := (List.range L.length).map (lineOf L rs)
theorem linesUp_len (L : List Rw) (rs : List Bool) (k : Nat) : (linesUp L rs k).length = L.length := by simp [linesUp]
theorem linesS_len (L : List Rw) (rs : List Bool) : (linesS L rs).length = L.length := by simp [linesS]
theorem linesUp_all (L : List Rw) (rs : List Bool) : linesUp L rs L.length = linesS L rs := by
  unfold linesUp linesS
  refine List.map_congr_left fun i hi => ?_
  rw [if_pos (List.mem_range.1 hi)]
theorem linesUp_zero (L : List Rw) (rs : List Bool) : (linesUp L rs 0).map encStr = List.replicate L.length (.string ⟨#[]⟩) := by
  unfold linesUp
  apply List.ext_getElem
  · simp
  · intro i h1 h2
    simp [encStr]
theorem linesUp_next (L : List Rw) (rs : List Bool) (k : Nat) (h : k < L.length) : ((linesUp L rs k).map encStr).set k (.string ⟨(lineOf L rs k).toArray⟩) = (linesUp L rs (k + 1)).map encStr := by
  unfold linesUp
  apply List.ext_getElem
  · simp
  · intro i h1 h2
    rw [List.getElem_set]
    simp only [List.getElem_map, List.getElem_range]
    by_cases hi : k = i
    · subst hi
      rw [if_pos rfl, if_pos (by omega)]
      first | done | rfl
    · rw [if_neg hi]
      by_cases h3 : i < k
      · rw [if_pos h3, if_pos (by omega)]
      · rw [if_neg h3, if_neg (by omega)]
set_option maxRecDepth 100000 in
set_option maxHeartbeats 1000000 in
theorem columns_any (L : List Rw) (rs : List Bool) (hs : SmallRows L) (hrm : rs.length ≤ 1048576) (a ar : Option Addr) (cap cr : Nat) (w : World) (hR : RowsAt w (.slice a L.length cap) L) (hRs : CellsOf w (.slice ar rs.length cr) rs.length (boolAt rs)) :
    Calls Try.prog 11 #[.slice a L.length cap, .slice ar rs.length cr] w fun e w' => ∃ v, e = .returned v ∧ w'.ownsRow w.heap.size 9 1 v L.length ((linesS L rs).map encStr) ∧ Below w.heap.size w w' := by
  have hl := hs.rows
  obtain ⟨i0, hi, hz0, hz1, hz2⟩ := info_parts Try.info9
  have HS := hidD hs
  have HCW := hidD (colWidths_any L hs a cap w hR)
  have HR : Hid (∀ w', Below w.heap.size w w' → RowsAt w' (.slice a L.length cap) L) := fun w' hb => hR.below hb (Nat.le_refl _)
  have HRS : Hid (∀ w', Below w.heap.size w w' → CellsOf w' (.slice ar rs.length cr) rs.length (boolAt rs)) := fun w' hb => hRs.below hb (Nat.le_refl _)
  have HWL := hidD (wsTo_len hs L.length (Nat.le_refl _))
  clear hR hRs hs
  go_enter Try.func11, Try.ntmps11
  go_wp2_with fail
  go_at_call 18
  refine HCW.out.mono ?_
  rintro e w1 ⟨v1, rfl, hown1, hb1⟩
  obtain ⟨aw, cw, rfl, hcw⟩ := cells_row hown1
  have HB1 := hidD hb1
  have hs1 := hb1.size
  have HCL : Hid (∀ w', Below w1.heap.size w1 w' → CellsOf w' (.slice aw (wsTo L L.length).length cw) (wsTo L L.length).length (intAt (wsTo L L.length))) := fun w' hb => hcw.below hb (Nat.le_refl _)
  clear hown1 hb1 hcw HCW
  go_wp2_with (first
    | (at_make; refine wpList_make_full _ rfl _ _ 33 rfl w.heap.size 9 i0 (.string ⟨#[]⟩) 1 Try.underlying33 hi hz0 hz1 .i64 .i64 (L.length : Int) (L.length : Int) L.length rfl rfl rfl rfl (by rw [hz2]; omega) (by unfold maxLen; omega) (by omega) ?_; intro w2 hown2 hg2)
    | go_in)
  have HO2 : Hid (w2.ownsRow w.heap.size 9 1 (.slice (some ⟨w1.heap.size, 0, none⟩) L.length L.length) L.length ((linesUp L rs 0).map encStr)) := by
    show World.ownsRow _ _ _ _ _ _ _
    rw [linesUp_zero]
    have h : (madeCells (Value.string ⟨#[]⟩).cells (L.length * 1)).toList = List.replicate L.length (.string ⟨#[]⟩) := by rw [Nat.mul_one]; exact toList_madeCells_one _ _
    rw [← h]
    exact hown2
  have HB2 : Hid (Below w1.heap.size w1 w2) := (Below.refl _ _).grown hg2 (Nat.le_refl _) (fun j hj => by cases hj)
  clear hown2 hg2
  go_loopw [16] (fun ii wr => ∃ k : Nat, k ≤ L.length ∧ ii = .int .i64 k ∧ wr.ownsRow w.heap.size 9 1 (.slice (some ⟨w1.heap.size, 0, none⟩) L.length L.length) L.length ((linesUp L rs k).map encStr) ∧ Below w1.heap.size w1 wr) (fun ii _ => L.length - (intOf ii).toNat)
  case atStart => exact ⟨0, Nat.zero_le _, rfl, HO2.out, HB2.out⟩
  case round =>
    clear HO2 HB2
    obtain ⟨k, hk, rfl, hown, hnx⟩ := hrel
    have HNX := hidD hnx
    have HOWN := hidD hown
    have hszn := hnx.size
    have HNW := hidD (HB1.out.trans (hnx.mono hs1))
    by_cases hlt : k < L.length
    · have hRw := HR.out wr HNW.out
      have HST := hidD (hRw.2 _ (mem_getDR hlt))
      rcases hRw.1 with ⟨h0, _⟩ | ⟨g, off, cap', hsl, hg, hcl⟩
      · rw [h0] at hlt; exact absurd hlt (by simp)
      cases hsl
      have hc := hcl k hlt
      have hki : (k : Int) < L.length := by omega
      have HLN := hidD (line_any (L.getD k rw0) (wsTo L L.length) rs (HS.out.cells _ (mem_getDR hlt)) (HS.out.texts _ (mem_getDR hlt)) (wsTo_row L L.length k hlt) HWL.out hrm aw ar cw cr wr HST.out (HCL.out wr hnx) (HRS.out wr HNW.out))
      have HNE := hidD (linesUp_next L rs k hlt)
      have HLO : Hid (lineTo (L.getD k rw0).ss (wsTo L L.length) rs (L.getD k rw0).ss.length = lineOf L rs k) := rfl
      rw [HLO.out] at HLN
      have hb1 : w1.heap.size < wr.heap.size := by
        rcases hown.2 with ⟨h0, _⟩ | ⟨g', c', cur, h0, _, hg', _⟩
        · cases h0
        · cases h0
          rcases Nat.lt_or_ge w1.heap.size wr.heap.size with h' | h'
          · exact h'
          · rw [Array.getElem?_eq_none h'] at hg'; cases hg'
      clear hcl hRw hnx hown HST HLO
      generalize lineOf L rs k = X at *
      generalize L.getD k rw0 = r at *
      go_wp2_with fail
      go_at_call 19
      refine HLN.out.mono ?_
      rintro e w3 ⟨rfl, hb3⟩
      have HO3 := hidD (row_below HOWN.out hb3)
      have hc3 := HO3.out.cellAt k (by omega)
      obtain ⟨u3, hu3⟩ : ∃ u, ((linesUp L rs k).map encStr)[k]? = some u := ⟨_, List.getElem?_eq_getElem (by rw [List.length_map, linesUp_len]; exact hlt)⟩
      rw [hu3] at hc3
      have hf3 := HO3.out.frozenAt k
      have HB3 := hidD hb3
      clear hb3 hu3 HLN
      go_wp2
      go_roundw
      case rel => exact ⟨k + 1, by omega, by go_num, by rw [← HNE.out]; exact (HO3.out.stored k _).1, (HNX.out.trans (HB3.out.mono hszn)).setCell (p := ⟨w1.heap.size, k, none⟩) (Nat.le_refl _) _⟩
      case measure => simp [intOf]; omega
    · obtain rfl : k = L.length := by omega
      clear hnx hown
      go_wp2
      go_ret
      exact ⟨_, rfl, by rw [← linesUp_all]; exact HOWN.out, HNW.out⟩
end Go.Proofs.Ytmmlmpcalhfigab
