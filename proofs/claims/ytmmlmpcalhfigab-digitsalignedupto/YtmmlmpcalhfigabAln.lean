/- The walk of DigitsAligned. -/
import Derived.Test.YtmmlmpcalhfigabAlS
import Derived.Test.YtmmlmpcalhfigabCpy
import Derived.Test.YtmmlmpcalhfigabLive
namespace Go.Proofs.Ytmmlmpcalhfigab
open Go.RowKit Go.Maps Go.Sort
set_option linter.unusedVariables false
theorem linesS_at {L : List Rw} {rs : List Bool} {i : Nat} (hi : i < L.length) : ((linesS L rs).map encStr)[i]? = some (.string ⟨(lineOf L rs i).toArray⟩) := by
  unfold linesS
  rw [List.getElem?_map, List.getElem?_map, List.getElem?_range hi]
  rfl
set_option maxRecDepth 100000 in
set_option maxHeartbeats 2000000 in
theorem aligned_any (L : List Rw) (hs : SmallRows L) (a : Option Addr) (cap : Nat) (w : World) (hR : RowsAt w (.slice a L.length cap) L) :
    Calls Try.prog 4 #[.slice a L.length cap] w fun e w' => e = .returned (.bool true) ∧ Below w.heap.size w w' := by
  have hl := hs.rows
  obtain ⟨i0, hi, hz0, hz1, hz2⟩ := info_parts Try.info3
  have HS := hidD hs
  have HLV := hidD (fun (w : World) => live_any w)
  have HR : Hid (∀ w', Below w.heap.size w w' → RowsAt w' (.slice a L.length cap) L) := fun w' hb => hR.below hb (Nat.le_refl _)
  clear hR hs
  go_enter Try.func4, Try.ntmps4
  go_wp2_with (go_at_call 5; refine (HLV.out _).mono ?_; rintro e w0 ⟨rfl, hb0⟩; have HB0 := hidD hb0; clear hb0)
  go_loopw [3, 4] (fun ww ii wr => ∃ n : Nat, n ≤ L.length ∧ ii = .int .i64 n ∧ Fits L n ∧ wr.ownsRow w.heap.size 3 1 ww (wsTo L n).length (intsC (wsTo L n)) ∧ Below w.heap.size w wr) (fun _ ii _ => L.length - (intOf ii).toNat)
  case atStart => exact ⟨0, Nat.zero_le _, rfl, fun m hm => by omega, World.ownsRow_nil _ _ _ _, HB0.out⟩
  case round =>
    clear HB0
    obtain ⟨n, hn, rfl, hfit, hown, hnx⟩ := hrel
    have HFT := hidD hfit
    have HNX := hidD hnx
    have HOWN := hidD hown
    have hszn := hnx.size
    clear hown hfit
    by_cases hlt : n < L.length
    · have hRw := HR.out wr hnx
      have HC : Hid (∀ w', Below w.heap.size w w' → ∃ g off, a = some ⟨g, off, none⟩ ∧ w'.cell? ⟨g, off + n, none⟩ = some (.slice (L.getD n rw0).a (L.getD n rw0).ss.length (L.getD n rw0).cap)) := fun w' hb => by
        rcases (HR.out w' hb).1 with ⟨h0, _⟩ | ⟨g, off, cap', hsl, hg, hcl⟩
        · rw [h0] at hlt; exact absurd hlt (by simp)
        · cases hsl; exact ⟨g, off, rfl, hcl n hlt⟩
      obtain ⟨g, off, rfl, _⟩ := HC.out wr hnx
      have HCC : Hid (∀ w', Below w.heap.size w w' → w'.cell? ⟨g, off + n, none⟩ = some (.slice (L.getD n rw0).a (L.getD n rw0).ss.length (L.getD n rw0).cap)) := fun w' hb => by
        obtain ⟨g', off', e, h⟩ := HC.out w' hb
        cases e
        exact h
      have hni : (n : Int) < L.length := by omega
      have hcl2 := HS.out.cells _ (mem_getDR hlt)
      have HTX := hidD (HS.out.texts _ (mem_getDR hlt))
      have hw0 := wsTo_len HS.out n hn
      have HNXT : Hid (wsTo L (n + 1) = updRow (wsTo L n) (L.getD n rw0) (L.getD n rw0).ss.length) := rfl
      have HST : Hid (∀ w', Below w.heap.size w w' → StrsAt w' (.slice (L.getD n rw0).a (L.getD n rw0).ss.length (L.getD n rw0).cap) (L.getD n rw0).ss) := fun w' hb => (HR.out w' hb).2 _ (mem_getDR hlt)
      have HFM := hidD (fun h => Fits.more HFT.out h)
      clear hRw hnx HC
      generalize L.getD n rw0 = r at *
      generalize wsTo L n = ws0 at *
      go_wp2_with fail
      go_loopw [3, 5] (fun ww ii wq => ∃ j : Nat, j ≤ r.ss.length ∧ ii = .int .i64 j ∧ (∀ k, k < j → wid (r.ss.getD k []) ≤ 255) ∧ wq.ownsRow w.heap.size 3 1 ww (updRow ws0 r j).length (intsC (updRow ws0 r j)) ∧ Below w.heap.size w wq) (fun _ ii _ => r.ss.length - (intOf ii).toNat)
      case atStart => exact ⟨0, Nat.zero_le _, rfl, fun k hk => by omega, HOWN.out, HNX.out⟩
      case round =>
        clear HOWN HNX hszn
        obtain ⟨j, hj, rfl, hft, hown, hnx⟩ := hrel
        have HFJ := hidD hft
        have hcr := HCC.out _ hnx
        clear hft
        by_cases hjl : j < r.ss.length
        · have hst := HST.out _ hnx
          rcases hst with ⟨h0, _⟩ | ⟨g2, off2, cap2, hsl2, hg2, hcl2'⟩
          · rw [h0] at hjl; exact absurd hjl (by simp)
          rw [Value.slice.injEq] at hsl2
          have e1 := hsl2.1
          clear hsl2
          have hcx := hcl2' j hjl
          have hxl := HTX.out _ (mem_getDS hjl)
          have hji : (j : Int) < r.ss.length := by omega
          have hul := updRow_len ws0 r j
          have HUN : Hid (updRow ws0 r (j + 1) = upd (updRow ws0 r j) j (wid (r.ss.getD j []))) := rfl
          rw [e1] at hcr
          have hju : j ≤ (updRow ws0 r j).length := by omega
          have hub : (updRow ws0 r j).length ≤ 1048576 := by omega
          clear hul hcl2'
          generalize updRow ws0 r j = U at *
          have hcx' : wr.cell? ⟨g2, off2 + j, none⟩ = some (.string ⟨(r.ss.getD j []).toArray⟩) := hcx
          clear hcx
          have HF2 : Hid (wid (r.ss.getD j []) ≤ 255 → ∀ k, k < j + 1 → wid (r.ss.getD k []) ≤ 255) := fun h k hk => by
            by_cases e : k = j
            · subst e; exact h
            · exact HFJ.out k (by omega)
          generalize r.ss.getD j [] = x at *
          obtain ⟨a3, c3, rfl⟩ := row_shape hown
          have HW := hidD (fun (w : World) => width_any ⟨x.toArray⟩ (by rw [ba_size]; unfold maxLen; omega) w)
          have hwd := widS_le ⟨x.toArray⟩ _ 0 (Nat.le_refl _)
          rw [ba_size] at hwd
          have HWD : Hid (wid x = widS ⟨x.toArray⟩ 0) := rfl
          generalize widS ⟨x.toArray⟩ 0 = wd at *
          have HNX := hidD hnx
          have HOW := hidD hown
          have hsn := hnx.size
          by_cases hbig : 255 < wd
          · clear hnx hown
            go_wp2_with (go_at_call 10; refine (HW.out _).mono ?_; rintro e w1 ⟨rfl, hb1⟩; have HB1 := hidD hb1; clear hb1)
            go_ret
            exact ⟨rfl, HNX.out.trans (HB1.out.mono hsn)⟩
          · have HF3 := hidD (HF2.out (by rw [HWD.out]; omega))
            clear HF2 HFJ
            have hbi : ¬ ((255 : Int) < wd) := by omega
            have HOW1 : Hid (∀ w', Below wr.heap.size wr w' → w'.ownsRow w.heap.size 3 1 (.slice a3 U.length c3) U.length (intsC U)) := fun w' hb => row_below HOW.out hb
            by_cases hje : j = U.length
            · have HMZ := hidD (more_zero hje)
              have HMA := hidD (more_app hje)
              have HUL := hidD (upd_len U j wd (by omega))
              subst hje
              clear hown hnx
              by_cases hz : 0 < wd
              · have HUP : Hid ((intsC (more U U.length)).set U.length (.int .i64 (wd : Int)) = intsC (upd U U.length wd)) := upd_less (by rw [HMZ.out]; exact hz)
                have hzi : (0 : Int) < wd := by omega
                go_wp2_with (first
                  | (go_at_call 10; refine (HW.out _).mono ?_; rintro e w1 ⟨rfl, hb1⟩; have HB1 := hidD hb1; have hs1 := hb1.size; clear hb1)
                  | (at_builtin; refine wpList_append_own _ rfl _ _ 32 rfl w.heap.size 3 i0 (.int .i64 0) 1 8 Try.underlying32 hi hz0 hz1 hz2 rfl (by decide) (.slice a3 U.length c3) U.length (intsC U) rfl ((HOW1.out w1 HB1.out).alloc _) ⟨w1.heap.size, 0, none⟩ 1 1 [.int .i64 0] rfl rfl (new_cell1 w1 _ _) (by simp [Value.oneCell']) (by unfold maxLen; omega) (by omega) (by simp; omega) ?_; intro v' w3 hown' hg3 hnil3; obtain ⟨g3, c', rfl, hg3b, hg3l, hg3c⟩ := row_shapeC hown' (by omega); have hc3 : w3.cell? ⟨g3, U.length, none⟩ = some (.int .i64 0) := (hown'.cellAt U.length (by omega)).trans (by simp [intsC]); have hf3 := hown'.frozenAt U.length; have HO3 := hidD hown'; have HG3 := hidD hg3; clear hown' hg3 hnil3)
                  | go_in)
                go_roundw
                case rel =>
                  have hb3 : Below w.heap.size w w3 := ((HNX.out.trans (HB1.out.mono hsn)).alloc (by omega) _).grown HG3.out (by simp; omega) (fun k hk => by
                    rcases HOW.out.2 with ⟨h0, _⟩ | ⟨g0, c0, cur, h0, hb0, _⟩
                    · rw [h0] at hk; simp [Value.ownBlock] at hk
                    · rw [h0] at hk; simp [Value.ownBlock] at hk; omega)
                  refine ⟨U.length + 1, by omega, by go_num, HF3.out, ?_, hb3.setCell (p := ⟨g3, U.length, none⟩) hg3b _⟩
                  have hv : w3.ownsRow w.heap.size 3 1 (.slice (some ⟨g3, 0, none⟩) (U.length + 1) c') (U.length + 1) (intsC (more U U.length)) := by rw [HMA.out]; simpa [intsC] using HO3.out
                  rw [HUN.out, HWD.out, HUL.out, ← HUP.out, show max U.length (U.length + 1) = (U.length + 1) by omega]
                  exact (hv.stored U.length _).1
                case measure => simp [intOf]; omega
              · have HUP : Hid (upd U U.length wd = more U U.length) := upd_not (by rw [HMZ.out]; exact hz)
                have hzi : ¬ ((0 : Int) < wd) := by omega
                go_wp2_with (first
                  | (go_at_call 10; refine (HW.out _).mono ?_; rintro e w1 ⟨rfl, hb1⟩; have HB1 := hidD hb1; have hs1 := hb1.size; clear hb1)
                  | (at_builtin; refine wpList_append_own _ rfl _ _ 32 rfl w.heap.size 3 i0 (.int .i64 0) 1 8 Try.underlying32 hi hz0 hz1 hz2 rfl (by decide) (.slice a3 U.length c3) U.length (intsC U) rfl ((HOW1.out w1 HB1.out).alloc _) ⟨w1.heap.size, 0, none⟩ 1 1 [.int .i64 0] rfl rfl (new_cell1 w1 _ _) (by simp [Value.oneCell']) (by unfold maxLen; omega) (by omega) (by simp; omega) ?_; intro v' w3 hown' hg3 hnil3; obtain ⟨g3, c', rfl, hg3b, hg3l, hg3c⟩ := row_shapeC hown' (by omega); have hc3 : w3.cell? ⟨g3, U.length, none⟩ = some (.int .i64 0) := (hown'.cellAt U.length (by omega)).trans (by simp [intsC]); have hf3 := hown'.frozenAt U.length; have HO3 := hidD hown'; have HG3 := hidD hg3; clear hown' hg3 hnil3)
                  | go_in)
                go_roundw
                case rel =>
                  have hb3 : Below w.heap.size w w3 := ((HNX.out.trans (HB1.out.mono hsn)).alloc (by omega) _).grown HG3.out (by simp; omega) (fun k hk => by
                    rcases HOW.out.2 with ⟨h0, _⟩ | ⟨g0, c0, cur, h0, hb0, _⟩
                    · rw [h0] at hk; simp [Value.ownBlock] at hk
                    · rw [h0] at hk; simp [Value.ownBlock] at hk; omega)
                  refine ⟨U.length + 1, by omega, by go_num, HF3.out, ?_, hb3⟩
                  have hv : w3.ownsRow w.heap.size 3 1 (.slice (some ⟨g3, 0, none⟩) (U.length + 1) c') (U.length + 1) (intsC (more U U.length)) := by rw [HMA.out]; simpa [intsC] using HO3.out
                  rw [HUN.out, HWD.out, HUP.out]
                  have hlen : (more U U.length).length = U.length + 1 := by rw [HMA.out]; simp
                  rw [hlen]
                  exact hv
                case measure => simp [intOf]; omega
            · have hjn : ¬ ((j : Int) = U.length) := by omega
              have hjb : ((j : Int) == (U.length : Int)) = false := by simp; omega
              have hjlt : j < U.length := by omega
              have hjlti : (j : Int) < U.length := by omega
              have HMA := hidD (more_same hje)
              have HUL := hidD (upd_len U j wd (by omega))
              obtain ⟨g3, c', e3, hg3b, hg3l, _⟩ := row_shapeC hown (by omega)
              cases e3
              have HCX : Hid (∀ w', Below wr.heap.size wr w' → w'.cell? ⟨g3, j, none⟩ = some (.int .i64 ((U.getD j 0 : Nat) : Int)) ∧ w'.frozen? ⟨g3, j, none⟩ = false) := fun w' hb => ⟨((HOW1.out w' hb).cellAt j (by omega)).trans (ints_at _ _ hjlt), (HOW1.out w' hb).frozenAt j⟩
              have HMG : Hid ((more U j).getD j 0 = U.getD j 0) := by show _ = _; rw [HMA.out]
              have HUP1 : Hid (U.getD j 0 < wd → (intsC U).set j (.int .i64 (wd : Int)) = intsC (upd U j wd)) := fun h => by
                have := upd_less (U := U) (j := j) (wd := wd) (by rw [HMG.out]; exact h)
                rwa [HMA.out] at this
              have HUP2 : Hid (¬ U.getD j 0 < wd → upd U j wd = U) := fun h => by
                have := upd_not (U := U) (j := j) (wd := wd) (by rw [HMG.out]; exact h)
                rwa [HMA.out] at this
              clear hown hje hnx
              generalize U.getD j 0 = m0 at *
              by_cases hz : m0 < wd
              · have hzi : (m0 : Int) < wd := by omega
                go_wp2_with (first
                  | (go_at_call 10; refine (HW.out _).mono ?_; rintro e w1 ⟨rfl, hb1⟩; have HB1 := hidD hb1; have hs1 := hb1.size; obtain ⟨hc1, hf1⟩ := HCX.out w1 hb1; clear hb1)
                  | go_in)
                go_roundw
                case rel =>
                  refine ⟨j + 1, by omega, by go_num, HF3.out, ?_, (HNX.out.trans (HB1.out.mono hsn)).setCell (p := ⟨g3, j, none⟩) hg3b _⟩
                  rw [HUN.out, HWD.out, HUL.out, ← HUP1.out hz, show max U.length (j + 1) = U.length by omega]
                  exact ((HOW1.out w1 HB1.out).stored j _).1
                case measure => simp [intOf]; omega
              · have hzi : ¬ ((m0 : Int) < wd) := by omega
                go_wp2_with (first
                  | (go_at_call 10; refine (HW.out _).mono ?_; rintro e w1 ⟨rfl, hb1⟩; have HB1 := hidD hb1; have hs1 := hb1.size; obtain ⟨hc1, hf1⟩ := HCX.out w1 hb1; clear hb1)
                  | go_in)
                go_roundw
                case rel =>
                  refine ⟨j + 1, by omega, by go_num, HF3.out, ?_, HNX.out.trans (HB1.out.mono hsn)⟩
                  rw [HUN.out, HWD.out, HUP2.out hz]
                  exact HOW1.out w1 HB1.out
                case measure => simp [intOf]; omega
        · obtain rfl : j = r.ss.length := by omega
          have HNX2 := hidD hnx
          have HO2 := hidD hown
          clear hnx hown
          go_wp2
          go_roundw
          case rel => exact ⟨n + 1, by omega, by go_num, HFM.out HFJ.out, by rw [HNXT.out]; exact HO2.out, HNX2.out⟩
          case measure => simp [intOf]; omega
    · obtain rfl : n = L.length := by omega
      have hwl := wsTo_len HS.out L.length (Nat.le_refl _)
      obtain ⟨a3, c3, rfl, hcw⟩ := cells_row HOWN.out
      have HCL : Hid (∀ w', Below wr.heap.size wr w' → CellsOf w' (.slice a3 (wsTo L L.length).length c3) (wsTo L L.length).length (intAt (wsTo L L.length))) := fun w' hb => hcw.below hb (Nat.le_refl _)
      have HCO : Hid (Calls Try.prog 11 #[.slice a L.length cap, .slice none 0 0] wr fun e w' => ∃ v, e = .returned v ∧ w'.ownsRow wr.heap.size 9 1 v L.length ((linesS L []).map encStr) ∧ Below wr.heap.size wr w') := columns_any L [] HS.out (by simp) a none cap 0 wr (HR.out wr hnx) (.inl ⟨rfl, none, 0, rfl⟩)
      have hll : ((L.length : Int) != (L.length : Int)) = false := by simp
      have hwb : ∀ k, (wsTo L L.length).getD k 0 ≤ 255 := fun k => by rw [wsTo_at]; exact maxTo_fits k _ HFT.out
      have HOF := hidD (fun k => offS_le hwb k)
      have HWB := hidD hwb
      have HON : Hid (∀ k, offS (wsTo L L.length) (k + 1) = offS (wsTo L L.length) k + (wsTo L L.length).getD k 0 + 2) := fun k => rfl
      have HRW := hidD (fun m hm => wsTo_row L L.length m hm)
      have HST := hidD (fun i (hi : i < L.length) k hk => cell_stands HFT.out hi (k := k) hk)
      clear hwb hcw hnx HOWN
      generalize wsTo L L.length = ws at *
      go_wp2_with (first
        | (go_at_call 11; refine HCO.out.mono ?_; rintro e w2 ⟨v2, rfl, hown2, hb2⟩; obtain ⟨a7, c7, rfl⟩ := row_shape hown2; have HO2 := hidD hown2; have HBW := hidD (HNX.out.trans (hb2.mono hszn)); have HC2 : Hid (∀ w', Below w2.heap.size w2 w' → CellsOf w' (.slice a3 ws.length c3) ws.length (intAt ws)) := fun w' hb => HCL.out w' (hb2.trans (hb.mono hb2.size)); clear hown2 hb2)
        | go_in)
      have hs2 := HBW.out.size
      clear HCO HCL HNX hszn
      go_loopw [8] (fun ii wq => ∃ i : Nat, i ≤ L.length ∧ ii = .int .i64 i ∧ Below w2.heap.size w2 wq) (fun ii _ => L.length - (intOf ii).toNat)
      case atStart => exact ⟨0, Nat.zero_le _, rfl, Below.refl _ _⟩
      case round =>
        obtain ⟨i, hi', rfl, hnx⟩ := hrel
        have HNX := hidD hnx
        have hsz3 := hnx.size
        by_cases hlt2 : i < L.length
        · have HNW := hidD (HBW.out.trans (hnx.mono hs2))
          have HC : Hid (∀ w', Below w.heap.size w w' → ∃ g off, a = some ⟨g, off, none⟩ ∧ w'.cell? ⟨g, off + i, none⟩ = some (.slice (L.getD i rw0).a (L.getD i rw0).ss.length (L.getD i rw0).cap)) := fun w' hb => by
            rcases (HR.out w' hb).1 with ⟨h0, _⟩ | ⟨g, off, cap', hsl, hg, hcl⟩
            · rw [h0] at hlt2; exact absurd hlt2 (by simp)
            · cases hsl; exact ⟨g, off, rfl, hcl i hlt2⟩
          obtain ⟨g, off, rfl, _⟩ := HC.out _ HNW.out
          have HCC : Hid (∀ w', Below w.heap.size w w' → w'.cell? ⟨g, off + i, none⟩ = some (.slice (L.getD i rw0).a (L.getD i rw0).ss.length (L.getD i rw0).cap)) := fun w' hb => by
            obtain ⟨g', off', e, h⟩ := HC.out w' hb
            cases e
            exact h
          have HSS : Hid (∀ w', Below w.heap.size w w' → StrsAt w' (.slice (L.getD i rw0).a (L.getD i rw0).ss.length (L.getD i rw0).cap) (L.getD i rw0).ss) := fun w' hb => (HR.out w' hb).2 _ (mem_getDR hlt2)
          obtain ⟨g7, c7', e7, _, _, _⟩ := row_shapeC HO2.out (by omega)
          cases e7
          have hcl : wr.cell? ⟨g7, i, none⟩ = some (.string ⟨(lineOf L [] i).toArray⟩) := ((row_below HO2.out hnx).cellAt i (by omega)).trans (linesS_at hlt2)
          have HCH := hidD (fun (w' : World) => chars_any (lineOf L [] i) (lineOf_len HS.out hlt2) w')
          have HSX := hidD (fun k hk => HST.out i hlt2 k hk)
          have hcll := chars_len (lineOf L [] i)
          have hlol := lineOf_len HS.out hlt2
          have hcC : (charsS (lineOf L [] i)).length ≤ 1099781111808 := by omega
          have hlti : (i : Int) < L.length := by omega
          have hrl := HS.out.cells _ (mem_getDR hlt2)
          have HTX := hidD (HS.out.texts _ (mem_getDR hlt2))
          have hrw := HRW.out i hlt2
          clear hnx HC hcll hlol
          generalize lineOf L [] i = Ln at *
          generalize L.getD i rw0 = r at *
          go_wp2_with (first
            | (go_at_call 12; refine (HCH.out _).mono ?_; rintro e w4 ⟨v9, rfl, hown9, hb9⟩; obtain ⟨a9, c9, rfl⟩ := row_shape hown9; have HO9 := hidD hown9; have HB4 := hidD (HNX.out.trans (hb9.mono hsz3)); clear hown9 hb9)
            | go_in)
          have hs4 := HB4.out.size
          clear hcl HCH HNX HNW hsz3
          go_loopw [10, 11] (fun tt kk wq => ∃ k : Nat, k ≤ r.ss.length ∧ kk = .int .i64 k ∧ tt = .int .i64 (offS ws k : Nat) ∧ Below w4.heap.size w4 wq) (fun _ kk _ => r.ss.length - (intOf kk).toNat)
          case atStart => exact ⟨0, Nat.zero_le _, rfl, rfl, Below.refl _ _⟩
          case round =>
            obtain ⟨k, hk, rfl, rfl, hnx⟩ := hrel
            have HNX := hidD hnx
            have hsz5 := hnx.size
            have HN2 := hidD (HB4.out.trans (hnx.mono hs4))
            have HNW := hidD (HBW.out.trans (HN2.out.mono hs2))
            have hcr := HCC.out _ HNW.out
            by_cases hkl : k < r.ss.length
            · rcases HSS.out _ HNW.out with ⟨h0, _⟩ | ⟨g2, off2, cap2, hsl2, hg2, hcl2'⟩
              · rw [h0] at hkl; exact absurd hkl (by simp)
              rw [Value.slice.injEq] at hsl2
              have e1 := hsl2.1
              clear hsl2
              have hcx : wr.cell? ⟨g2, off2 + k, none⟩ = some (.string ⟨(r.ss.getD k []).toArray⟩) := hcl2' k hkl
              have hxl := HTX.out _ (mem_getDS hkl)
              have hki : (k : Int) < r.ss.length := by omega
              rw [e1] at hcr
              obtain ⟨gw, offw, hew⟩ : ∃ gw offw, a3 = some ⟨gw, offw, none⟩ := by
                rcases HC2.out _ HN2.out with ⟨h0, _⟩ | ⟨gw, offw, capw, hslw, _⟩
                · omega
                · cases hslw; exact ⟨gw, offw, rfl⟩
              subst hew
              have HCW : Hid (∀ w', Below w2.heap.size w2 w' → w'.cell? ⟨gw, offw + k, none⟩ = some (.int .i64 ((ws.getD k 0 : Nat) : Int))) := fun w' hb => by
                rcases HC2.out w' hb with ⟨h0, _⟩ | ⟨g', o', c', hs', _, hc'⟩
                · omega
                · cases hs'; exact hc' k (by omega)
              have hkw : (k : Int) < ws.length := by omega
              obtain ⟨hs1, hs2'⟩ := HSX.out k hkl
              have HSE := hidD hs2'
              have HCH := hidD (fun (w' : World) => chars_any (r.ss.getD k []) (by omega) w')
              have hofb := HOF.out k
              have hwv := HWB.out k
              have HNE := hidD (HON.out k)
              clear hs2' hcl2' hnx
              generalize r.ss.getD k [] = x at *
              generalize ws.getD k 0 = wv at *
              generalize offS ws k = ok at *
              have hok : ok ≤ 270532608 := by omega
              clear hofb
              go_wp2_with (first
                | (go_at_call 12; refine (HCH.out _).mono ?_; rintro e w5 ⟨v5, rfl, hown5, hb5⟩; obtain ⟨a5, c5, rfl⟩ := row_shape hown5; have HO5 := hidD hown5; have HB5 := hidD hb5; have hsz6 := hb5.size; clear hown5 hb5)
                | (go_at_call 13; refine (stands_any (charsS Ln) (charsS x) ok hcC hs1 HSE.out a9 a5 c9 c5 w5 (strs_row (row_below HO9.out (HNX.out.trans (HB5.out.mono hsz5)))) (strs_row HO5.out)).mono ?_; rintro e w6 ⟨rfl, hb6⟩; have hcw := HCW.out w6 (HN2.out.trans ((HB5.out.trans (hb6.mono hsz6)).mono (Nat.le_trans hs4 hsz5))); have HB6 := hidD (HNX.out.trans ((HB5.out.trans (hb6.mono hsz6)).mono hsz5)); clear hb6)
                | go_in)
              go_roundw
              case rel => exact ⟨k + 1, by omega, by go_num, by rw [HNE.out]; go_num, HB6.out⟩
              case measure => simp [intOf]; omega
            · obtain rfl : k = r.ss.length := by omega
              clear hnx
              go_wp2
              go_roundw
              case rel => exact ⟨i + 1, by omega, by go_num, HN2.out⟩
              case measure => simp [intOf]; omega
        · clear hnx
          go_wp2
          go_ret
          exact ⟨rfl, HBW.out.trans (HNX.out.mono hs2)⟩
end Go.Proofs.Ytmmlmpcalhfigab
