/- What columnWidths of the program answers: how wide each column is. -/
import Derived.Test.YtmmlmpcalhfigabColS
import Derived.Test.YtmmlmpcalhfigabLeft
import Derived.Deep.RegionWith
namespace Go.Proofs.Ytmmlmpcalhfigab
open Go.RowKit Go.Maps Go.Sort
set_option linter.unusedVariables false

theorem Try.info3 : (Try.prog.info? 3).map (fun i => (i.zero, i.size, i.bytes)) = some (some (.int .i64 0), 1, 8) := by kernel_rfl
theorem row_shapeC {w : World} {base e size n : Nat} {v : Value} {xs : List Value} (h : w.ownsRow base e size v n xs) (hn : 0 < n) : ∃ g cap, v = .slice (some ⟨g, 0, none⟩) n cap ∧ base ≤ g ∧ g < w.heap.size ∧ n ≤ cap := by
  rcases h.2 with ⟨rfl, rfl⟩ | ⟨g, cap, cur, rfl, hb, hg, hc, _⟩
  · omega
  · refine ⟨g, cap, rfl, hb, ?_, hc⟩
    rcases Nat.lt_or_ge g w.heap.size with h' | h'
    · exact h'
    · rw [Array.getElem?_eq_none h'] at hg; cases hg
theorem row_shape {w : World} {base e size n : Nat} {v : Value} {xs : List Value} (h : w.ownsRow base e size v n xs) : ∃ a cap, v = .slice a n cap := by
  rcases h.2 with ⟨rfl, rfl⟩ | ⟨g, cap, cur, rfl, _⟩
  · exact ⟨none, 0, rfl⟩
  · exact ⟨_, cap, rfl⟩
theorem row_below {B : Nat} {e : TypeId} {k : Nat} {v : Value} {n : Nat} {xs : List Value} {w w' : World} (h : w.ownsRow B e k v n xs) (hb : Below w.heap.size w w') : w'.ownsRow B e k v n xs := by
  refine ⟨h.1, ?_⟩
  rcases h.2 with h0 | ⟨g, cap, cur, hv, hbg, hg, h3, h4, h5, h6⟩
  · exact .inl h0
  · refine .inr ⟨g, cap, cur, hv, hbg, ?_, h3, h4, h5, h6⟩
    rw [hb.block g ?_]
    · exact hg
    · rcases Nat.lt_or_ge g w.heap.size with h' | h'
      · exact h'
      · rw [Array.getElem?_eq_none h'] at hg; cases hg

theorem new_cell1 (w : World) (u : Value) (t : TypeId) : ∀ j v, [u][j]? = some v → (w.alloc (.cells #[u] t)).cell? ((⟨w.heap.size, 0, none⟩ : Addr).add j) = some v := fun j v h => by
  rw [Go.WideShapes.add_plain, World.cell?_alloc_new]
  cases j with
  | zero => simpa using h
  | succ j => simp at h
set_option maxRecDepth 100000 in
set_option maxHeartbeats 1000000 in
theorem colWidths_any (L : List Rw) (hs : SmallRows L) (a : Option Addr) (cap : Nat) (w : World) (hR : RowsAt w (.slice a L.length cap) L) :
    Calls Try.prog 18 #[.slice a L.length cap] w fun e w' => ∃ v, e = .returned v ∧ w'.ownsRow w.heap.size 3 1 v (wsTo L L.length).length (intsC (wsTo L L.length)) ∧ Below w.heap.size w w' := by
  have hl := hs.rows
  obtain ⟨i0, hi, hz0, hz1, hz2⟩ := info_parts Try.info3
  have HS := hidD hs
  have HR : Hid (∀ w', Below w.heap.size w w' → RowsAt w' (.slice a L.length cap) L) := fun w' hb => hR.below hb (Nat.le_refl _)
  clear hR hs
  go_enter Try.func18, Try.ntmps18
  go_wp2_with fail
  go_loopw [3, 10] (fun ww ii wr => ∃ n : Nat, n ≤ L.length ∧ ii = .int .i64 n ∧ wr.ownsRow w.heap.size 3 1 ww (wsTo L n).length (intsC (wsTo L n)) ∧ Below w.heap.size w wr) (fun _ ii _ => L.length - (intOf ii).toNat)
  case atStart => exact ⟨0, Nat.zero_le _, rfl, World.ownsRow_nil _ _ _ _, Below.refl _ _⟩
  case round =>
    obtain ⟨n, hn, rfl, hown, hnx⟩ := hrel
    have HNX := hidD hnx
    have HOWN := hidD hown
    have hszn := hnx.size
    clear hown
    by_cases hlt : n < L.length
    · have hRw := HR.out wr hnx
      have hst := hRw.2 _ (mem_getDR hlt)
      rcases hRw.1 with ⟨h0, _⟩ | ⟨g, off, cap', hsl, hg, hcl⟩
      · rw [h0] at hlt; exact absurd hlt (by simp)
      cases hsl
      have hc := hcl n hlt
      have hni : (n : Int) < L.length := by omega
      have hcl2 := HS.out.cells _ (mem_getDR hlt)
      have HTX := hidD (HS.out.texts _ (mem_getDR hlt))
      have hw0 := wsTo_len HS.out n hn
      have HNXT : Hid (wsTo L (n + 1) = updRow (wsTo L n) (L.getD n rw0) (L.getD n rw0).ss.length) := rfl
      have HST : Hid (∀ w', Below w.heap.size w w' → StrsAt w' (.slice (L.getD n rw0).a (L.getD n rw0).ss.length (L.getD n rw0).cap) (L.getD n rw0).ss) := fun w' hb => (HR.out w' hb).2 _ (mem_getDR hlt)
      clear hcl hRw hnx hst
      generalize L.getD n rw0 = r at *
      generalize wsTo L n = ws0 at *
      go_wp2_with fail
      go_loopw [3, 16] (fun ww ii wq => ∃ j : Nat, j ≤ r.ss.length ∧ ii = .int .i64 j ∧ wq.ownsRow w.heap.size 3 1 ww (updRow ws0 r j).length (intsC (updRow ws0 r j)) ∧ Below w.heap.size w wq) (fun _ ii _ => r.ss.length - (intOf ii).toNat)
      case atStart => exact ⟨0, Nat.zero_le _, rfl, HOWN.out, HNX.out⟩
      case round =>
        clear HOWN HNX hc hszn
        obtain ⟨j, hj, rfl, hown, hnx⟩ := hrel
        by_cases hjl : j < r.ss.length
        · have hst := HST.out _ hnx
          rcases hst with ⟨h0, _⟩ | ⟨g2, off2, cap2, hsl2, hg2, hcl2'⟩
          · rw [h0] at hjl; exact absurd hjl (by simp)
          rw [Value.slice.injEq] at hsl2
          have e1 := hsl2.1
          clear hsl2
          have hcx := hcl2' j hjl
          have hxl := HTX.out _ (mem_getDS hjl)
          have hji : (j : Int) < r.ss.length := by omega
          have hul := updRow_len ws0 r j
          have HUN : Hid (updRow ws0 r (j + 1) = upd (updRow ws0 r j) j (wid (r.ss.getD j []))) := rfl
          rw [e1]
          have hju : j ≤ (updRow ws0 r j).length := by omega
          have hub : (updRow ws0 r j).length ≤ 1048576 := by omega
          clear hul hcl2'
          generalize updRow ws0 r j = U at *
          have hcx' : wr.cell? ⟨g2, off2 + j, none⟩ = some (.string ⟨(r.ss.getD j []).toArray⟩) := hcx
          clear hcx
          generalize r.ss.getD j [] = x at *
          obtain ⟨a3, c3, rfl⟩ := row_shape hown
          have HW := hidD (fun (w : World) => width_any ⟨x.toArray⟩ (by rw [ba_size]; unfold maxLen; omega) w)
          have hwd := widS_le ⟨x.toArray⟩ _ 0 (Nat.le_refl _)
          rw [ba_size] at hwd
          have HWD : Hid (wid x = widS ⟨x.toArray⟩ 0) := rfl
          generalize widS ⟨x.toArray⟩ 0 = wd at *
          have HNX := hidD hnx
          have hsn := hnx.size
          by_cases hje : j = U.length
          · have HMA := hidD (more_app hje)
            subst hje
            have HOA : Hid (∀ o, (wr.alloc o).ownsRow w.heap.size 3 1 (.slice a3 U.length c3) U.length (intsC U)) := fun o => hown.alloc o
            clear hown hnx
            go_wp2_with (first
              | (at_builtin; refine wpList_append_own _ rfl _ _ 32 rfl w.heap.size 3 i0 (.int .i64 0) 1 8 Try.underlying32 hi hz0 hz1 hz2 rfl (by decide) (.slice a3 U.length c3) U.length (intsC U) rfl (HOA.out _) ⟨wr.heap.size, 0, none⟩ 1 1 [.int .i64 0] rfl rfl (new_cell1 wr _ _) (by simp [Value.oneCell']) (by unfold maxLen; omega) (by omega) (by simp; omega) ?_; intro v' w3 hown' hg3 hnil3)
              | go_in)
            obtain ⟨g3, c', rfl, hg3b, hg3l, _⟩ := row_shapeC hown' (by omega)
            have hv : w3.ownsRow w.heap.size 3 1 (.slice (some ⟨g3, 0, none⟩) (U.length + 1) c') (U.length + 1) (intsC (more U U.length)) := by rw [HMA.out]; simpa [intsC] using hown'
            have HVL : Hid ((more U U.length).length = U.length + 1) := by show _ = _; rw [HMA.out]; simp
            have hbx : Below w.heap.size w w3 := ((HNX.out).alloc hsn _).grown hg3 (by simp; omega) (fun k hk => by
              obtain ⟨g0, c0, e0, hb0⟩ : ∃ g0 c0, Value.slice a3 U.length c3 = .slice (some ⟨g0, 0, none⟩) U.length c0 ∧ w.heap.size ≤ g0 := by
                rcases (HOA.out (.cells #[] 3)).2 with ⟨h0, _⟩ | ⟨g0, c0, cur, h0, hb0, _⟩
                · rw [h0] at hk; simp [Value.ownBlock] at hk
                · exact ⟨g0, c0, h0, hb0⟩
              rw [e0] at hk
              simp [Value.ownBlock] at hk
              omega)
            clear hown' hg3 hnil3 HMA HOA
            have hcx3 := (hv.cellAt U.length (by omega)).trans (ints_at _ _ (by rw [HVL.out]; omega))
            have hfx3 := hv.frozenAt U.length
            have HCX : Hid (∀ w', Below w3.heap.size w3.drew w' → w'.cell? ⟨g3, U.length, none⟩ = some (.int .i64 (((more U U.length).getD U.length 0 : Nat) : Int))) := fun w' hb => (hb.cell (p := ⟨g3, U.length, none⟩) hg3l).trans hcx3
            have HVB : Hid (∀ w', Below w3.heap.size w3.drew w' → w'.ownsRow w.heap.size 3 1 (.slice (some ⟨g3, 0, none⟩) (U.length + 1) c') (U.length + 1) (intsC (more U U.length))) := fun w' hb => row_below (w := w3.drew) hv hb
            have HFX : Hid (∀ w', Below w3.heap.size w3.drew w' → w'.frozen? ⟨g3, U.length, none⟩ = false) := fun w' hb => (HVB.out w' hb).frozenAt U.length
            have HBX := hidD hbx
            have HST2 := hidD (ints_set U U.length wd)
            have HUL := hidD (upd_len U U.length wd (by omega))
            have hsx := HBX.out.size
            clear hv HVL
            generalize (more U U.length).getD U.length 0 = m0 at *
            go_region_with (go_at_call 10; refine (HW.out _).mono ?_; rintro e w1 ⟨rfl, hb1⟩; have hc1 := HCX.out w1 hb1; have hf1 := HFX.out w1 hb1; have HB1 := hidD hb1; clear hb1)
            all_goals
              go_wp2
              go_roundw
              case rel =>
                refine ⟨U.length + 1, by omega, by go_num, ?_, ((HBX.out.drew).trans (HB1.out.mono hsx)).setCell (p := ⟨g3, U.length, none⟩) hg3b _⟩
                rw [HUN.out, HWD.out, HUL.out, ← HST2.out, show max U.length (U.length + 1) = (U.length + 1) by omega]
                exact ((HVB.out w1 HB1.out).stored U.length _).1
              case measure => simp [intOf]; omega
          · have hjn : ¬ ((j : Int) = U.length) := by omega
            have hjb : ((j : Int) == (U.length : Int)) = false := by simp; omega
            have hjlt : j < U.length := by omega
            have hjlti : (j : Int) < U.length := by omega
            have HMA := hidD (more_same hje)
            obtain ⟨g3, c', e3, hg3b, hg3l, _⟩ := row_shapeC hown (by omega)
            cases e3
            have hv : wr.ownsRow w.heap.size 3 1 (.slice (some ⟨g3, 0, none⟩) U.length c3) U.length (intsC (more U j)) := by rw [HMA.out]; exact hown
            have HVL : Hid ((more U j).length = U.length) := by show _ = _; rw [HMA.out]
            have hbx := hnx
            clear hown hje
            have hcx3 := (hv.cellAt j (by omega)).trans (ints_at _ _ (by rw [HVL.out]; omega))
            have hfx3 := hv.frozenAt j
            have HCX : Hid (∀ w', Below wr.heap.size wr.drew w' → w'.cell? ⟨g3, j, none⟩ = some (.int .i64 (((more U j).getD j 0 : Nat) : Int))) := fun w' hb => (hb.cell (p := ⟨g3, j, none⟩) hg3l).trans hcx3
            have HVB : Hid (∀ w', Below wr.heap.size wr.drew w' → w'.ownsRow w.heap.size 3 1 (.slice (some ⟨g3, 0, none⟩) U.length c3) U.length (intsC (more U j))) := fun w' hb => row_below (w := wr.drew) hv hb
            have HFX : Hid (∀ w', Below wr.heap.size wr.drew w' → w'.frozen? ⟨g3, j, none⟩ = false) := fun w' hb => (HVB.out w' hb).frozenAt j
            have HBX := hidD hbx
            have HST2 := hidD (ints_set U j wd)
            have HUL := hidD (upd_len U j wd (by omega))
            have hsx := HBX.out.size
            clear hv HVL
            generalize (more U j).getD j 0 = m0 at *
            clear hbx hnx
            go_wp2_with fail
            go_region_with (go_at_call 10; refine (HW.out _).mono ?_; rintro e w1 ⟨rfl, hb1⟩; have hc1 := HCX.out w1 hb1; have hf1 := HFX.out w1 hb1; have HB1 := hidD hb1; clear hb1)
            all_goals
              go_wp2
              go_roundw
              case rel =>
                refine ⟨j + 1, by omega, by go_num, ?_, ((HBX.out.drew).trans (HB1.out.mono hsx)).setCell (p := ⟨g3, j, none⟩) hg3b _⟩
                rw [HUN.out, HWD.out, HUL.out, ← HST2.out, show max U.length (j + 1) = U.length by omega]
                exact ((HVB.out w1 HB1.out).stored j _).1
              case measure => simp [intOf]; omega
        · obtain rfl : j = r.ss.length := by omega
          have HNX2 := hidD hnx
          have HO2 := hidD hown
          clear hnx hown
          go_wp2
          go_roundw
          case rel => exact ⟨n + 1, by omega, by go_num, by rw [HNXT.out]; exact HO2.out, HNX2.out⟩
          case measure => simp [intOf]; omega
    · obtain rfl : n = L.length := by omega
      go_wp2_with fail
      go_ret
      exact ⟨_, rfl, HOWN.out, HNX.out⟩
end Go.Proofs.Ytmmlmpcalhfigab
