/- What alternatives answers. -/
import Derived.Test.YtgmbkelmgolkpabDoorApt
namespace Go.Proofs.YtgmbkelmgolkpabDoor
open Go.RowKit
set_option linter.unusedVariables false

theorem slice_one {w0 : World} {B : Nat} {a : Option Addr} {cap n : Nat} {L : List Tx} (hb : SrAt w0 B (.slice a n cap) L) (h1 : 1 ≤ n) : ∃ a2, (∀ w, (Instr.sliceAt 48 (.slice a n cap) none (some (.int .i64 1)) (some (.int .i64 1))).run Tryd.prog w = .ok (.slice a2 1 1) w) ∧ SrAt w0 B (.slice a2 1 1) [L.getD 0 []] := by
  obtain ⟨a', cap', e, hc1, hc2, hc3⟩ := hb
  cases e
  have hu : Tryd.prog.underlying 48 = some (.slice (Tryd.prog.elem 48)) := by kernel_rfl
  have he : Tryd.prog.elem 48 = 9 := by kernel_rfl
  obtain ⟨i0, hin, _, hz1, _⟩ := info_parts Tryd.info9
  obtain ⟨g, o, cs, e1, e2, e3, e4⟩ := hc3 0 (by omega)
  refine ⟨a, fun w => ?_, a, 1, rfl, Nat.le_refl _, ⟨by omega, fun hn => by rw [hn] at e1; cases e1⟩, fun k hk => ?_⟩
  · rw [run_sliceAt_slice w 48 _ _ _ _ hu, run_slice_hm w 48 a _ cap hu .i64 .i64 1 1 (by omega) (by omega) (by omega), he, run_sizeOf w hin, Result.andThen_ok, e1]
    simp only [sliced, Nat.zero_mul, Option.map_some, Addr.add_lit, Nat.add_zero]
    rw [if_neg (by decide)]
    rfl
  · rw [List.length_singleton] at hk
    obtain rfl : k = 0 := by omega
    exact ⟨g, o, cs, e1, e2, e3, e4⟩
set_option maxRecDepth 100000 in
set_option maxHeartbeats 3200000 in
theorem alternatives_any (ws : List Tx) (h2 : 2 ≤ ws.length) (hwl : ws.length ≤ 4294967296) (v : Value) (w : World) (h : SrAt w w.heap.size v ws) : Calls Tryd.prog 28 #[v] w fun e w' => ∃ u vs, e = .returned u ∧ w'.ownsRow w.heap.size 48 1 u (alS ws).length vs ∧ RvAt w' w'.heap.size vs (alS ws) ∧ Below w.heap.size w w' := by
  obtain ⟨a, cap, rfl⟩ := h.shape
  obtain ⟨a1, hs1, hl1⟩ := slice_one h (by omega)
  obtain ⟨a2, cp2, hs2, hl2⟩ := slice_from h 2 h2
  have hs2 : ∀ w, (Instr.sliceAt 48 (.slice a ws.length cap) (some (.int .i64 2)) none none).run Tryd.prog w = .ok (.slice a2 (ws.length - 2) cp2) w := hs2
  have HL1 := hidD hl1
  have HL2 := hidD hl2
  have HAS : Hid (alS ws = (alTo ws (ws.length - 2)).1 ++ [(alTo ws (ws.length - 2)).2]) := rfl
  have HA0 : Hid (alTo ws 0 = ([], [ws.getD 0 []])) := rfl
  have HAN : Hid (∀ k, alTo ws (k + 1) = if ws.getD (2 + k) [] == tOr then ((alTo ws k).1 ++ [(alTo ws k).2], [ws.getD 0 []]) else ((alTo ws k).1, (alTo ws k).2 ++ [ws.getD (2 + k) []])) := fun k => rfl
  have HLE := hidD (al_len ws)
  have HCU := hidD (al_cur ws)
  have HDL : Hid ((ws.drop 2).length = ws.length - 2) := List.length_drop
  have HDG : Hid (∀ k, (ws.drop 2).getD k [] = ws.getD (2 + k) []) := fun k => getD_drop ws 2 k
  have HAL : Hid (∀ (w' : World) o, Below w'.heap.size w' (w'.alloc o)) := fun w' o => (Below.refl _ _).alloc (Nat.le_refl _) o
  clear h hl1 hl2
  generalize hm : ws.length - 2 = m at *
  have hmb : m ≤ 4294967296 := by omega
  clear hm
  generalize ws.length = n at *
  go_enter Tryd.func28, Tryd.ntmps28
  go_wp2
  go_loopw [4, 5, 14] (fun rs r i wr => ∃ (k B : Nat) (vs : List Value), k ≤ m ∧ i = .int .i64 k ∧ wr.ownsRow w.heap.size 48 1 rs (alTo ws k).1.length vs ∧ RvAt wr B vs (alTo ws k).1 ∧ CurAt wr B r (alTo ws k).2 ∧ B ≤ wr.heap.size ∧ w.heap.size ≤ B ∧ Below w.heap.size w wr) (fun _ _ i _ => m - (intOf i).toNat)
  case atStart =>
    refine ⟨0, w.heap.size, [], Nat.zero_le _, rfl, ?_, ?_, ?_, Nat.le_refl _, Nat.le_refl _, Below.refl _ _⟩
    · rw [HA0.out]; exact World.ownsRow_nil _ _ _ _
    · rw [HA0.out]; exact RvAt.nil _ _
    · rw [HA0.out]; exact .inr ⟨⟨a1, rfl⟩, HL1.out⟩
  case round =>
    obtain ⟨k, B, vs, hk, rfl, hown, hrv, hcur, hB1, hB2, hbel⟩ := hrel
    have HRV := hidD hrv
    have HOW := hidD hown
    have HCR := hidD hcur
    have HBW := hidD hbel
    have HB1 := hidD hB1
    have HB2 := hidD hB2
    have HLK := hidD (HLE.out k)
    have HCK := hidD (HCU.out k).2
    have HNK := hidD (HAN.out k)
    obtain ⟨a4, c4, h4⟩ := row_shape hown
    obtain ⟨a5, c5, h5⟩ := hcur.sr.shape
    subst h4
    subst h5
    clear hown hrv hcur hbel hB1 hB2
    by_cases hlt : k < m
    · have hlti : (k : Int) < m := by omega
      obtain ⟨g2, o2, rfl, hg2, _, fk0⟩ := HL2.out.cell (k := k) (by have := HDL.out; omega)
      have fk : wr.cell? ⟨g2, o2 + k, none⟩ = some (encT (ws.getD (2 + k) [])) := by rw [HBW.out.cell (p := ⟨g2, o2 + k, none⟩) hg2, fk0, HDG.out]
      clear fk0
      unfold encT at fk
      have hA := ba_list (ws.getD (2 + k) [])
      have HOR : Hid ((bA (ws.getD (2 + k) [])).toList = [124] ↔ ws.getD (2 + k) [] = tOr) := by show _ ↔ _; rw [hA]; rfl
      clear hA
      generalize ws.getD (2 + k) [] = x at *
      generalize hDN : (alTo ws k).1 = DN at *
      generalize hCR : (alTo ws k).2 = CR at *
      clear hDN hCR
      generalize hdl : DN.length = dl at *
      generalize hcl : CR.length = cl at *
      have HDN := hidD hdl
      have HCL := hidD hcl
      have hdb : dl ≤ 4294967296 := by have := HLK.out; omega
      have hcb : cl ≤ 4294967297 := by have := HCK.out; omega
      clear hdl hcl
      by_cases e1 : (bA x).toList = [124]
      · have e1d : ((bA x).toList == [124]) = true := beq_iff_eq.2 e1
        rw [if_pos (by rw [HOR.out.1 e1]; rfl)] at HNK
        have HO6 := hidD (fun o => row_below HOW.out (HAL.out wr o))
        have HR6 := hidD (fun o => RvAt.next HRV.out (HAL.out wr o))
        have HC6 := hidD (fun o => CurAt.next HCR.out (HAL.out wr o))
        go_wp2_with (at_builtin; refine wpList_append_one Tryd.info48 rfl (by decide) Tryd.under50 rfl _ _ rfl w.heap.size (.slice a4 dl c4) dl vs rfl (HO6.out _) wr.heap.size (.slice a5 cl c5) rfl (new_cell1 wr (.slice a5 cl c5) 48 0 _ rfl) rfl (by omega) (by have := HBW.out.size; simp; omega) ?_; intro v8 w8 hown8 hb8 hk8; have HO8 := hidD hown8; have HB8 := hidD (Below.trans (Below.next HBW.out (HAL.out _ _)) hb8); have HR8 := hidD ((((HR6.out _).stay hk8 (by decide)).mono (show B ≤ w8.heap.size by have := HB1.out; have := hb8.size; simp at this; omega)).more (RvAt.one (((HC6.out _).sr.stay hk8 (by decide)).all))); have HL8 : Hid (SrAt w8 w8.heap.size (.slice a1 1 1) [ws.getD 0 []]) := (((HL1.out.below HBW.out (Nat.le_refl _)).next (HAL.out _ _)).stay hk8 (by decide)).all; clear hown8 hb8 hk8)
        go_roundw
        case rel =>
          refine ⟨k + 1, w8.heap.size, vs ++ [.slice a5 cl c5], by omega, by go_num, ?_, ?_, ?_, Nat.le_refl _, HB8.out.size, HB8.out⟩
          · rw [HNK.out]; simp only [List.length_append, List.length_singleton, HDN.out]; exact HO8.out
          · rw [HNK.out]; exact HR8.out
          · rw [HNK.out]; exact .inr ⟨⟨a1, rfl⟩, HL8.out⟩
        case measure => simp [intOf]; omega
      · have e1d : ((bA x).toList == [124]) = false := beq_eq_false_iff_ne.2 e1
        rw [if_neg (fun h => e1 (HOR.out.2 (beq_iff_eq.1 h)))] at HNK
        have HO6 := hidD (fun o => row_below HOW.out (HAL.out wr o))
        have HR6 := hidD (fun o => RvAt.next HRV.out (HAL.out wr o))
        have HC6 := hidD (fun o => CurAt.next HCR.out (HAL.out wr o))
        go_wp2_with (at_builtin; refine wpList_append_cur rfl _ _ rfl B (.slice a5 cl c5) CR rfl (HC6.out _) wr.heap.size x rfl (new_cell1 wr (encT x) 9 0 _ rfl) (by rw [HCL.out]; omega) (by have := HB1.out; simp; omega) ?_; intro v8 w8 hown8 hb8 hk8; have HO8 := hidD hown8; have HB8 := hidD (Below.trans (Below.next HBW.out (HAL.out _ _)) (hb8.mono HB2.out)); have HR8 := hidD ((HR6.out _).below hb8 (Nat.le_refl _)); have HS8 := hidD (Kept.row (HO6.out _) hk8 (by decide)); have HZ8 : Hid (B ≤ w8.heap.size) := by { have := HB1.out; have := hb8.size; simp at this; show _ ≤ _; omega }; clear hown8 hb8 hk8)
        go_roundw
        case rel =>
          refine ⟨k + 1, B, vs, by omega, by go_num, ?_, ?_, ?_, HZ8.out, HB2.out, HB8.out⟩
          · rw [HNK.out]; simp only [HDN.out]; exact HS8.out
          · rw [HNK.out]; exact HR8.out
          · rw [HNK.out]; refine .inl ?_; simp only [List.length_append, List.length_singleton]; exact HO8.out
        case measure => simp [intOf]; omega
    · obtain rfl : m = k := by omega
      generalize hDN : (alTo ws m).1 = DN at *
      generalize hCR : (alTo ws m).2 = CR at *
      clear hDN hCR
      generalize hdl : DN.length = dl at *
      generalize hcl : CR.length = cl at *
      have HDN := hidD hdl
      have hdb : dl ≤ 4294967296 := by have := HLK.out; omega
      clear hdl hcl
      have HO6 := hidD (fun o => row_below HOW.out (HAL.out wr o))
      have HR6 := hidD (fun o => RvAt.next HRV.out (HAL.out wr o))
      have HC6 := hidD (fun o => CurAt.next HCR.out (HAL.out wr o))
      go_wp2_with (at_builtin; refine wpList_append_one Tryd.info48 rfl (by decide) Tryd.under50 rfl _ _ rfl w.heap.size (.slice a4 dl c4) dl vs rfl (HO6.out _) wr.heap.size (.slice a5 cl c5) rfl (new_cell1 wr (.slice a5 cl c5) 48 0 _ rfl) rfl (by omega) (by have := HBW.out.size; simp; omega) ?_; intro v8 w8 hown8 hb8 hk8; have HO8 := hidD hown8; have HB8 := hidD (Below.trans (Below.next HBW.out (HAL.out _ _)) hb8); have HR8 := hidD ((((HR6.out _).stay hk8 (by decide)).mono (show B ≤ w8.heap.size by have := HB1.out; have := hb8.size; simp at this; omega)).more (RvAt.one (((HC6.out _).sr.stay hk8 (by decide)).all))); clear hown8 hb8 hk8)
      go_ret
      refine ⟨_, _, rfl, ?_, by rw [HAS.out]; exact HR8.out, HB8.out⟩
      rw [HAS.out, List.length_append, List.length_singleton, HDN.out]; exact HO8.out
end Go.Proofs.YtgmbkelmgolkpabDoor
