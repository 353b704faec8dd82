/- The builder that a call has made itself: a text that is written. -/
import Derived.Test.YtgmbkelmgolkpabDoorApt
import Derived.Test.YtgmbkelmgolkpabDoorShelf
import Derived.Lib.FrozenHead
namespace Go.Proofs.YtgmbkelmgolkpabDoor
open Go.RowKit
set_option linter.unusedVariables false

/-- A builder of one's own that was begun: these bytes are in it. -/
def BdAt (w : World) (B b : Nat) (l : List UInt8) : Prop := Lib.BuilderAtF 74 5 B b (.pointer (some ⟨b, 0, none⟩)) (Lib.byteCells l) w
theorem Tryd.info5 : (Tryd.prog.info? 5).map (fun i => (i.zero, i.size, i.bytes)) = some (some (.int .u8 0), 1, 1) := by kernel_rfl
theorem Tryd.under72 : Tryd.prog.underlying 72 = some (.slice 5) := by kernel_rfl
theorem Tryd.under9s : Tryd.prog.underlying 9 = some .string := by kernel_rfl
theorem Tryd.under71 : Tryd.prog.underlying 71 = some (.pointer 74) := by kernel_rfl
theorem Tryd.info74 : (Tryd.prog.info? 74).isSome = true := by kernel_rfl
set_option maxRecDepth 100000 in
theorem copyCheck_any (b : Nat) (w : World) (h0 : w.cell? ⟨b, 0, none⟩ = some (.pointer (some ⟨b, 0, none⟩))) : Calls Tryd.prog 66 #[.pointer (some ⟨b, 0, none⟩)] w fun e w' => e = .returned (.tuple #[]) ∧ w' = w := by
  obtain ⟨j, hj⟩ := Option.isSome_iff_exists.1 Tryd.info74
  go_enter Tryd.func66, Tryd.ntmps66
  go_wp2
  rw [Lib.run_neq_ptr_same w _ Tryd.under71 hj]
  go_wp2
  go_end0
  exact ⟨rfl, rfl⟩
set_option maxRecDepth 100000 in
set_option maxHeartbeats 800000 in
theorem writeString_any (B b : Nat) (l x : List UInt8) (w : World) (h : BdAt w B b l) (hl : l.length + x.length ≤ 140737488355328) (hB : B ≤ w.heap.size) : Calls Tryd.prog 55 #[.pointer (some ⟨b, 0, none⟩), .string ⟨x.toArray⟩] w fun e w' => e = .returned (.tuple #[.int .i64 (x.length : Int), .nilIface]) ∧ BdAt w' B b (l ++ x) ∧ Below B w w' := by
  obtain ⟨i0, hi, hz0, hz1, hz2⟩ := info_parts Tryd.info5
  obtain ⟨hBb, v, hbk, hown, hne⟩ := h
  have HCC := hidD (copyCheck_any b w (by rw [Lib.cell_of_heap hbk]; rfl))
  have c0 : w.cell? ⟨b, 0, none⟩ = some (.pointer (some ⟨b, 0, none⟩)) := by rw [Lib.cell_of_heap hbk]; rfl
  have c1 : w.cell? ⟨b, 1, none⟩ = some v := by rw [Lib.cell_of_heap hbk]; rfl
  have hbl : (Lib.byteCells l).length = l.length := Lib.byteCells_length l
  have hsz : (⟨x.toArray⟩ : ByteArray).size = x.length := by simp [ByteArray.size]
  have HSC : Hid (Lib.byteCells l ++ Lib.strCells ⟨x.toArray⟩ = Lib.byteCells (l ++ x)) := by show _ = _; simp [Lib.byteCells, Lib.strCells]
  have HOW := hidD hown
  have HBK := hidD hbk
  have HNE := hidD hne
  have hlt : b < w.heap.size := row_lt hbk
  obtain ⟨ao, n0, cap0, hv⟩ : ∃ ao n0 cap0, v = .slice ao n0 cap0 := by
    rcases hown.2 with ⟨hv, _⟩ | ⟨g, cap, cur, fz, hv, _⟩
    · exact ⟨_, _, _, hv⟩
    · exact ⟨_, _, _, hv⟩
  subst hv
  clear hown hbk hne
  go_enter Tryd.func55, Tryd.ntmps55
  go_wp2_with first
    | (at_builtin; refine Lib.wpList_append_own_stringF _ rfl _ _ 72 9 rfl B 5 i0 Tryd.under72 Tryd.under9s hi hz0 hz1 hz2 (.slice ao n0 cap0) _ _ rfl HOW.out ⟨x.toArray⟩ rfl ?_ ?_ hB ?_
       · rw [hbl, hsz]; unfold maxLen; omega
       · rw [hbl, hsz]; omega
       intro v2 w2 hown2 hgrow _
       have hb2 : w2.heap[b]? = some (.cells #[.pointer (some ⟨b, 0, none⟩), .slice ao n0 cap0] 74 (0, 0)) := by rw [hgrow.block b hlt (fun e => HNE.out e.symm)]; exact HBK.out
       have d0 : w2.cell? ⟨b, 0, none⟩ = some (.pointer (some ⟨b, 0, none⟩)) := by rw [Lib.cell_of_heap hb2]; rfl
       have d1 : w2.cell? ⟨b, 1, none⟩ = some (.slice ao n0 cap0) := by rw [Lib.cell_of_heap hb2]; rfl
       have d2 : w2.frozen? ⟨b, 1, none⟩ = false := Lib.frozen_of_heap hb2 1
       have HB2 := hidD hb2
       have HOW2 := hidD hown2
       have HGR := hidD hgrow
       obtain ⟨a2, n2, cap2, hv2⟩ : ∃ a2 n2 cap2, v2 = .slice a2 n2 cap2 := by
         rcases hown2.2 with ⟨hv, _⟩ | ⟨g, cap, cur, fz, hv, _⟩
         · exact ⟨_, _, _, hv⟩
         · exact ⟨_, _, _, hv⟩
       subst hv2
       clear hown2 hgrow hb2)
    | (go_at_call 66; refine HCC.out.mono ?_; rintro e w1 ⟨rfl, hw⟩; subst w1)
  refine bodyPost_ret (v := .tuple #[.int .i64 (x.length : Int), .nilIface]) (by simp [results, Tryd.results55, go_sem]) rfl ?_
  refine ⟨rfl, ?_, ?_⟩
  · refine Lib.BuilderAtF.put (T := 74) (e := 5) hBb HB2.out ?_ (by decide)
    rw [← HSC.out, List.length_append, Lib.strCells_length]
    exact HOW2.out
  · refine ((Below.refl B w).grown HGR.out hB (fun k hk => ?_)).setCell (p := ⟨b, 1, none⟩) hBb _
    rcases HOW.out.2 with ⟨hv, _⟩ | ⟨g, cap, cur, fz, hv, hg, _⟩
    · rw [hv] at hk; cases hk
    · rw [hv] at hk; cases hk; exact hg
end Go.Proofs.YtgmbkelmgolkpabDoor
