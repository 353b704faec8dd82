/- The builder that a call has made itself: a text that is written. -/
import Derived.Test.YtpemajghaceegaaGreatDoorHxd
import Derived.Test.YtpemajghaceegaaGreatDoorShelf
import Derived.Lib.FrozenHead
import Derived.Laws.Externs
namespace Go.Proofs.YtpemajghaceegaaGreatDoor
open Go.RowKit
set_option linter.unusedVariables false

/-- A builder of one's own that was begun: these bytes are in it. -/
def BdAt (w : World) (B b : Nat) (l : List UInt8) : Prop := Lib.BuilderAtF 93 5 B b (.pointer (some ⟨b, 0, none⟩)) (Lib.byteCells l) w
/-- A builder of one's own, begun or not. -/
def BdIs (w : World) (B b : Nat) (l : List UInt8) : Prop := Lib.IsBuilderF 93 5 B b (Lib.byteCells l) w
theorem Tryz.underBu : Tryz.prog.underlying 34 = some (.slice 5) := by kernel_rfl
theorem Tryz.under9s : Tryz.prog.underlying 9 = some .string := by kernel_rfl
theorem Tryz.under110 : Tryz.prog.underlying 91 = some (.pointer 93) := by kernel_rfl
theorem Tryz.under142 : Tryz.prog.underlying 154 = some .unsafePointer := by kernel_rfl
theorem Tryz.info113 : (Tryz.prog.info? 93).map (·.size) = some 2 := by kernel_rfl
theorem Tryz.lies113 : liesAt Tryz.prog Tryz.prog.depth 93 (2 / Tryz.prog.cellsOf 93) 0 93 1 = true := by kernel_rfl
set_option maxRecDepth 100000 in
theorem copyCheck_used (b : Nat) (w : World) (h0 : w.cell? ⟨b, 0, none⟩ = some (.pointer (some ⟨b, 0, none⟩))) : Calls Tryz.prog 84 #[.pointer (some ⟨b, 0, none⟩)] w fun e w' => e = .returned (.tuple #[]) ∧ w' = w := by
  obtain ⟨j, hj, hjs⟩ := Option.map_eq_some_iff.1 Tryz.info113
  go_enter Tryz.func84, Tryz.ntmps84
  go_wp2
  rw [Lib.run_neq_ptr_same w _ Tryz.under110 hj]
  go_wp2
  go_end0
  exact ⟨rfl, rfl⟩
set_option maxRecDepth 100000 in
set_option maxHeartbeats 1000000 in
theorem copyCheck_new (b : Nat) (w : World) (h0 : w.cell? ⟨b, 0, none⟩ = some (.pointer none)) (hsh : w.shape? b = some (93, 2)) (hfz : w.frozen? ⟨b, 0, none⟩ = false) : Calls Tryz.prog 84 #[.pointer (some ⟨b, 0, none⟩)] w fun e w' => e = .returned (.tuple #[]) ∧ w' = w.setCell ⟨b, 0, none⟩ (.pointer (some ⟨b, 0, none⟩)) := by
  obtain ⟨j, hj, hjs⟩ := Option.map_eq_some_iff.1 Tryz.info113
  go_enter Tryz.func84, Tryz.ntmps84
  go_wp2
  rw [Lib.run_to_unsafe w ⟨b, 0, none⟩ Tryz.under110 Tryz.under142 hj (by rw [hjs]; decide) hsh (Nat.zero_lt_succ 1)]
  simp only [Result.andThen]
  rw [Oper.upon_value]
  go_wp2
  rw [run_callFunc_extern Tryz.func118 (by kernel_rfl) (by kernel_rfl) (by kernel_rfl) (e := Extern.AbiNoEscape.same) (by kernel_rfl)]
  rw [Lib.run_noEscape]
  simp only [Result.andThen]
  rw [Oper.upon_value]
  go_wp2
  rw [Lib.run_from_unsafe w ⟨b, 0, none⟩ Tryz.under142 Tryz.under110 hj hsh Tryz.lies113]
  simp only [Result.andThen]
  rw [Oper.upon_value]
  go_wp2
  go_end0
  exact ⟨rfl, rfl⟩
/-- What copyCheck does. -/
theorem copyCheck_any (B b : Nat) (l : List UInt8) (w : World) (h : BdIs w B b l) : Calls Tryz.prog 84 #[.pointer (some ⟨b, 0, none⟩)] w fun e w' => e = .returned (.tuple #[]) ∧ BdAt w' B b l ∧ Below B w w' := by
  rcases h with h | h
  · refine (copyCheck_new b w h.cell0 h.shape h.frozen0).mono ?_
    rintro e w' ⟨rfl, rfl⟩
    obtain ⟨h1, v, h2, h3⟩ := id h
    exact ⟨rfl, h.used _, (Below.refl B w).setCell (p := ⟨b, 0, none⟩) h.1 _⟩
  · refine (copyCheck_used b w h.cell0).mono ?_
    rintro e w' ⟨rfl, rfl⟩
    exact ⟨rfl, h, Below.refl B _⟩
set_option maxRecDepth 100000 in
set_option maxHeartbeats 800000 in
theorem writeString_any (B b : Nat) (l x : List UInt8) (w : World) (h : BdIs w B b l) (hl : l.length + x.length ≤ 140737488355328) (hB : B ≤ w.heap.size) : Calls Tryz.prog 47 #[.pointer (some ⟨b, 0, none⟩), .string ⟨x.toArray⟩] w fun e w' => e = .returned (.tuple #[.int .i64 (x.length : Int), .nilIface]) ∧ BdAt w' B b (l ++ x) ∧ Below B w w' := by
  obtain ⟨i0, hi, hz0, hz1, hz2⟩ := info_parts Tryz.info5
  have HCC := hidD (copyCheck_any B b l w h)
  have hbl : (Lib.byteCells l).length = l.length := Lib.byteCells_length l
  have hsz : (⟨x.toArray⟩ : ByteArray).size = x.length := by simp [ByteArray.size]
  have HSC : Hid (Lib.byteCells l ++ Lib.strCells ⟨x.toArray⟩ = Lib.byteCells (l ++ x)) := by show _ = _; simp [Lib.byteCells, Lib.strCells]
  clear h
  go_enter Tryz.func47, Tryz.ntmps47
  go_wp2_with first
    | (at_builtin; have hB1 : B ≤ w1.heap.size := Nat.le_trans hB HB1.out.size; refine Lib.wpList_append_own_stringF _ rfl _ _ 34 9 rfl B 5 i0 Tryz.underBu Tryz.under9s hi hz0 hz1 hz2 (.slice ao n0 cap0) _ _ rfl HOW.out ⟨x.toArray⟩ rfl ?_ ?_ hB1 ?_
       · rw [hbl, hsz]; unfold maxLen; omega
       · rw [hbl, hsz]; omega
       intro v2 w2 hown2 hgrow _
       have hb2 : w2.heap[b]? = some (.cells #[.pointer (some ⟨b, 0, none⟩), .slice ao n0 cap0] 93 (0, 0)) := by rw [hgrow.block b hlt (fun e => HNE.out e.symm)]; exact HBK.out
       have d0 : w2.cell? ⟨b, 0, none⟩ = some (.pointer (some ⟨b, 0, none⟩)) := by rw [Lib.cell_of_heap hb2]; rfl
       have d1 : w2.cell? ⟨b, 1, none⟩ = some (.slice ao n0 cap0) := by rw [Lib.cell_of_heap hb2]; rfl
       have d2 : w2.frozen? ⟨b, 1, none⟩ = false := Lib.frozen_of_heap hb2 1
       have HB2 := hidD hb2
       have HOW2 := hidD hown2
       have HGR := hidD hgrow
       obtain ⟨a2, n2, cap2, hv2⟩ : ∃ a2 n2 cap2, v2 = .slice a2 n2 cap2 := by
         rcases hown2.2 with ⟨hv, _⟩ | ⟨g, cap, cur, fz, hv, _⟩
         · exact ⟨_, _, _, hv⟩
         · exact ⟨_, _, _, hv⟩
       subst hv2
       clear hown2 hgrow hb2)
    | (go_at_call 84; refine HCC.out.mono ?_; rintro e w1 ⟨rfl, ⟨hBb, v, hbk, hown, hne⟩, hb1⟩
       have c0 : w1.cell? ⟨b, 0, none⟩ = some (.pointer (some ⟨b, 0, none⟩)) := by rw [Lib.cell_of_heap hbk]; rfl
       have c1 : w1.cell? ⟨b, 1, none⟩ = some v := by rw [Lib.cell_of_heap hbk]; rfl
       have HOW := hidD hown
       have HBK := hidD hbk
       have HNE := hidD hne
       have HB1 := hidD hb1
       have hlt : b < w1.heap.size := row_lt hbk
       obtain ⟨ao, n0, cap0, hv⟩ : ∃ ao n0 cap0, v = .slice ao n0 cap0 := by
         rcases hown.2 with ⟨hv, _⟩ | ⟨g, cap, cur, fz, hv, _⟩
         · exact ⟨_, _, _, hv⟩
         · exact ⟨_, _, _, hv⟩
       subst hv
       clear hown hbk hne hb1)
  refine bodyPost_ret (v := .tuple #[.int .i64 (x.length : Int), .nilIface]) (by simp [results, Tryz.results47, go_sem]) rfl ?_
  refine ⟨rfl, ?_, ?_⟩
  · refine Lib.BuilderAtF.put (T := 93) (e := 5) hBb HB2.out ?_ (by decide)
    rw [← HSC.out, List.length_append, Lib.strCells_length]
    exact HOW2.out
  · refine HB1.out.trans (((Below.refl B w1).grown HGR.out (Nat.le_trans hB HB1.out.size) (fun k hk => ?_)).setCell (p := ⟨b, 1, none⟩) hBb _)
    rcases HOW.out.2 with ⟨hv, _⟩ | ⟨g, cap, cur, fz, hv, hg, _⟩
    · rw [hv] at hk; cases hk
    · rw [hv] at hk; cases hk; exact hg
end Go.Proofs.YtpemajghaceegaaGreatDoor
