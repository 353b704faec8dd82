/- The builder that a call has made itself: a text that is written. -/
import Derived.Test.YtgmbkelmgolkpaaDoorGz
import Derived.Test.YtgmbkelmgolkpaaDoorShelf
import Derived.Lib.FrozenHead
import Derived.Laws.Externs
namespace Go.Proofs.YtgmbkelmgolkpaaDoor
open Go.RowKit
set_option linter.unusedVariables false

/-- A builder of one's own that was begun: these bytes are in it. -/
def BdAt (w : World) (B b : Nat) (l : List UInt8) : Prop := Lib.BuilderAtF 113 5 B b (.pointer (some ⟨b, 0, none⟩)) (Lib.byteCells l) w
/-- A builder of one's own, begun or not. -/
def BdIs (w : World) (B b : Nat) (l : List UInt8) : Prop := Lib.IsBuilderF 113 5 B b (Lib.byteCells l) w
/-- Rows of numbers stay. -/
def Nums (w w' : World) : Prop := ∀ (g : Nat) (cs : Array Value), w.heap[g]? = some (.cells cs (3 : TypeId) (0, 0)) → w'.heap[g]? = w.heap[g]?
theorem Nums.own {w w' : World} (h : Nums w w') {base n : Nat} {v : Value} {xs : List Value} (ho : w.ownsRow base 3 1 v n xs) : w'.ownsRow base 3 1 v n xs := by
  refine ⟨ho.1, ?_⟩
  rcases ho.2 with h0 | ⟨g, cap, cur, e1, e2, e3, e4⟩
  · exact .inl h0
  · exact .inr ⟨g, cap, cur, e1, e2, (h g cur e3).trans e3, e4⟩
theorem Nums.refl (w : World) : Nums w w := fun _ _ _ => rfl
theorem Nums.trans {a b c : World} (h : Nums a b) (h2 : Nums b c) : Nums a c := fun g cs hg => by
  have h3 := h g cs hg
  rw [h2 g cs (h3.trans hg), h3]
theorem Tryd.info5 : (Tryd.prog.info? 5).map (fun i => (i.zero, i.size, i.bytes)) = some (some (.int .u8 0), 1, 1) := by kernel_rfl
theorem Tryd.under111 : Tryd.prog.underlying 111 = some (.slice 5) := by kernel_rfl
theorem Tryd.under9s : Tryd.prog.underlying 9 = some .string := by kernel_rfl
theorem Tryd.under110 : Tryd.prog.underlying 110 = some (.pointer 113) := by kernel_rfl
theorem Tryd.under142 : Tryd.prog.underlying 142 = some .unsafePointer := by kernel_rfl
theorem Tryd.info113 : (Tryd.prog.info? 113).map (·.size) = some 2 := by kernel_rfl
theorem Tryd.lies113 : liesAt Tryd.prog Tryd.prog.depth 113 (2 / Tryd.prog.cellsOf 113) 0 113 1 = true := by kernel_rfl
set_option maxRecDepth 100000 in
theorem copyCheck_used (b : Nat) (w : World) (h0 : w.cell? ⟨b, 0, none⟩ = some (.pointer (some ⟨b, 0, none⟩))) : Calls Tryd.prog 111 #[.pointer (some ⟨b, 0, none⟩)] w fun e w' => e = .returned (.tuple #[]) ∧ w' = w := by
  obtain ⟨j, hj, hjs⟩ := Option.map_eq_some_iff.1 Tryd.info113
  go_enter Tryd.func111, Tryd.ntmps111
  go_wp2
  rw [Lib.run_neq_ptr_same w _ Tryd.under110 hj]
  go_wp2
  go_end0
  exact ⟨rfl, rfl⟩
set_option maxRecDepth 100000 in
set_option maxHeartbeats 1000000 in
theorem copyCheck_new (b : Nat) (w : World) (h0 : w.cell? ⟨b, 0, none⟩ = some (.pointer none)) (hsh : w.shape? b = some (113, 2)) (hfz : w.frozen? ⟨b, 0, none⟩ = false) : Calls Tryd.prog 111 #[.pointer (some ⟨b, 0, none⟩)] w fun e w' => e = .returned (.tuple #[]) ∧ w' = w.setCell ⟨b, 0, none⟩ (.pointer (some ⟨b, 0, none⟩)) := by
  obtain ⟨j, hj, hjs⟩ := Option.map_eq_some_iff.1 Tryd.info113
  go_enter Tryd.func111, Tryd.ntmps111
  go_wp2
  rw [Lib.run_to_unsafe w ⟨b, 0, none⟩ Tryd.under110 Tryd.under142 hj (by rw [hjs]; decide) hsh (Nat.zero_lt_succ 1)]
  simp only [Result.andThen]
  rw [Oper.upon_value]
  go_wp2
  rw [run_callFunc_extern Tryd.func118 (by kernel_rfl) (by kernel_rfl) (by kernel_rfl) (e := Extern.AbiNoEscape.same) (by kernel_rfl)]
  rw [Lib.run_noEscape]
  simp only [Result.andThen]
  rw [Oper.upon_value]
  go_wp2
  rw [Lib.run_from_unsafe w ⟨b, 0, none⟩ Tryd.under142 Tryd.under110 hj hsh Tryd.lies113]
  simp only [Result.andThen]
  rw [Oper.upon_value]
  go_wp2
  go_end0
  exact ⟨rfl, rfl⟩
theorem nums_set {w : World} {b i : Nat} {v : Value} {cs : Array Value} {t : TypeId} {f : Nat × Nat} (h : w.heap[b]? = some (.cells cs t f)) (ht : t ≠ 3) : Nums w (w.setCell ⟨b, i, none⟩ v) := fun g c hg => Below.heap_setCell _ _ _ _ (fun e => by
  subst e
  rw [h] at hg
  cases hg
  exact ht rfl)
/-- What copyCheck does. -/
theorem copyCheck_any (B b : Nat) (l : List UInt8) (w : World) (h : BdIs w B b l) : Calls Tryd.prog 111 #[.pointer (some ⟨b, 0, none⟩)] w fun e w' => e = .returned (.tuple #[]) ∧ BdAt w' B b l ∧ Below B w w' ∧ Nums w w' := by
  rcases h with h | h
  · refine (copyCheck_new b w h.cell0 h.shape h.frozen0).mono ?_
    rintro e w' ⟨rfl, rfl⟩
    obtain ⟨h1, v, h2, h3⟩ := id h
    exact ⟨rfl, h.used _, (Below.refl B w).setCell (p := ⟨b, 0, none⟩) h.1 _, nums_set h2 (by decide)⟩
  · refine (copyCheck_used b w h.cell0).mono ?_
    rintro e w' ⟨rfl, rfl⟩
    exact ⟨rfl, h, Below.refl B _, Nums.refl _⟩
set_option maxRecDepth 100000 in
set_option maxHeartbeats 800000 in
theorem writeString_any (B b : Nat) (l x : List UInt8) (w : World) (h : BdIs w B b l) (hl : l.length + x.length ≤ 140737488355328) (hB : B ≤ w.heap.size) : Calls Tryd.prog 103 #[.pointer (some ⟨b, 0, none⟩), .string ⟨x.toArray⟩] w fun e w' => e = .returned (.tuple #[.int .i64 (x.length : Int), .nilIface]) ∧ BdAt w' B b (l ++ x) ∧ Below B w w' ∧ Nums w w' := by
  obtain ⟨i0, hi, hz0, hz1, hz2⟩ := info_parts Tryd.info5
  have HCC := hidD (copyCheck_any B b l w h)
  have hbl : (Lib.byteCells l).length = l.length := Lib.byteCells_length l
  have hsz : (⟨x.toArray⟩ : ByteArray).size = x.length := by simp [ByteArray.size]
  have HSC : Hid (Lib.byteCells l ++ Lib.strCells ⟨x.toArray⟩ = Lib.byteCells (l ++ x)) := by show _ = _; simp [Lib.byteCells, Lib.strCells]
  clear h
  go_enter Tryd.func103, Tryd.ntmps103
  go_wp2_with first
    | (at_builtin; have hB1 : B ≤ w1.heap.size := Nat.le_trans hB HB1.out.size; refine Lib.wpList_append_own_stringF _ rfl _ _ 111 9 rfl B 5 i0 Tryd.under111 Tryd.under9s hi hz0 hz1 hz2 (.slice ao n0 cap0) _ _ rfl HOW.out ⟨x.toArray⟩ rfl ?_ ?_ hB1 ?_
       · rw [hbl, hsz]; unfold maxLen; omega
       · rw [hbl, hsz]; omega
       intro v2 w2 hown2 hgrow _
       have hb2 : w2.heap[b]? = some (.cells #[.pointer (some ⟨b, 0, none⟩), .slice ao n0 cap0] 113 (0, 0)) := by rw [hgrow.block b hlt (fun e => HNE.out e.symm)]; exact HBK.out
       have d0 : w2.cell? ⟨b, 0, none⟩ = some (.pointer (some ⟨b, 0, none⟩)) := by rw [Lib.cell_of_heap hb2]; rfl
       have d1 : w2.cell? ⟨b, 1, none⟩ = some (.slice ao n0 cap0) := by rw [Lib.cell_of_heap hb2]; rfl
       have d2 : w2.frozen? ⟨b, 1, none⟩ = false := Lib.frozen_of_heap hb2 1
       have HB2 := hidD hb2
       have HOW2 := hidD hown2
       have HGR := hidD hgrow
       obtain ⟨a2, n2, cap2, hv2⟩ : ∃ a2 n2 cap2, v2 = .slice a2 n2 cap2 := by
         rcases hown2.2 with ⟨hv, _⟩ | ⟨g, cap, cur, fz, hv, _⟩
         · exact ⟨_, _, _, hv⟩
         · exact ⟨_, _, _, hv⟩
       subst hv2
       clear hown2 hgrow hb2)
    | (go_at_call 111; refine HCC.out.mono ?_; rintro e w1 ⟨rfl, ⟨hBb, v, hbk, hown, hne⟩, hb1, hn1⟩
       have c0 : w1.cell? ⟨b, 0, none⟩ = some (.pointer (some ⟨b, 0, none⟩)) := by rw [Lib.cell_of_heap hbk]; rfl
       have c1 : w1.cell? ⟨b, 1, none⟩ = some v := by rw [Lib.cell_of_heap hbk]; rfl
       have HOW := hidD hown
       have HBK := hidD hbk
       have HNE := hidD hne
       have HB1 := hidD hb1
       have HN1 := hidD hn1
       have hlt : b < w1.heap.size := row_lt hbk
       obtain ⟨ao, n0, cap0, hv⟩ : ∃ ao n0 cap0, v = .slice ao n0 cap0 := by
         rcases hown.2 with ⟨hv, _⟩ | ⟨g, cap, cur, fz, hv, _⟩
         · exact ⟨_, _, _, hv⟩
         · exact ⟨_, _, _, hv⟩
       subst hv
       clear hown hbk hne hb1 hn1)
  refine bodyPost_ret (v := .tuple #[.int .i64 (x.length : Int), .nilIface]) (by simp [results, Tryd.results103, go_sem]) rfl ?_
  refine ⟨rfl, ?_, ?_, ?_⟩
  · refine Lib.BuilderAtF.put (T := 113) (e := 5) hBb HB2.out ?_ (by decide)
    rw [← HSC.out, List.length_append, Lib.strCells_length]
    exact HOW2.out
  · refine HB1.out.trans (((Below.refl B w1).grown HGR.out (Nat.le_trans hB HB1.out.size) (fun k hk => ?_)).setCell (p := ⟨b, 1, none⟩) hBb _)
    rcases HOW.out.2 with ⟨hv, _⟩ | ⟨g, cap, cur, fz, hv, hg, _⟩
    · rw [hv] at hk; cases hk
    · rw [hv] at hk; cases hk; exact hg
  · refine HN1.out.trans (Nums.trans (fun g cs hg => HGR.out.block g (row_lt hg) (fun e => ?_)) (nums_set HB2.out (by decide)))
    rcases HOW.out.2 with ⟨hv, _⟩ | ⟨g', cap, cur, fz, hv, _, hg', _⟩
    · rw [hv] at e; cases e
    · rw [hv] at e; cases e
      rw [hg'] at hg; cases hg
end Go.Proofs.YtgmbkelmgolkpaaDoor
