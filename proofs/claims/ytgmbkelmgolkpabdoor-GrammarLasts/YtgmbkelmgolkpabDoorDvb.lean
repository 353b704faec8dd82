/- What derived answers. -/
import Derived.Test.YtgmbkelmgolkpabDoorDva
import Derived.Test.YtgmbkelmgolkpabDoorDvl
import Derived.Test.YtgmbkelmgolkpabDoorNwa
import Derived.Test.YtgmbkelmgolkpabDoorShelf
namespace Go.Proofs.YtgmbkelmgolkpabDoor
open Go.RowKit Go.Maps
set_option linter.unusedVariables false

/-- A row of one's own that is turned round. -/
theorem reverse_any {base n : Nat} {v : Value} {B : List Int} (w : World) (h : w.ownsRow base 3 1 v n (B.map encI)) (hn : n = B.length) : Calls Tryd.prog 58 #[v] w fun e w' => e = .returned (.tuple #[]) ∧ IrAt w' w'.heap.size v B.reverse ∧ (∀ b, b < w.heap.size → v.ownBlock ≠ some b → w'.heap[b]? = w.heap[b]?) ∧ Below base w w' := by
  subst hn
  have hown := h
  by_cases h0 : B.length = 0
  · obtain ⟨a, c, hv⟩ := row_shape h
    rw [hv, h0]
    have hB := List.eq_nil_of_length_eq_zero h0
    refine (Tryd.slices_Reverse_int_empty a c w).mono fun e w' ⟨h1, h2⟩ => ⟨h1, ?_, ?_, ?_⟩
    · rw [h2]
      have := ir_of_own h rfl
      rw [hB] at this ⊢
      rw [hv, h0] at this
      exact this
    · rw [h2]; exact fun _ _ _ => rfl
    · rw [h2]; exact Below.refl _ _
  · rcases h.2 with ⟨h1, h2⟩ | ⟨g, cap, cur, rfl, hb, hg, hnc, hcm, hcs, htk⟩
    · exact absurd h2 h0
    · have hc : CsAt w g cur 3 := hg
      have hcell : ∀ j, j < B.length → w.cell? ⟨g, 0 + j, none⟩ = some (.int .i64 (B.getD j 0)) := fun j hj => by
        have := hown.cells (g := g) rfl j (encI (B.getD j 0)) (by rw [List.getElem?_map, List.getElem?_eq_getElem hj, List.getD_eq_getElem?_getD, List.getElem?_eq_getElem hj]; rfl)
        rwa [Addr.add_lit] at this
      refine (Tryd.slices_Reverse_int_cells g 0 B.length cap B w (Nat.le_refl _) (by unfold maxLen at hcm; omega) hcell (fun j _ => hc.frz _)).mono fun e w' ⟨h1, q, h2⟩ => ⟨h1, ?_, ?_, ?_⟩
      · rw [List.take_length] at h2
        have hc2 : CsAt (w.drewN q) g cur 3 := hc
        have hc3 := hc2.puts (B.reverse.map (Value.int .i64)) 0
        rw [← h2] at hc3
        have hl : (B.reverse.map (Value.int .i64)).length = B.length := by rw [List.length_map, List.length_reverse]
        refine ⟨some ⟨g, 0, none⟩, cap, by rw [List.length_reverse], by rw [List.length_reverse]; exact hnc, ⟨by unfold maxLen at hcm; omega, nofun⟩, fun k hk => ⟨g, 0, _, rfl, hc3.lt, hc3, ?_⟩⟩
        rw [List.length_reverse] at hk
        rw [putC_in _ _ _ _ (by omega) (by omega), List.getElem?_map, List.getElem?_eq_getElem (by rw [List.length_reverse]; exact hk), List.getD_eq_getElem?_getD, List.getElem?_eq_getElem (by rw [List.length_reverse]; exact hk)]
        rfl
      · intro b hb2 hne
        rw [h2]
        have : But g (w.drewN q) ((w.drewN q).setCells g 0 ((B.take B.length).reverse.map (Value.int .i64))) := But.puts _ 0 (But.refl _ _)
        exact this.rest b hb2 fun e => hne (by rw [e]; rfl)
      · rw [h2]
        have : But g (w.drewN q) ((w.drewN q).setCells g 0 ((B.take B.length).reverse.map (Value.int .i64))) := But.puts _ 0 (But.refl _ _)
        exact (below_drewN (Below.refl _ _) q).trans (this.bel.mono hb)
def lnV : Value → Nat
  | .slice _ n _ => n
  | _ => 0
theorem strip_more {T : Nat} {s : Int} {r b : List Int} (h : s < (T : Int)) : stripS T (s :: r) b = stripS T r (b ++ [s]) := by rw [stripS, if_pos h]
theorem strip_end {T : Nat} {s : Int} {r b : List Int} (h : ¬ s < (T : Int)) : stripS T (s :: r) b = (s :: r, b) := by rw [stripS, if_neg h]
end Go.Proofs.YtgmbkelmgolkpabDoor
