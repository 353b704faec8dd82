/- What Like answers of the chapter's two segments joined. -/
import Derived.Test.YtpemajghaceegaaGreatDoorHya
namespace Go.Proofs.YtpemajghaceegaaGreatDoor
open Go.RowKit
set_option linter.unusedVariables false

theorem Tryz.under5 : Tryz.prog.underlying 5 = some (.int .u8) := by kernel_rfl
theorem Tryz.under9 : Tryz.prog.underlying 9 = some .string := by kernel_rfl
theorem conv_any {w : World} {v : Value} {l : List UInt8} (h : ByAt w v l) : (convert 34 9 v).run Tryz.prog w = .ok (.string (bA l)) w := by
  obtain ⟨a, cap, rfl, h1, h2, h3, h4⟩ := h
  cases a with
  | none =>
    have h0 : l = [] := by
      cases l with
      | nil => rfl
      | cons y t => obtain ⟨g, o, e, _⟩ := h4 0 (by simp); cases e
    subst h0
    show (convert 34 9 (.slice none 0 cap)).run Tryz.prog w = _
    rw [run_convert_bytes_string w 34 9 5 none 0 cap Tryz.underBy Tryz.under5 Tryz.under9]
    simp [Conv.bytesToString]
    rfl
  | some a =>
    refine run_convert_bytes_back w 34 9 5 a cap l Tryz.underBy Tryz.under5 Tryz.under9 fun j hj => ?_
    obtain ⟨g, o, e, hg, hc⟩ := h4 j hj
    cases e
    rw [Go.WideShapes.add_plain, hc, List.getD_eq_getElem?_getD, List.getElem?_eq_getElem hj]; rfl
theorem by_kb {w : World} {bs : List Nat} (i : KB w bs) {g o n c : Nat} {l : List UInt8} (hg : g ∈ bs) (hl : g < i.v.heap.size) (h : ByAt w (.slice (some ⟨g, o, none⟩) n c) l) : ByAt i.v (.slice (some ⟨g, o, none⟩) n c) l := by
  obtain ⟨a', cap', e, h1, h2, h3, h4⟩ := h
  cases e
  refine ⟨_, c, rfl, h1, h2, h3, fun k hk => ?_⟩
  obtain ⟨g', o', e, hg', hc⟩ := h4 k hk
  cases e
  exact ⟨g, o, rfl, hl, (i.cell (b := g) hg _).trans hc⟩
theorem kb_lt {w : World} {bs : List Nat} (i : KB w bs) {g : Nat} (hg : g ∈ bs) (hl : g < w.heap.size) : g < i.v.heap.size := by
  have h := i.keep g hg
  rw [Array.getElem?_eq_getElem hl] at h
  exact row_lt h
theorem kb_conv {w : World} {bs : List Nat} (i : KB w bs) {g o n c : Nat} {l : List UInt8} (hg : g ∈ bs) (hl : g < w.heap.size) (h : ByAt w (.slice (some ⟨g, o, none⟩) n c) l) : (convert 34 9 (.slice (some ⟨g, o, none⟩) n c)).run Tryz.prog i.v = .ok (.string (bA l)) i.v := conv_any (by_kb i hg (kb_lt i hg hl) h)
set_option maxRecDepth 100000 in
set_option maxHeartbeats 3200000 in
theorem likeOne (B : Nat) (D : List UInt8) (hD : D.length = 3) (l : Value) (h h2 : Nat) (w : World) (hl : JnAt B D l w) (hm : w.heap[h]? = some (.cells #[.int .i64 1, .slice (some ⟨h2, 0, none⟩) 3 3] (60 : TypeId) (0, 0))) (hd : ByAt w (.slice (some ⟨h2, 0, none⟩) 3 3) D) :
    Calls Tryz.prog 12 #[l, .slice (some ⟨h, 0, none⟩) 1 1] w fun e w' => e = .returned (.bool true) ∧ Below w.heap.size w w' := by
  obtain ⟨g, c, x, rfl, hgb, hla, hown, hcg⟩ := hl
  rw [hD] at hown
  obtain ⟨gx, cx, rfl, hgx, hgl, hgc⟩ := row_shapeC hown (by omega)
  have HBX : Hid (ByAt w (.slice (some ⟨gx, 0, none⟩) 3 cx) D) := by_of_own (by rw [hD]; exact hown)
  have HBD := hidD hd
  have HGX := hidD hgl
  obtain ⟨-, -, -, q4⟩ := by_addr hd
  obtain ⟨_, _, e, h2l, -⟩ := q4 (by omega)
  cases e
  clear q4
  have k0 := hla.c0
  have k1 := hla.c1
  have j0 : w.cell? ⟨h, 0, none⟩ = some (.int .i64 1) := by rw [cell_of_row _ _ _ _ _ _ hm]; rfl
  have j1 : w.cell? ⟨h, 1, none⟩ = some (.slice (some ⟨h2, 0, none⟩) 3 3) := by rw [cell_of_row _ _ _ _ _ _ hm]; rfl
  clear hla hown hgx hgl hgc hm hd hgb hcg
  go_enter Tryz.func12, Tryz.ntmps12
  go_wp2_with fail
  go_loopw [5] (fun i wr => Below w.heap.size w wr ∧ (∃ n, wr = w.drewN n) ∧ (i = .int .i64 0 ∨ i = .int .i64 1)) (fun i _ => 1 - (intOf i).toNat)
  case atStart => exact ⟨Below.refl _ _, ⟨0, rfl⟩, .inl rfl⟩
  case round =>
    obtain ⟨hbel, ⟨n, rfl⟩, rfl | rfl⟩ := hrel
    · go_wp2_with fail
      have e0 : ∀ i : KB (w.drewN n) [g, h, gx, h2], i.v.cell? ⟨g, 0, none⟩ = some (.int .i64 1) := fun i => (i.cell (b := g) (by simp) _).trans k0
      have e1 : ∀ i : KB (w.drewN n) [g, h, gx, h2], i.v.cell? ⟨g, 1, none⟩ = some (.slice (some ⟨gx, 0, none⟩) 3 cx) := fun i => (i.cell (b := g) (by simp) _).trans k1
      have e2 : ∀ i : KB (w.drewN n) [g, h, gx, h2], i.v.cell? ⟨h, 0, none⟩ = some (.int .i64 1) := fun i => (i.cell (b := h) (by simp) _).trans j0
      have e3 : ∀ i : KB (w.drewN n) [g, h, gx, h2], i.v.cell? ⟨h, 1, none⟩ = some (.slice (some ⟨h2, 0, none⟩) 3 3) := fun i => (i.cell (b := h) (by simp) _).trans j1
      have e4 : ∀ i : KB (w.drewN n) [g, h, gx, h2], (convert 34 9 (.slice (some ⟨gx, 0, none⟩) 3 cx)).run Tryz.prog i.v = .ok (.string (bA D)) i.v := fun i => kb_conv i (by simp) HGX.out (HBX.out.next (below_drewN (Below.refl _ _) n))
      have e5 : ∀ i : KB (w.drewN n) [g, h, gx, h2], (convert 34 9 (.slice (some ⟨h2, 0, none⟩) 3 3)).run Tryz.prog i.v = .ok (.string (bA D)) i.v := fun i => kb_conv i (by simp) h2l (HBD.out.next (below_drewN (Below.refl _ _) n))
      generalize bA D = s at *
      refine wp_region_seg [0, 0, 0, 0, 0, 0, 0, 0, 0, 0, 0, 0, 0, 0, 0, 0, 0, 0, 0, 0, 0, 0, 0, 0, 0, 99] 0 25 [g, h, gx, h2] (by kernel_rfl) (by kernel_rfl) (by kernel_rfl) (by kernel_rfl) (by kernel_rfl) (by kernel_rfl) (by kernel_rfl) (by kernel_rfl) (fun _ _ _ _ _ h => h) ?_
      simp only [SegW, pk, Nat.reduceMul, Nat.reduceBEq, cond_true, cond_false]
      repeat (go_big_quiet_step (fail))
      refine wpQuiet_nil ?_
      go_wp2_with fail
      exact ⟨⟨below_drewN (Below.refl _ _) _, ⟨n + 1, rfl⟩, .inr rfl⟩, by simp [intOf]⟩
    · go_wp2_with fail
      go_ret
      exact ⟨rfl, hbel⟩
end Go.Proofs.YtpemajghaceegaaGreatDoor
