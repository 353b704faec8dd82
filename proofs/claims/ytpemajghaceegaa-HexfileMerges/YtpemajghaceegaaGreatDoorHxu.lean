/- Two segments that follow each other, joined: the walk. -/
import Derived.Test.YtpemajghaceegaaGreatDoorHxt
namespace Go.Proofs.YtpemajghaceegaaGreatDoor
open Go.RowKit
set_option linter.unusedVariables false

/- the list of one, that holds what was read so far -/
def JnAt (B : Nat) (D : List UInt8) (l : Value) (w : World) : Prop := ∃ g c x, l = .slice (some ⟨g, 0, none⟩) 1 c ∧ B ≤ g ∧ ListAt w g 1 x ∧ w.ownsRow (g + 1) 5 1 x D.length (D.map encB) ∧ 1 ≤ c
theorem last1 (w : World) (A B : Obj) : ((w.alloc A).alloc B).heap[w.heap.size + 1]? = some B := by
  have h := heap_alloc_last (w.alloc A) B
  rwa [show (w.alloc A).heap.size = w.heap.size + 1 by simp] at h
theorem last0 (w : World) (A B : Obj) : ((w.alloc A).alloc B).heap[w.heap.size]? = some A := by
  have h := heap_alloc_last w A
  rw [((Below.refl (w.alloc A).heap.size (w.alloc A)).alloc (Nat.le_refl _) B).block _ (row_lt h)]
  exact h
theorem nil_block {w w' : World} {k : Nat} (hg : w.grownBy w' (Value.slice none 0 0).ownBlock) (hk : k < w.heap.size) : w'.heap[k]? = w.heap[k]? := hg.block k hk (fun h => by cases h)
theorem nil_below {B : Nat} {a w w' : World} (hb : Below B a w) (hg : w.grownBy w' (Value.slice none 0 0).ownBlock) (hB : B ≤ w.heap.size) : Below B a w' := row_grown (World.ownsRow_nil w B 5 1) hb hg hB
set_option maxRecDepth 100000 in
set_option maxHeartbeats 1600000 in
theorem joinedTwo (base : Nat) (v : Value) (p q : Option Addr) (c1 c2 : Nat) (w : World) (h : w.ownsRow base 36 2 v 2 [.int .i64 1, .slice p 2 c1, .int .i64 3, .slice q 1 c2])
    (h1 : ByAt w (.slice p 2 c1) [5, 6]) (h2 : ByAt w (.slice q 1 c2) [7]) :
    Calls Tryz.prog 30 #[v] w fun e w' => ∃ l, e = .returned (.tuple #[l, .int .i64 0]) ∧ Below w.heap.size w w' ∧ JnAt w.heap.size [5, 6, 7] l w' := by
  obtain ⟨b, cap, cur, rfl, hb, hg, hc1, hc2, hc⟩ := row_cells h (by omega)
  have hbl : b < w.heap.size := row_lt hg
  have HBL := hidD hbl
  have k0 : w.cell? ⟨b, 0, none⟩ = some (.int .i64 1) := by rw [cell_of_row _ _ _ _ _ _ hg]; exact hc 0 (by omega)
  have k1 : w.cell? ⟨b, 1, none⟩ = some (.slice p 2 c1) := by rw [cell_of_row _ _ _ _ _ _ hg]; exact hc 1 (by omega)
  have k2 : w.cell? ⟨b, 2, none⟩ = some (.int .i64 3) := by rw [cell_of_row _ _ _ _ _ _ hg]; exact hc 2 (by omega)
  have k3 : w.cell? ⟨b, 3, none⟩ = some (.slice q 1 c2) := by rw [cell_of_row _ _ _ _ _ _ hg]; exact hc 3 (by omega)
  have K0 := hidD k0
  have K1 := hidD k1
  have K2 := hidD k2
  have K3 := hidD k3
  have HB1 := hidD h1
  have HB2 := hidD h2
  clear k0 k1 k2 k3 h1 h2 hg hc hc1 hc2 h hb
  go_enter Tryz.func30, Tryz.ntmps30
  go_wp2_with fail
  go_loopw [4, 5, 11] (fun l en i wr => Below w.heap.size w wr ∧ ((l = .slice none 0 0 ∧ en = .int .i64 (-1) ∧ i = .int .i64 0) ∨ (JnAt w.heap.size [5, 6] l wr ∧ en = .int .i64 3 ∧ i = .int .i64 1) ∨ (JnAt w.heap.size [5, 6, 7] l wr ∧ en = .int .i64 4 ∧ i = .int .i64 2))) (fun l en i _ => 2 - (intOf i).toNat)
  case atStart => exact ⟨Below.refl _ _, .inl ⟨rfl, rfl, rfl⟩⟩
  case round =>
    obtain ⟨hbel, hs⟩ := hrel
    have HBW := hidD hbel
    clear hbel
    rcases hs with ⟨rfl, rfl, rfl⟩ | ⟨hj, rfl, rfl⟩ | ⟨hj, rfl, rfl⟩
    · have k0 := (HBW.out.cell (p := ⟨b, 0, none⟩) hbl).trans K0.out
      have k1 := (HBW.out.cell (p := ⟨b, 1, none⟩) hbl).trans K1.out
      have HAL := hidD ((Below.refl wr.heap.size wr).alloc (Nat.le_refl _) (.cells #[.int .i64 1, .slice p 2 c1] (36 : TypeId)))
      have HL1 := hidD (last1 wr (.cells #[.int .i64 1, .slice p 2 c1] (36 : TypeId)) (.cells #[.int .i64 1, .slice none 0 0] (36 : TypeId)))
      have HL0 := hidD (last0 wr (.cells #[.int .i64 1, .slice p 2 c1] (36 : TypeId)) (.cells #[.int .i64 1, .slice none 0 0] (36 : TypeId)))
      have HBA := hidD (HBW.out.trans (HAL.out.mono HBW.out.size))
      have HBB := hidD (HBA.out.alloc (by have := HBW.out.size; simp; omega) (.cells #[.int .i64 1, .slice none 0 0] (36 : TypeId)))
      go_wp2_with (at_builtin; go_loud (refine wpList_append_sg rfl _ _ rfl w.heap.size (.slice none 0 0) 0 [] rfl (World.ownsRow_nil _ _ _ _) (wr.heap.size + 1) (.int .i64 1) (.slice none 0 0) rfl HL1.out rfl rfl (by omega) (by have := HBW.out.size; simp; omega) ?_; intro v4 w4 ho4 hg4; have HB4 := hidD (nil_below HBB.out hg4 (by have := HBW.out.size; simp; omega)); have HA4 := hidD ((nil_block hg4 (row_lt HL0.out)).trans HL0.out); obtain ⟨g, c, rfl, hgb, hcg, hla⟩ := ListAt.of ho4; have HLA := hidD hla; clear ho4 hg4 hla))
      clear HL1 HL0 HAL HBA HBB k0 k1
      have hgl := HLA.out.lt
      have hal : wr.heap.size < w4.heap.size := row_lt HA4.out
      have hne : g ≠ wr.heap.size := by
        intro e
        obtain ⟨cur', q0, q1, q2⟩ := HLA.out
        rw [e, HA4.out] at q0
        cases q0
        simp at q2
      have d1 := HLA.out.c1
      have d2 : w4.cell? ⟨wr.heap.size, 1, none⟩ = some (.slice p 2 c1) := by rw [cell_of_row _ _ _ _ _ _ HA4.out]; rfl
      have HKK : Hid (∀ w', Below w4.heap.size w4 w' → ∃ i : KB w4 [g, wr.heap.size], w' = i.v) := fun w' hb => ⟨⟨w', fun y hy => by
        simp only [List.mem_cons, List.not_mem_nil, or_false] at hy
        rcases hy with rfl | rfl
        · exact hb.block _ hgl
        · exact hb.block _ hal⟩, rfl⟩
      have e1 : ∀ i : KB w4 [g, wr.heap.size], i.v.cell? ⟨g, 1, none⟩ = some (.slice none 0 0) := fun i => (i.cell (b := g) (by simp) _).trans d1
      have e2 : ∀ i : KB w4 [g, wr.heap.size], i.v.cell? ⟨wr.heap.size, 1, none⟩ = some (.slice p 2 c1) := fun i => (i.cell (b := wr.heap.size) (by simp) _).trans d2
      clear d1 d2
      refine wp_region_seg [0, 0, 0, 0, 0, 0, 0, 1, 2, 2, 99] 1 10 [g, wr.heap.size] (by kernel_rfl) (by kernel_rfl) (by kernel_rfl) (by kernel_rfl) (by kernel_rfl) (by kernel_rfl) (by kernel_rfl) (by kernel_rfl) (fun _ _ _ _ _ h => h) ?_
      simp only [SegW, pk, Nat.reduceMul, Nat.reduceAdd, Nat.reduceBEq, cond_true, cond_false]
      repeat (go_big_quiet_step (fail))
      refine wpQuiet_nil ?_
      have HD0 : Hid (Below w4.heap.size w4 w4.drew) := below_drewN (Below.refl _ _) 1
      have HSRC : Hid (ByAt w4.drew (.slice p 2 c1) [5, 6]) := HB1.out.next ((HB4.out.mono (Nat.le_refl _)).trans (HD0.out.mono HB4.out.size))
      go_wp2_with (at_builtin; refine wpList_append_by rfl _ _ rfl (g + 1) (.slice none 0 0) 0 [] rfl (World.ownsRow_nil _ _ _ _) (.slice p 2 c1) [5, 6] rfl HSRC.out (by simp) hgl ?_; intro v5 w5 ho5 hg5; have ho6 : w5.ownsRow (g + 1) 5 1 v5 2 (([5, 6] : List UInt8).map encB) := ho5; obtain ⟨gx, cx, rfl, _, _, _⟩ := row_shapeC ho6 (by omega); have HO5 := hidD ho6; have HG5 := hidD hg5; clear ho5 ho6 hg5)
      have HB5 : Hid (Below w4.heap.size w4 w5) := nil_below HD0.out HG5.out (Nat.le_refl _)
      refine ⟨HKK.out _ HB5.out, ?_⟩
      repeat (go_big_quiet_step (fail))
      refine wpQuiet_nil ?_
      have HL5 := hidD (HLA.out.keep (HB5.out.block _ hgl))
      have HA5 := hidD ((HB5.out.block _ hal).trans HA4.out)
      have d1 := HL5.out.c1
      have f1 := HL5.out.fz
      have HP := hidD (HL5.out.put (.slice (some ⟨gx, 0, none⟩) 2 cx))
      have HQ := hidD ((heap_setCell_other w5 ⟨g, 1, none⟩ wr.heap.size (.slice (some ⟨gx, 0, none⟩) 2 cx) (Ne.symm hne)).trans HA5.out)
      have HR := hidD (row_put (o := 1) HO5.out (Nat.lt_succ_self g) (.slice (some ⟨gx, 0, none⟩) 2 cx))
      have d2 : (w5.setCell ⟨g, 1, none⟩ (.slice (some ⟨gx, 0, none⟩) 2 cx)).cell? ⟨wr.heap.size, 0, none⟩ = some (.int .i64 1) := by rw [cell_of_row _ _ _ _ _ _ HQ.out]; rfl
      have d3 : (w5.setCell ⟨g, 1, none⟩ (.slice (some ⟨gx, 0, none⟩) 2 cx)).cell? ⟨wr.heap.size, 1, none⟩ = some (.slice p 2 c1) := by rw [cell_of_row _ _ _ _ _ _ HQ.out]; rfl
      have HB6 := hidD (HB4.out.trans (HB5.out.mono HB4.out.size))
      go_wp2_with fail
      go_roundw
      case rel => exact ⟨HB6.out.setCell (p := ⟨g, 1, none⟩) hgb (.slice (some ⟨gx, 0, none⟩) 2 cx), .inr (.inl ⟨⟨g, c, .slice (some ⟨gx, 0, none⟩) 2 cx, rfl, hgb, HP.out, HR.out, hcg⟩, by go_num, by go_num⟩)⟩
      case measure => simp [intOf]
    · obtain ⟨g, c, x, rfl, hgb, hla, hown, hcg⟩ := hj
      obtain ⟨gx, cx, rfl, hgx, hgl, hgc⟩ := row_shapeC hown (by simp)
      have k2 := (HBW.out.cell (p := ⟨b, 2, none⟩) hbl).trans K2.out
      have k3 := (HBW.out.cell (p := ⟨b, 3, none⟩) hbl).trans K3.out
      have HAL := hidD ((Below.refl wr.heap.size wr).alloc (Nat.le_refl _) (.cells #[.int .i64 3, .slice q 1 c2] (36 : TypeId)))
      have HA4 := hidD (heap_alloc_last wr (.cells #[.int .i64 3, .slice q 1 c2] (36 : TypeId)))
      have HLA := hidD (hla.keep (HAL.out.block _ hla.lt))
      have HOA := hidD (row_below hown HAL.out)
      have HBA := hidD (HBW.out.trans (HAL.out.mono HBW.out.size))
      have HGL := hidD hla.lt
      have HGX := hidD hgx
      clear hla hown hgc hgx
      go_wp2_with fail
      clear k2 k3
      have hal : wr.heap.size < (wr.alloc (.cells #[.int .i64 3, .slice q 1 c2] (36 : TypeId))).heap.size := row_lt HA4.out
      obtain ⟨a, HAE⟩ : ∃ a, Hid (wr.heap.size = a) := ⟨_, rfl⟩
      rw [HAE.out] at HA4 HGL hgl hal ⊢
      generalize wr.alloc (.cells #[.int .i64 3, .slice q 1 c2] (36 : TypeId)) = w4 at *
      have hga := HGL.out
      have hne : g ≠ a := Nat.ne_of_lt hga
      have d1 := HLA.out.c1
      have d2 : w4.cell? ⟨a, 1, none⟩ = some (.slice q 1 c2) := by rw [cell_of_row _ _ _ _ _ _ HA4.out]; rfl
      have e1 : ∀ i : KB w4 [g, a], i.v.cell? ⟨g, 1, none⟩ = some (.slice (some ⟨gx, 0, none⟩) 2 cx) := fun i => (i.cell (b := g) (by simp) _).trans d1
      have e2 : ∀ i : KB w4 [g, a], i.v.cell? ⟨a, 1, none⟩ = some (.slice q 1 c2) := fun i => (i.cell (b := a) (by simp) _).trans d2
      clear d1 d2
      refine wp_region_seg [0, 0, 0, 0, 0, 0, 0, 1, 2, 2, 99] 1 10 [g, a] (by kernel_rfl) (by kernel_rfl) (by kernel_rfl) (by kernel_rfl) (by kernel_rfl) (by kernel_rfl) (by kernel_rfl) (by kernel_rfl) (fun _ _ _ _ _ h => h) ?_
      simp only [SegW, pk, Nat.reduceMul, Nat.reduceAdd, Nat.reduceBEq, cond_true, cond_false]
      repeat (go_big_quiet_step (fail))
      refine wpQuiet_nil ?_
      have HD0 : Hid (Below w4.heap.size w4 w4.drew) := below_drewN (Below.refl _ _) 1
      have HSRC : Hid (ByAt w4.drew (.slice q 1 c2) [7]) := HB2.out.next ((HBA.out.mono (Nat.le_refl _)).trans (HD0.out.mono HBA.out.size))
      have HOD := hidD (row_below HOA.out HD0.out)
      go_wp2_with (at_builtin; refine wpList_append_by rfl _ _ rfl (g + 1) (.slice (some ⟨gx, 0, none⟩) 2 cx) 2 (([5, 6] : List UInt8).map encB) rfl HOD.out (.slice q 1 c2) [7] rfl HSRC.out (by simp) (by show _ ≤ w4.heap.size; omega) ?_; intro v5 w5 ho5 hg5; have ho6 : w5.ownsRow (g + 1) 5 1 v5 3 (([5, 6, 7] : List UInt8).map encB) := ho5; obtain ⟨gy, cy, rfl, _, _, _⟩ := row_shapeC ho6 (by omega); have HO5 := hidD ho6; have HG5 := hidD hg5; clear ho5 ho6 hg5)
      have HB5 : Hid (Below w.heap.size w w5) := row_grown (row_mono HOD.out (Nat.le_succ_of_le hgb)) (HBA.out.trans (HD0.out.mono HBA.out.size)) HG5.out (Nat.le_trans HBA.out.size (Nat.le_refl _))
      have b1 : w5.heap[g]? = w4.heap[g]? := HG5.out.block g (by show _ < w4.heap.size; omega) (fun h => by have hh : g + 1 ≤ gx := HGX.out; have h2 : g = gx := Option.some.inj h; omega)
      have b2 : w5.heap[a]? = w4.heap[a]? := HG5.out.block a hal (fun h => by have h2 : a = gx := Option.some.inj h; omega)
      refine ⟨⟨⟨w5, fun y hy => by
        simp only [List.mem_cons, List.not_mem_nil, or_false] at hy
        rcases hy with rfl | rfl
        · exact b1
        · exact b2⟩, rfl⟩, ?_⟩
      repeat (go_big_quiet_step (fail))
      refine wpQuiet_nil ?_
      have HL5 := hidD (HLA.out.keep b1)
      have HA5 := hidD (b2.trans HA4.out)
      have d1 := HL5.out.c1
      have f1 := HL5.out.fz
      have HP := hidD (HL5.out.put (.slice (some ⟨gy, 0, none⟩) 3 cy))
      have HQ := hidD ((heap_setCell_other w5 ⟨g, 1, none⟩ a (.slice (some ⟨gy, 0, none⟩) 3 cy) (Ne.symm hne)).trans HA5.out)
      have HR := hidD (row_put (o := 1) HO5.out (Nat.lt_succ_self g) (.slice (some ⟨gy, 0, none⟩) 3 cy))
      have d2 : (w5.setCell ⟨g, 1, none⟩ (.slice (some ⟨gy, 0, none⟩) 3 cy)).cell? ⟨a, 0, none⟩ = some (.int .i64 3) := by rw [cell_of_row _ _ _ _ _ _ HQ.out]; rfl
      have d3 : (w5.setCell ⟨g, 1, none⟩ (.slice (some ⟨gy, 0, none⟩) 3 cy)).cell? ⟨a, 1, none⟩ = some (.slice q 1 c2) := by rw [cell_of_row _ _ _ _ _ _ HQ.out]; rfl
      clear b1 b2
      go_wp2_with fail
      go_roundw
      case rel => exact ⟨HB5.out.setCell (p := ⟨g, 1, none⟩) hgb (.slice (some ⟨gy, 0, none⟩) 3 cy), .inr (.inr ⟨⟨g, c, .slice (some ⟨gy, 0, none⟩) 3 cy, rfl, hgb, HP.out, HR.out, hcg⟩, by go_num, by go_num⟩)⟩
      case measure => simp [intOf]
    · obtain ⟨g, c, x, rfl, hgb, hla, hown, hcg⟩ := hj
      go_wp2_with fail
      go_ret2
      exact ⟨_, rfl, HBW.out, g, c, x, rfl, hgb, hla, hown, hcg⟩
end Go.Proofs.YtpemajghaceegaaGreatDoor
