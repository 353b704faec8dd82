/- What Catalogue, Find and Words of the document, Words and Rule of the program, and sameModel of the statements answer. -/
import Derived.Test.YtjhaaphgaplhlaaRtb
namespace Go.Proofs.Ytjhaaphgaplhlaa
open Go.RowKit
set_option linter.unusedVariables false

set_option maxRecDepth 100000 in
set_option maxHeartbeats 400000 in
theorem refCatalogue_any (w : World) : Calls Try.prog 15 #[] w fun e w' => ∃ g, e = .returned (.slice (some ⟨g, 0, none⟩) 10 10) ∧ w.heap.size ≤ g ∧ w'.heap[g]? = some (.cells catC 36 (0, 0)) ∧ Below w.heap.size w w' := by
  go_enter Try.func15, Try.ntmps15
  go_wp2_with fail
  go_ret
  exact ⟨w.heap.size, rfl, Nat.le_refl _, heap_alloc_last _ _, (Below.refl w.heap.size w).alloc (Nat.le_refl _) _⟩

theorem Md.size36 (m : Md) : (Try.prog.info? 36).map (·.size) = some m.cells.size := by
  show _ = some 7
  kernel_rfl

set_option maxRecDepth 100000 in
set_option maxHeartbeats 400000 in
theorem refFind_any (name : ByteArray) (w : World) : Calls Try.prog 18 #[.string name] w fun e w' => e = .returned (.tuple #[(findS name).1.v, .bool (findS name).2]) ∧ Below w.heap.size w w' := by
  have HC := hidD refCatalogue_any
  generalize hF : findS name = F
  have HF := hidD hF
  clear hF
  go_enter Try.func18, Try.ntmps18
  go_wp2_with (go_at_call 15; refine (HC.out _).mono ?_; rintro e w1 ⟨g, rfl, hg, hcat, hb1⟩)
  have hgl : g < w1.heap.size := row_lt hcat
  have hwl : w.heap.size < w1.heap.size := by have := hb1.size; simp at this; omega
  have HW := hidD hwl
  have HCT : Hid (∀ wr, Below w1.heap.size w1 wr → wr.heap[g]? = some (.cells catC 36 (0, 0))) := fun wr h => by rw [h.block g hgl]; exact hcat
  have HRS : Hid (∀ wr, Below w1.heap.size w1 wr → wr.heap[w.heap.size]? = some (.cells md0.cells 36 (0, 0))) := fun wr h => by rw [h.block _ hwl, hb1.block _ (by simp)]; exact heap_alloc_last _ _
  have HB1 : Hid (Below w.heap.size w w1) := ((Below.refl w.heap.size w).alloc (Nat.le_refl _) _).trans (hb1.mono (by simp))
  clear hg hcat hb1 hgl hwl
  go_loopw [3, 5] (fun b i wr => ∃ k : Nat, k ≤ 10 ∧ i = .int .i64 k ∧ b = .bool false ∧ (∀ j, j < k → (catL.getD j md0).name ≠ name) ∧ Below w1.heap.size w1 wr) (fun _ i _ => 10 - (intOf i).toNat)
  case atStart => exact ⟨0, Nat.zero_le _, rfl, rfl, fun j hj => by omega, Below.refl _ _⟩
  case round =>
    obtain ⟨k, hk, rfl, rfl, hno, hbel⟩ := hrel
    have HBL := hidD hbel
    have HNO := hidD hno
    clear hno
    by_cases hlt : k < 10
    · have hlti : (k : Int) < 10 := by omega
      obtain ⟨k0, k1, k2, k3, k4, k5, k6⟩ := cat_in (HCT.out _ hbel) k hlt
      have HHIT := hidD (fun h => find_hit hlt h HNO.out)
      have HNX : Hid ((catL.getD k md0).name ≠ name → ∀ j, j < k + 1 → (catL.getD j md0).name ≠ name) := fun h j hj => by
        rcases Nat.lt_or_ge j k with h1 | h1
        · exact HNO.out j h1
        · obtain rfl : j = k := by omega
          exact h
      have HR := hidD (HRS.out _ hbel)
      generalize hM : catL.getD k md0 = M at *
      have HM := hidD hM
      clear hM
      obtain ⟨nm, ww, P, I, inn, out, X⟩ := M
      simp only at *
      clear hbel
      by_cases hn : nm = name
      · subst hn
        have HF2 : Hid (F = (⟨nm, ww, P, I, inn, out, X⟩, true)) := HF.out.symm.trans (HHIT.out rfl)
        clear HHIT HNX HM
        go_wp2_with (refine wpList_store_row rfl 36 _ _ rfl w.heap.size (Md.cells ⟨nm, ww, P, I, inn, out, X⟩) rfl rfl 36 md0.cells HR.out (Md.size36 _) rfl (Md.one _) ?_)
        refine bodyPost_ret (v := .tuple #[Md.v ⟨nm, ww, P, I, inn, out, X⟩, .bool true]) ?_ rfl ?_
        · rw [results_cell_tmp (p := 2) (u := 3) (ty := 36) (by kernel_rfl)]
          rw [show (asAddr _).run _ _ = .ok ⟨w.heap.size, 0, none⟩ _ from rfl]
          rw [Result.andThen_ok, run_loadVar_row _ w.heap.size 36 36 (Md.cells ⟨nm, ww, P, I, inn, out, X⟩) (0, 0) _ (setRow_heap _ _ md0.cells _ 36 (0, 0) HR.out) Try.underlying36 rfl (Md.size36 _)]
          rfl
        · rw [HF2.out]
          exact ⟨rfl, below_setRow (HB1.out.trans (HBL.out.mono (Nat.le_of_lt HW.out))) (Nat.le_refl _) _⟩
      · have hnb : (nm.toList == name.toList) = false := by
          rw [beq_eq_false_iff_ne]
          intro h
          rw [ByteArray.toList_eq, ByteArray.toList_eq] at h
          exact hn (ByteArray.ext (Array.toList_inj.1 h))
        go_wp2_with fail
        go_roundw
        case rel => exact ⟨k + 1, by omega, by go_num, rfl, HNX.out hn, HBL.out⟩
        case measure => simp [intOf]; omega
    · obtain rfl : k = 10 := by omega
      have HF2 : Hid (F = (md0, false)) := HF.out.symm.trans (find_miss HNO.out)
      have hR := HRS.out _ hbel
      go_wp2_with (refine wpList_store_row rfl 36 _ _ rfl w.heap.size md0.cells rfl rfl 36 md0.cells hR (Md.size36 _) rfl (Md.one _) ?_)
      refine bodyPost_ret (v := .tuple #[Md.v md0, .bool false]) ?_ rfl ?_
      · rw [results_cell_tmp (p := 2) (u := 3) (ty := 36) (by kernel_rfl)]
        rw [show (asAddr _).run _ _ = .ok ⟨w.heap.size, 0, none⟩ _ from rfl]
        rw [Result.andThen_ok, run_loadVar_row _ w.heap.size 36 36 md0.cells (0, 0) _ (setRow_heap _ _ md0.cells _ 36 (0, 0) hR) Try.underlying36 rfl (Md.size36 _)]
        rfl
      · rw [HF2.out]
        exact ⟨rfl, below_setRow (HB1.out.trans (hbel.mono (Nat.le_of_lt HW.out))) (Nat.le_refl _) _⟩

set_option maxRecDepth 100000 in
set_option maxHeartbeats 400000 in
theorem sameModel_same (m : Md) (w : World) : Calls Try.prog 16 #[m.v, m.v] w fun e w' => e = .returned (.bool true) ∧ Below w.heap.size w w' := by
  obtain ⟨nm, ww, P, I, inn, out, X⟩ := m
  simp only [Md.v]
  have HB : Hid (∀ o1 o2, Below w.heap.size w ((w.alloc o1).alloc o2)) := fun o1 o2 => ((Below.refl w.heap.size w).alloc (Nat.le_refl _) o1).alloc (by simp) o2
  go_enter Try.func16, Try.ntmps16
  go_wp2_with fail
  go_ret
  exact ⟨rfl, HB.out _ _⟩

set_option maxRecDepth 100000 in
set_option maxHeartbeats 400000 in
theorem words_any (w : World) : Calls Try.prog 10 #[] w fun e w' => ∃ g, e = .returned (.slice (some ⟨g, 0, none⟩) 256 256) ∧ w.heap.size ≤ g ∧ w'.heap[g]? = some (.cells (fillC .u32 t32 256) (81 : TypeId) (0, 0)) ∧ Below w.heap.size w w' := by
  have HT := hidD table32_any
  obtain ⟨hz, hsz⟩ := zero_of_info Try.zero81
  have h0 : (fillC .u32 t32 0).size = 256 := fill_size _ _ _ (by omega)
  have h256 : (fillC .u32 t32 256).size = 256 := fill_size _ _ _ (by omega)
  have HONE := hidD (fill_one .u32 t32 256)
  generalize fillC .u32 t32 256 = C at *
  generalize fillC .u32 t32 0 = C0 at *
  have hi : (Try.prog.info? 81).map (·.size) = some C.size := by rw [hsz, h256]
  go_enter Try.func10, Try.ntmps10
  go_wp2_with (first | (go_at_call 44; refine (HT.out _).mono ?_; rintro e w1 ⟨rfl, hb1⟩; have HO : Hid ((w1.alloc (.cells C0 (81 : TypeId))).heap[w1.heap.size]? = some (.cells C0 (81 : TypeId) (0, 0))) := heap_alloc_last _ _) | (refine wpList_store_row rfl 81 _ _ rfl w1.heap.size C rfl rfl 81 C0 HO.out hi (by rw [h0, h256]) HONE.out ?_; rw [World.setRow_alloc_new]))
  go_ret
  exact ⟨w1.heap.size, rfl, hb1.size, heap_alloc_last _ _, hb1.alloc hb1.size _⟩
end Go.Proofs.Ytjhaaphgaplhlaa
