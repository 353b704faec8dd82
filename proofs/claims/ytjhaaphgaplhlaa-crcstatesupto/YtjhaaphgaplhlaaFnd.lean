/- What Find of the program answers. -/
import Derived.Test.YtjhaaphgaplhlaaCat
namespace Go.Proofs.Ytjhaaphgaplhlaa
open Go.RowKit
set_option linter.unusedVariables false

def findS (name : ByteArray) : Md × Bool := match catL.find? (fun m => decide (m.name = name)) with | some m => (m, true) | none => (md0, false)
theorem find_hit {name : ByteArray} {k : Nat} (hk : k < 10) (h : (catL.getD k md0).name = name) (hn : ∀ j, j < k → (catL.getD j md0).name ≠ name) : findS name = (catL.getD k md0, true) := by
  have hl : catL.length = 10 := rfl
  have : catL.find? (fun m => decide (m.name = name)) = some (catL.getD k md0) := by
    rw [List.find?_eq_some_iff_getElem]
    refine ⟨by simpa using h, k, by omega, ?_, fun j hj => ?_⟩
    · rw [List.getD_eq_getElem?_getD, List.getElem?_eq_getElem (by omega)]; rfl
    · have := hn j hj
      rw [List.getD_eq_getElem?_getD, List.getElem?_eq_getElem (by omega)] at this
      simpa using this
  rw [findS, this]
theorem find_miss {name : ByteArray} (hn : ∀ j, j < 10 → (catL.getD j md0).name ≠ name) : findS name = (md0, false) := by
  have hl : catL.length = 10 := rfl
  have : catL.find? (fun m => decide (m.name = name)) = none := by
    rw [List.find?_eq_none]
    intro m hm
    obtain ⟨j, hj, rfl⟩ := List.mem_iff_getElem.1 hm
    have := hn j (by omega)
    rw [List.getD_eq_getElem?_getD, List.getElem?_eq_getElem (by omega)] at this
    simpa using this
  rw [findS, this]
/-- A model lies in a block from a place on. -/
structure MdIn (w : World) (g o : Nat) (m : Md) : Prop where
  c0 : w.cell? ⟨g, o, none⟩ = some (.string m.name)
  c1 : w.cell? ⟨g, o + 1, none⟩ = some (.int .i64 (m.w : Int))
  c2 : w.cell? ⟨g, o + 2, none⟩ = some (.int .u64 (m.P : Int))
  c3 : w.cell? ⟨g, o + 3, none⟩ = some (.int .u64 (m.I : Int))
  c4 : w.cell? ⟨g, o + 4, none⟩ = some (.bool m.inn)
  c5 : w.cell? ⟨g, o + 5, none⟩ = some (.bool m.out)
  c6 : w.cell? ⟨g, o + 6, none⟩ = some (.int .u64 (m.X : Int))
theorem cat_in {w : World} {g : Nat} {t : TypeId} (h : w.heap[g]? = some (.cells catC t (0, 0))) (k : Nat) (hk : k < 10) : MdIn w g (k * 7) (catL.getD k md0) := by
  have key : ∀ (k : Fin 10) (j : Nat) (hj : j < 7), catC[k.val * 7 + j]? = (catL.getD k.val md0).cells[j]? := by
    intro k j hj
    obtain ⟨k, hk⟩ := k
    have h1 : k = 0 ∨ k = 1 ∨ k = 2 ∨ k = 3 ∨ k = 4 ∨ k = 5 ∨ k = 6 ∨ k = 7 ∨ k = 8 ∨ k = 9 := by omega
    have h2 : j = 0 ∨ j = 1 ∨ j = 2 ∨ j = 3 ∨ j = 4 ∨ j = 5 ∨ j = 6 := by omega
    rcases h1 with rfl | rfl | rfl | rfl | rfl | rfl | rfl | rfl | rfl | rfl <;> rcases h2 with rfl | rfl | rfl | rfl | rfl | rfl | rfl <;> rfl
  have cell : ∀ j, j < 7 → w.cell? ⟨g, k * 7 + j, none⟩ = (catL.getD k md0).cells[j]? := fun j hj => by
    rw [cell_of_row w g _ catC t (0, 0) h]; exact key ⟨k, hk⟩ j hj
  exact ⟨cell 0 (by omega), cell 1 (by omega), cell 2 (by omega), cell 3 (by omega), cell 4 (by omega), cell 5 (by omega), cell 6 (by omega)⟩

theorem Md.one (m : Md) : m.cells.all (·.oneCell') = true := by
  rw [Array.all_eq_true_iff_forall_mem]
  intro v hv
  simp only [Md.cells, List.mem_toArray, List.mem_cons, List.not_mem_nil, or_false] at hv
  rcases hv with rfl | rfl | rfl | rfl | rfl | rfl | rfl <;> rfl
theorem Md.size (m : Md) : (Try.prog.info? 35).map (·.size) = some m.cells.size := by
  show _ = some 7
  kernel_rfl
set_option maxRecDepth 100000 in
set_option maxHeartbeats 400000 in
theorem find_any (name : ByteArray) (w : World) : Calls Try.prog 17 #[.string name] w fun e w' => e = .returned (.tuple #[(findS name).1.v, .bool (findS name).2]) ∧ Below w.heap.size w w' := by
  have HC := hidD catalogue_any
  generalize hF : findS name = F
  have HF := hidD hF
  clear hF
  go_enter Try.func17, Try.ntmps17
  go_wp2_with (go_at_call 14; refine (HC.out _).mono ?_; rintro e w1 ⟨g, rfl, hg, hcat, hb1⟩)
  have hgl : g < w1.heap.size := by
    rcases Nat.lt_or_ge g w1.heap.size with h | h
    · exact h
    · rw [Array.getElem?_eq_none h] at hcat; cases hcat
  have hwl : w.heap.size < w1.heap.size := by have := hb1.size; simp at this; omega
  have HW := hidD hwl
  have HCT : Hid (∀ wr, Below w1.heap.size w1 wr → wr.heap[g]? = some (.cells catC 35 (0, 0))) := fun wr h => by rw [h.block g hgl]; exact hcat
  have HRS : Hid (∀ wr, Below w1.heap.size w1 wr → wr.heap[w.heap.size]? = some (.cells md0.cells 35 (0, 0))) := fun wr h => by rw [h.block _ hwl, hb1.block _ (by simp)]; exact heap_alloc_last _ _
  have HB1 : Hid (Below w.heap.size w w1) := ((Below.refl w.heap.size w).alloc (Nat.le_refl _) _).trans (hb1.mono (by simp))
  clear hg hcat hb1 hgl hwl
  go_loopw [3, 8] (fun b i wr => ∃ k : Nat, k ≤ 10 ∧ i = .int .i64 k ∧ b = .bool false ∧ (∀ j, j < k → (catL.getD j md0).name ≠ name) ∧ Below w1.heap.size w1 wr) (fun _ i _ => 10 - (intOf i).toNat)
  case atStart => exact ⟨0, Nat.zero_le _, rfl, rfl, fun j hj => by omega, Below.refl _ _⟩
  case round =>
    obtain ⟨k, hk, rfl, rfl, hno, hbel⟩ := hrel
    have HBL := hidD hbel
    have HNO := hidD hno
    clear hno
    by_cases hlt : k < 10
    · have hlti : (k : Int) < 10 := by omega
      obtain ⟨k0, k1, k2, k3, k4, k5, k6⟩ := cat_in (HCT.out _ hbel) k hlt
      have HHIT := hidD (fun h => find_hit hlt h HNO.out)
      have HNX : Hid ((catL.getD k md0).name ≠ name → ∀ j, j < k + 1 → (catL.getD j md0).name ≠ name) := fun h j hj => by
        rcases Nat.lt_or_ge j k with h1 | h1
        · exact HNO.out j h1
        · obtain rfl : j = k := by omega
          exact h
      have HR : Hid (∀ o, (wr.alloc o).heap[w.heap.size]? = some (.cells md0.cells 35 (0, 0))) := fun o => by
        rw [Below.heap_alloc _ _ _ (by have := hbel.size; have := HW.out; omega)]; exact HRS.out _ hbel
      have hwz := hbel.size
      generalize hM : catL.getD k md0 = M at *
      have HM := hidD hM
      clear hM
      obtain ⟨nm, ww, P, I, inn, out, X⟩ := M
      simp only at *
      have HM2 := hidD (MdAt.new ⟨nm, ww, P, I, inn, out, X⟩ wr 35)
      simp only [Md.cells] at HM2
      clear hbel
      by_cases hn : nm = name
      · subst hn
        have HF2 : Hid (F = (⟨nm, ww, P, I, inn, out, X⟩, true)) := HF.out.symm.trans (HHIT.out rfl)
        clear HHIT HNX HM
        go_wp2_with (refine wpList_store_row rfl 35 _ _ rfl w.heap.size (Md.cells ⟨nm, ww, P, I, inn, out, X⟩) rfl rfl 35 md0.cells (HR.out _) (Md.size _) rfl (Md.one _) ?_)
        refine bodyPost_ret (v := .tuple #[Md.v ⟨nm, ww, P, I, inn, out, X⟩, .bool true]) ?_ rfl ?_
        · rw [results_cell_tmp (p := 2) (u := 3) (ty := 35) (by kernel_rfl)]
          rw [show (asAddr _).run _ _ = .ok ⟨w.heap.size, 0, none⟩ _ from rfl]
          rw [Result.andThen_ok, run_loadVar_row _ w.heap.size 35 35 (Md.cells ⟨nm, ww, P, I, inn, out, X⟩) (0, 0) _ (setRow_heap _ _ md0.cells _ 35 (0, 0) (HR.out _)) Try.underlying35 rfl (Md.size _)]
          rfl
        · rw [HF2.out]
          exact ⟨rfl, below_setRow ((HB1.out.trans (HBL.out.mono (Nat.le_of_lt HW.out))).alloc (by have := HW.out; omega) _) (Nat.le_refl _) _⟩
      · have hnb : (nm.toList == name.toList) = false := by
          rw [beq_eq_false_iff_ne]
          intro h
          rw [ByteArray.toList_eq, ByteArray.toList_eq] at h
          exact hn (ByteArray.ext (Array.toList_inj.1 h))
        go_wp2_with fail
        go_roundw
        case rel => exact ⟨k + 1, by omega, by go_num, rfl, HNX.out hn, HBL.out.alloc hwz _⟩
        case measure => simp [intOf]; omega
    · obtain rfl : k = 10 := by omega
      have HF2 : Hid (F = (md0, false)) := HF.out.symm.trans (find_miss HNO.out)
      have hR := HRS.out _ hbel
      go_wp2_with (refine wpList_store_row rfl 35 _ _ rfl w.heap.size md0.cells rfl rfl 35 md0.cells hR (Md.size _) rfl (Md.one _) ?_)
      refine bodyPost_ret (v := .tuple #[Md.v md0, .bool false]) ?_ rfl ?_
      · rw [results_cell_tmp (p := 2) (u := 3) (ty := 35) (by kernel_rfl)]
        rw [show (asAddr _).run _ _ = .ok ⟨w.heap.size, 0, none⟩ _ from rfl]
        rw [Result.andThen_ok, run_loadVar_row _ w.heap.size 35 35 md0.cells (0, 0) _ (setRow_heap _ _ md0.cells _ 35 (0, 0) hR) Try.underlying35 rfl (Md.size _)]
        rfl
      · rw [HF2.out]
        exact ⟨rfl, below_setRow (HB1.out.trans (hbel.mono (Nat.le_of_lt HW.out))) (Nat.le_refl _) _⟩
end Go.Proofs.Ytjhaaphgaplhlaa
