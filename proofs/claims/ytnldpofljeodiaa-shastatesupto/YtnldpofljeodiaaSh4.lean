/- What narrowShape, wideShape, shapeOf, isWide and Size answer. -/
import Derived.Test.YtnldpofljeodiaaSh3
namespace Go.Proofs.Ytnldpofljeodiaa
open Go.RowKit
set_option linter.unusedVariables false

def shN : Array Value := #[.int .i64 32, .int .i64 64, .int .i64 2, .int .i64 13, .int .i64 22, .int .i64 6, .int .i64 11, .int .i64 25, .int .i64 7, .int .i64 18, .int .i64 3, .int .i64 17, .int .i64 19, .int .i64 10]
def shW : Array Value := #[.int .i64 64, .int .i64 80, .int .i64 28, .int .i64 34, .int .i64 39, .int .i64 14, .int .i64 18, .int .i64 41, .int .i64 1, .int .i64 8, .int .i64 7, .int .i64 19, .int .i64 61, .int .i64 6]
theorem Try.zero67z : (Try.prog.info? 96).map (fun i => (i.zero, i.size)) = some (some (.agg #[.int .i64 0, .int .i64 0, .int .i64 0, .int .i64 0, .int .i64 0, .int .i64 0, .int .i64 0, .int .i64 0, .int .i64 0, .int .i64 0, .int .i64 0, .int .i64 0, .int .i64 0, .int .i64 0]), 14) := by kernel_rfl
/- the shape of a kind -/
def shK (kind : Nat) : Array Value := if 256 < kind then shW else shN

set_option maxRecDepth 100000 in
theorem narrow_any (w : World) : Calls Try.prog 54 #[] w fun e w' => e = .returned (.agg shN) ∧ Below w.heap.size w w' := by
  obtain ⟨hz, hsz⟩ := zero_of_info Try.zero67z
  have HR : Hid ((w.alloc (.cells #[.int .i64 0, .int .i64 0, .int .i64 0, .int .i64 0, .int .i64 0, .int .i64 0, .int .i64 0, .int .i64 0, .int .i64 0, .int .i64 0, .int .i64 0, .int .i64 0, .int .i64 0, .int .i64 0] (96 : TypeId))).heap[w.heap.size]? = some (.cells #[.int .i64 0, .int .i64 0, .int .i64 0, .int .i64 0, .int .i64 0, .int .i64 0, .int .i64 0, .int .i64 0, .int .i64 0, .int .i64 0, .int .i64 0, .int .i64 0, .int .i64 0, .int .i64 0] (96 : TypeId) (0, 0))) := heap_alloc_last _ _
  have HB : Hid (Below w.heap.size w (w.alloc (.cells #[.int .i64 0, .int .i64 0, .int .i64 0, .int .i64 0, .int .i64 0, .int .i64 0, .int .i64 0, .int .i64 0, .int .i64 0, .int .i64 0, .int .i64 0, .int .i64 0, .int .i64 0, .int .i64 0] (96 : TypeId)))) := (Below.refl _ _).alloc (Nat.le_refl _) _
  have HI : Hid ((Try.prog.info? 96).map (·.size) = some shN.size) := hsz
  have HSS : Hid ((#[.int .i64 0, .int .i64 0, .int .i64 0, .int .i64 0, .int .i64 0, .int .i64 0, .int .i64 0, .int .i64 0, .int .i64 0, .int .i64 0, .int .i64 0, .int .i64 0, .int .i64 0, .int .i64 0] : Array Value).size = shN.size) := hidD rfl
  have HONE : Hid (shN.all (·.oneCell') = true) := hidD (by simp [shN, Value.oneCell'])
  clear hsz
  go_enter Try.func54, Try.ntmps54
  go_wp2_with (refine wpList_store_row rfl 96 _ _ rfl w.heap.size shN rfl rfl 96 #[.int .i64 0, .int .i64 0, .int .i64 0, .int .i64 0, .int .i64 0, .int .i64 0, .int .i64 0, .int .i64 0, .int .i64 0, .int .i64 0, .int .i64 0, .int .i64 0, .int .i64 0, .int .i64 0] HR.out HI.out HSS.out HONE.out ?_)
  refine bodyPost_ret (results_cell_row (P := Try.prog) (p := 0) (ty := 96) (by kernel_rfl) _ _ w.heap.size 96 shN (0, 0) _ rfl (setRow_heap _ _ _ _ _ _ HR.out) Try.underlying96 rfl HI.out) rfl ?_
  exact ⟨rfl, below_setRow HB.out (Nat.le_refl _) _⟩

set_option maxRecDepth 100000 in
theorem wide_any (w : World) : Calls Try.prog 52 #[] w fun e w' => e = .returned (.agg shW) ∧ Below w.heap.size w w' := by
  obtain ⟨hz, hsz⟩ := zero_of_info Try.zero67z
  have HR : Hid ((w.alloc (.cells #[.int .i64 0, .int .i64 0, .int .i64 0, .int .i64 0, .int .i64 0, .int .i64 0, .int .i64 0, .int .i64 0, .int .i64 0, .int .i64 0, .int .i64 0, .int .i64 0, .int .i64 0, .int .i64 0] (96 : TypeId))).heap[w.heap.size]? = some (.cells #[.int .i64 0, .int .i64 0, .int .i64 0, .int .i64 0, .int .i64 0, .int .i64 0, .int .i64 0, .int .i64 0, .int .i64 0, .int .i64 0, .int .i64 0, .int .i64 0, .int .i64 0, .int .i64 0] (96 : TypeId) (0, 0))) := heap_alloc_last _ _
  have HB : Hid (Below w.heap.size w (w.alloc (.cells #[.int .i64 0, .int .i64 0, .int .i64 0, .int .i64 0, .int .i64 0, .int .i64 0, .int .i64 0, .int .i64 0, .int .i64 0, .int .i64 0, .int .i64 0, .int .i64 0, .int .i64 0, .int .i64 0] (96 : TypeId)))) := (Below.refl _ _).alloc (Nat.le_refl _) _
  have HI : Hid ((Try.prog.info? 96).map (·.size) = some shW.size) := hsz
  have HSS : Hid ((#[.int .i64 0, .int .i64 0, .int .i64 0, .int .i64 0, .int .i64 0, .int .i64 0, .int .i64 0, .int .i64 0, .int .i64 0, .int .i64 0, .int .i64 0, .int .i64 0, .int .i64 0, .int .i64 0] : Array Value).size = shW.size) := hidD rfl
  have HONE : Hid (shW.all (·.oneCell') = true) := hidD (by simp [shW, Value.oneCell'])
  clear hsz
  go_enter Try.func52, Try.ntmps52
  go_wp2_with (refine wpList_store_row rfl 96 _ _ rfl w.heap.size shW rfl rfl 96 #[.int .i64 0, .int .i64 0, .int .i64 0, .int .i64 0, .int .i64 0, .int .i64 0, .int .i64 0, .int .i64 0, .int .i64 0, .int .i64 0, .int .i64 0, .int .i64 0, .int .i64 0, .int .i64 0] HR.out HI.out HSS.out HONE.out ?_)
  refine bodyPost_ret (results_cell_row (P := Try.prog) (p := 0) (ty := 96) (by kernel_rfl) _ _ w.heap.size 96 shW (0, 0) _ rfl (setRow_heap _ _ _ _ _ _ HR.out) Try.underlying96 rfl HI.out) rfl ?_
  exact ⟨rfl, below_setRow HB.out (Nat.le_refl _) _⟩

theorem isWide_any (k : Nat) (w : World) : Calls Try.prog 50 #[.int .i64 (k : Int)] w fun e w' => e = .returned (.bool (decide (256 < k))) ∧ w' = w := by
  have h : decide ((256 : Int) < (k : Int)) = decide (256 < k) := by
    by_cases h : 256 < k
    · rw [decide_eq_true h, decide_eq_true (by omega)]
    · rw [decide_eq_false h, decide_eq_false (by omega)]
  go_enter Try.func50, Try.ntmps50
  go_wp2_with fail
  go_ret
  exact ⟨by first | rfl | (simp only [← h]; rfl) | simp, rfl⟩
set_option maxRecDepth 100000 in
theorem shapeOf_any (k : Nat) (w : World) : Calls Try.prog 47 #[.int .i64 (k : Int)] w fun e w' => e = .returned (.agg (shK k)) ∧ Below w.heap.size w w' := by
  obtain ⟨hz, hsz⟩ := zero_of_info Try.zero67z
  have HR : Hid ((w.alloc (.cells #[.int .i64 0, .int .i64 0, .int .i64 0, .int .i64 0, .int .i64 0, .int .i64 0, .int .i64 0, .int .i64 0, .int .i64 0, .int .i64 0, .int .i64 0, .int .i64 0, .int .i64 0, .int .i64 0] (96 : TypeId))).heap[w.heap.size]? = some (.cells #[.int .i64 0, .int .i64 0, .int .i64 0, .int .i64 0, .int .i64 0, .int .i64 0, .int .i64 0, .int .i64 0, .int .i64 0, .int .i64 0, .int .i64 0, .int .i64 0, .int .i64 0, .int .i64 0] (96 : TypeId) (0, 0))) := heap_alloc_last _ _
  have HB : Hid (Below w.heap.size w (w.alloc (.cells #[.int .i64 0, .int .i64 0, .int .i64 0, .int .i64 0, .int .i64 0, .int .i64 0, .int .i64 0, .int .i64 0, .int .i64 0, .int .i64 0, .int .i64 0, .int .i64 0, .int .i64 0, .int .i64 0] (96 : TypeId)))) := (Below.refl _ _).alloc (Nat.le_refl _) _
  have HSZ := hidD hsz
  have HIW := hidD (isWide_any k)
  have HN := hidD narrow_any
  have HW := hidD wide_any
  clear hsz
  by_cases h : 256 < k
  · rw [decide_eq_true h] at HIW
    have hk : shK k = shW := if_pos h
    rw [hk]
    have HI : Hid ((Try.prog.info? 96).map (·.size) = some shW.size) := HSZ.out
    have HSS : Hid ((#[.int .i64 0, .int .i64 0, .int .i64 0, .int .i64 0, .int .i64 0, .int .i64 0, .int .i64 0, .int .i64 0, .int .i64 0, .int .i64 0, .int .i64 0, .int .i64 0, .int .i64 0, .int .i64 0] : Array Value).size = shW.size) := hidD rfl
    have HONE : Hid (shW.all (·.oneCell') = true) := hidD (by simp [shW, Value.oneCell'])
    clear h hk
    generalize shW = C at *
    generalize (#[.int .i64 0, .int .i64 0, .int .i64 0, .int .i64 0, .int .i64 0, .int .i64 0, .int .i64 0, .int .i64 0, .int .i64 0, .int .i64 0, .int .i64 0, .int .i64 0, .int .i64 0, .int .i64 0] : Array Value) = C0 at *
    go_enter Try.func47, Try.ntmps47
    go_wp2_with (first
      | (go_at_call 50; refine (HIW.out _).mono ?_; rintro e wz ⟨rfl, hwz⟩; subst wz)
      | (go_at_call 52; refine (HW.out _).mono ?_; rintro e w1 ⟨rfl, hb⟩; have HB1 := hidD (Below.next HB.out hb); have HR1 : Hid (w1.heap[w.heap.size]? = some (.cells C0 (96 : TypeId) (0, 0))) := (hb.block _ (row_lt HR.out)).trans HR.out; clear hb)
      | (refine wpList_store_row rfl 96 _ _ rfl w.heap.size C rfl rfl 96 C0 HR1.out HI.out HSS.out HONE.out ?_))
    refine bodyPost_ret (results_cell_row (P := Try.prog) (p := 2) (ty := 96) (by kernel_rfl) _ _ w.heap.size 96 C (0, 0) _ rfl (setRow_heap _ _ _ _ _ _ HR1.out) Try.underlying96 rfl HI.out) rfl ?_
    exact ⟨rfl, below_setRow HB1.out (Nat.le_refl _) _⟩
  · rw [decide_eq_false h] at HIW
    have hk : shK k = shN := if_neg h
    rw [hk]
    have HI : Hid ((Try.prog.info? 96).map (·.size) = some shN.size) := HSZ.out
    have HSS : Hid ((#[.int .i64 0, .int .i64 0, .int .i64 0, .int .i64 0, .int .i64 0, .int .i64 0, .int .i64 0, .int .i64 0, .int .i64 0, .int .i64 0, .int .i64 0, .int .i64 0, .int .i64 0, .int .i64 0] : Array Value).size = shN.size) := hidD rfl
    have HONE : Hid (shN.all (·.oneCell') = true) := hidD (by simp [shN, Value.oneCell'])
    clear h hk
    generalize shN = C at *
    generalize (#[.int .i64 0, .int .i64 0, .int .i64 0, .int .i64 0, .int .i64 0, .int .i64 0, .int .i64 0, .int .i64 0, .int .i64 0, .int .i64 0, .int .i64 0, .int .i64 0, .int .i64 0, .int .i64 0] : Array Value) = C0 at *
    go_enter Try.func47, Try.ntmps47
    go_wp2_with (first
      | (go_at_call 50; refine (HIW.out _).mono ?_; rintro e wz ⟨rfl, hwz⟩; subst wz)
      | (go_at_call 54; refine (HN.out _).mono ?_; rintro e w1 ⟨rfl, hb⟩; have HB1 := hidD (Below.next HB.out hb); have HR1 : Hid (w1.heap[w.heap.size]? = some (.cells C0 (96 : TypeId) (0, 0))) := (hb.block _ (row_lt HR.out)).trans HR.out; clear hb)
      | (refine wpList_store_row rfl 96 _ _ rfl w.heap.size C rfl rfl 96 C0 HR1.out HI.out HSS.out HONE.out ?_))
    refine bodyPost_ret (results_cell_row (P := Try.prog) (p := 2) (ty := 96) (by kernel_rfl) _ _ w.heap.size 96 C (0, 0) _ rfl (setRow_heap _ _ _ _ _ _ HR1.out) Try.underlying96 rfl HI.out) rfl ?_
    exact ⟨rfl, below_setRow HB1.out (Nat.le_refl _) _⟩
/- the four kinds -/
def Kind (k : Nat) : Prop := k = 224 ∨ k = 256 ∨ k = 384 ∨ k = 512
def blkN (k : Nat) : Nat := if 256 < k then 128 else 64
theorem size_any (k : Nat) (hk : Kind k) (w : World) : Calls Try.prog 36 #[.int .i64 (k : Int)] w fun e w' => e = .returned (.tuple #[.int .i64 ((k / 8 : Nat) : Int), .int .i64 (blkN k : Int), .int .i64 0]) ∧ w' = w := by
  rcases hk with rfl | rfl | rfl | rfl <;>
  · go_enter Try.func36, Try.ntmps36
    go_wp2_with fail
    refine bodyPost_ret (by simp [results, Try.results36, go_sem]; rfl) rfl ?_
    exact ⟨rfl, rfl⟩
theorem size_no (k : Int) (h : k ≠ 224 ∧ k ≠ 256 ∧ k ≠ 384 ∧ k ≠ 512) (w : World) : Calls Try.prog 36 #[.int .i64 k] w fun e w' => e = .returned (.tuple #[.int .i64 0, .int .i64 0, .int .i64 1]) ∧ w' = w := by
  obtain ⟨h1, h2, h3, h4⟩ := h
  go_enter Try.func36, Try.ntmps36
  go_wp2_with fail
  refine bodyPost_ret (v := .tuple #[.int .i64 0, .int .i64 0, .int .i64 1]) (by simp [results, Try.results36, go_sem]) rfl ?_
  exact ⟨rfl, rfl⟩
end Go.Proofs.Ytnldpofljeodiaa
