/- What Begin of the program answers. -/
import Derived.Test.YtjhaaphgaplhlaaSt2
import Derived.Deep.RegionWith
namespace Go.Proofs.Ytjhaaphgaplhlaa
open Go.RowKit
set_option linter.unusedVariables false

def Md.bare (m : Md) : Md := ⟨⟨#[]⟩, m.w, m.P, m.I, m.inn, m.out, m.X⟩
theorem Md.bare_ok {m : Md} (h : MdOk m) : MdOk m.bare := ⟨h.lo, h.hi, h.P, h.I, h.X⟩
def stepF (gm gx gt : Nat) : Value := .func (.func 63) #[] #[.pointer (some ⟨gm, 0, none⟩), .pointer (some ⟨gx, 0, none⟩), .pointer (some ⟨gt, 0, none⟩)]
/-- A state's cells. -/
def stC (m : Md) (F : Value) (r n : Nat) : Array Value := #[.string ⟨#[]⟩, .int .i64 m.w, .int .u64 m.P, .int .u64 m.I, .bool m.inn, .bool m.out, .int .u64 m.X, F, .int .u64 r, .int .u64 n]
/-- A state lies there. -/
structure StAt (w : World) (m : Md) (gs gm gx gt r n : Nat) : Prop where
  st : w.heap[gs]? = some (.cells (stC m (stepF gm gx gt) r n) (99 : TypeId) (0, 0))
  sp : StepAt w m.bare gm gx gt
  h1 : gm < gs
  h2 : gx < gs
  h3 : gt < gs
theorem StAt.next {w w' : World} {m : Md} {gs gm gx gt r n : Nat} (h : StAt w m gs gm gx gt r n) (hb : Below w.heap.size w w') : StAt w' m gs gm gx gt r n :=
  ⟨by rw [hb.block _ (row_lt h.st)]; exact h.st, h.sp.next hb, h.h1, h.h2, h.h3⟩

set_option maxRecDepth 100000 in
set_option maxHeartbeats 400000 in
theorem begin_none (m : Mw) (hm : MwOk m) (hv : ¬ m.Valid) (w : World) : Calls Try.prog 39 #[m.v] w fun e w' => e = .returned (.tuple #[.pointer none, .int .i64 40]) ∧ Below w.heap.size w w' := by
  have HV := hidD (fun w => valid_any m hm false (by simp [hv]) w)
  clear hv hm
  obtain ⟨nm, W, P, I, inn, out, X⟩ := m
  simp only [Mw.v] at *
  have HB : Hid (∀ o, Below w.heap.size w (w.alloc o)) := fun o => (Below.refl w.heap.size w).alloc (Nat.le_refl _) o
  go_enter Try.func39, Try.ntmps39
  go_wp2_with (go_at_call 25; refine (HV.out _).mono ?_; rintro e w2 ⟨rfl, hb2⟩)
  refine bodyPost_ret (v := .tuple #[.pointer none, .int .i64 40]) (by simp [results, Try.results39, go_sem]) rfl ⟨rfl, Below.next (HB.out _) hb2⟩

set_option maxRecDepth 100000 in
set_option maxHeartbeats 2000000 in
theorem begin_some (m : Md) (hm : MdOk m) (w : World) : Calls Try.prog 39 #[m.v] w fun e w' => ∃ gs gm gx gt, e = .returned (.tuple #[.pointer (some ⟨gs, 0, none⟩), .int .i64 0]) ∧ w.heap.size ≤ gm ∧ w.heap.size ≤ gx ∧ w.heap.size ≤ gt ∧ StAt w' m gs gm gx gt m.I 0 ∧ Below w.heap.size w w' := by
  have HV : Hid (∀ w, Calls Try.prog 25 #[m.v] w fun e w' => e = .returned (.bool true) ∧ Below w.heap.size w w') := fun w => valid_any ⟨m.name, m.w, m.P, m.I, m.inn, m.out, m.X⟩ hm.raw true (by simp [Md.valid m hm]) w
  have HS := hidD (fun w => stepOf_any m.bare (Md.bare_ok hm) w)
  have HA := hidD (MdAt.new m w 35)
  have HO0 : Hid ((w.alloc (.cells m.cells 35)).heap[w.heap.size]? = some (.cells m.cells 35 (0, 0))) := heap_alloc_last _ _
  have HB0 : Hid (Below w.heap.size w (w.alloc (.cells m.cells 35))) := (Below.refl w.heap.size w).alloc (Nat.le_refl _) _
  have HSZ : Hid (w.heap.size < (w.alloc (.cells m.cells 35)).heap.size) := by show _ < _; simp
  have HMK : Hid (∀ (w' : World) (gs gm gx gt : Nat), w'.heap[gs]? = some (.cells (stC m (stepF gm gx gt) m.I 0) (99 : TypeId) (0, 0)) → StepAt w' m.bare gm gx gt → gm < gs → gx < gs → gt < gs → StAt w' m gs gm gx gt m.I 0) := fun w' gs gm gx gt a b c d e => ⟨a, b, c, d, e⟩
  have HNB : Hid (∀ w' : World, w'.heap[w.heap.size]? = some (.cells (m.cells.setIfInBounds 0 (.string ⟨#[]⟩)) 35 (0, 0)) → MdAt w' w.heap.size m.bare) := fun w' h => by
    constructor <;> (rw [cell_of_row _ _ _ _ _ _ h]; rfl)
  clear hm
  obtain ⟨nm, ww, P, I, inn, out, X⟩ := m
  simp only [Md.v, Md.cells, Md.bare] at *
  go_enter Try.func39, Try.ntmps39
  go_wp2_with (go_at_call 25; refine (HV.out _).mono ?_; rintro e w1 ⟨rfl, hb1⟩; have HL1 := hidD (Nat.lt_of_lt_of_le HSZ.out hb1.size); have HB1 := hidD (Below.next HB0.out hb1); have HO1 := hidD ((hb1.block _ HSZ.out).trans HO0.out); obtain ⟨k0, k1, k2, k3, k4, k5, k6⟩ := HA.out.below hb1 HSZ.out; simp only at k0; have f0 : w1.frozen? ⟨w.heap.size, 0, none⟩ = false := frozen_of_row _ _ _ _ _ HO1.out; clear k1 k2 k3 k4 k5 k6 hb1)
  have HX2 := hidD (HNB.out _ (heap_setCell_same w1 w.heap.size 0 _ _ (.string ⟨#[]⟩) HO1.out))
  have HB2 := hidD (HB1.out.setCell (p := ⟨w.heap.size, 0, none⟩) (Nat.le_refl _) (.string ⟨#[]⟩))
  have HL2 : Hid (w.heap.size < (w1.setCell ⟨w.heap.size, 0, none⟩ (.string ⟨#[]⟩)).heap.size) := by show _ < _; simp; exact HL1.out
  clear k0 f0
  generalize w1.setCell ⟨w.heap.size, 0, none⟩ (.string ⟨#[]⟩) = w2 at *
  obtain ⟨k0, k1, k2, k3, k4, k5, k6⟩ := HX2.out
  simp only at k0 k1 k2 k3 k4 k5 k6
  go_region_with (go_at_call 57; refine (HS.out _).mono ?_; rintro e w3 ⟨gm, gx, gt, rfl, l1, l2, l3, hsp, hb3⟩; have HSP := hidD hsp; have hb4 : Below w2.heap.size w2 w3 := ((Below.refl w2.heap.size w2).drew).trans hb3; have HB3 := hidD hb4; have HI1 := hidD l1; have HI2 := hidD l2; have HI3 := hidD l3; obtain ⟨j0, j1, j2, j3, j4, j5, j6⟩ := HX2.out.below hb4 HL2.out; simp only at j0 j1 j2 j3 j4 j5 j6; clear hsp hb3 hb4 l1 l2 l3)
  all_goals
    try go_wp2_with fail
    refine bodyPost_ret (v := .tuple #[.pointer (some ⟨w3.heap.size, 0, none⟩), .int .i64 0]) (by simp [results, Try.results39, go_sem]) rfl ?_
    refine ⟨w3.heap.size, gm, gx, gt, rfl, Nat.le_trans HB2.out.size HI1.out, Nat.le_trans HB2.out.size HI2.out, Nat.le_trans HB2.out.size HI3.out, HMK.out _ _ _ _ _ (heap_alloc_last _ _) (HSP.out.next ((Below.refl _ _).alloc (Nat.le_refl _) _)) HSP.out.lm HSP.out.lx (row_lt HSP.out.tab), Below.more (Below.next HB2.out HB3.out) _⟩
end Go.Proofs.Ytjhaaphgaplhlaa
