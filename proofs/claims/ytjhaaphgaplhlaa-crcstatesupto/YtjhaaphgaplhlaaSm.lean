/- What Sum, mine and no answer. -/
import Derived.Test.YtjhaaphgaplhlaaVld
import Derived.WalkKit
namespace Go.Proofs.Ytjhaaphgaplhlaa
open Go.RowKit
set_option linter.unusedVariables false

/-- The fields of what may be a model lie in a block. -/
structure MwAt (w : World) (g : Nat) (m : Mw) : Prop where
  c0 : w.cell? ⟨g, 0, none⟩ = some (.string m.name)
  c1 : w.cell? ⟨g, 1, none⟩ = some (.int .i64 m.W)
  c2 : w.cell? ⟨g, 2, none⟩ = some (.int .u64 (m.P : Int))
  c3 : w.cell? ⟨g, 3, none⟩ = some (.int .u64 (m.I : Int))
  c4 : w.cell? ⟨g, 4, none⟩ = some (.bool m.inn)
  c5 : w.cell? ⟨g, 5, none⟩ = some (.bool m.out)
  c6 : w.cell? ⟨g, 6, none⟩ = some (.int .u64 (m.X : Int))
theorem MwAt.new (m : Mw) (w : World) (t : TypeId) : MwAt (w.alloc (.cells m.cells t)) w.heap.size m := by
  constructor <;> (rw [World.cell?_alloc_new]; rfl)
theorem MwAt.below {w w' : World} {g : Nat} {m : Mw} (h : MwAt w g m) {n : Nat} (hb : Below n w w') (hg : g < n) : MwAt w' g m := by
  obtain ⟨h0, h1, h2, h3, h4, h5, h6⟩ := h
  constructor <;> (rw [hb.cell (p := ⟨g, _, none⟩) hg]; assumption)
theorem no_any (z : Int) (w : World) : Calls Try.prog 27 #[.int .i64 z] w fun e w' => e = .returned (.int .i64 z) ∧ Below w.heap.size w w' := by
  go_enter Try.func27, Try.ntmps27
  go_wp2_with fail
  go_ret
  exact ⟨rfl, Below.refl _ _⟩

set_option maxRecDepth 100000 in
set_option maxHeartbeats 400000 in
theorem mine_any (m : Mw) (w : World) : Calls Try.prog 22 #[m.v] w fun e w' => e = .returned m.v ∧ Below w.heap.size w w' := by
  obtain ⟨nm, W, P, I, inn, out, X⟩ := m
  simp only [Mw.v]
  have HB : Hid (∀ o1 o2, Below w.heap.size w ((w.alloc o1).alloc o2)) := fun o1 o2 => ((Below.refl w.heap.size w).alloc (Nat.le_refl _) o1).alloc (by simp) o2
  go_enter Try.func22, Try.ntmps22
  go_wp2_with fail
  refine bodyPost_ret (v := .agg #[.string nm, .int .i64 W, .int .u64 P, .int .u64 I, .bool inn, .bool out, .int .u64 X]) (by simp [results, Try.results22, go_sem]) rfl ⟨rfl, HB.out _ _⟩
set_option maxRecDepth 100000 in
set_option maxHeartbeats 400000 in
theorem theirs_any (m : Mw) (w : World) : Calls Try.prog 23 #[m.v] w fun e w' => e = .returned m.v ∧ Below w.heap.size w w' := by
  obtain ⟨nm, W, P, I, inn, out, X⟩ := m
  simp only [Mw.v]
  have HB : Hid (∀ o1 o2, Below w.heap.size w ((w.alloc o1).alloc o2)) := fun o1 o2 => ((Below.refl w.heap.size w).alloc (Nat.le_refl _) o1).alloc (by simp) o2
  go_enter Try.func23, Try.ntmps23
  go_wp2_with fail
  refine bodyPost_ret (v := .agg #[.string nm, .int .i64 W, .int .u64 P, .int .u64 I, .bool inn, .bool out, .int .u64 X]) (by simp [results, Try.results23, go_sem]) rfl ⟨rfl, HB.out _ _⟩

set_option maxRecDepth 100000 in
set_option maxHeartbeats 400000 in
theorem sum_none (m : Mw) (hm : MwOk m) (hv : ¬ m.Valid) (sl : Value) (w : World) : Calls Try.prog 24 #[m.v, sl] w fun e w' => e = .returned (.tuple #[.int .u64 0, .int .i64 40]) ∧ Below w.heap.size w w' := by
  have HV := hidD (fun w => valid_any m hm false (by simp [hv]) w)
  clear hv hm
  obtain ⟨nm, W, P, I, inn, out, X⟩ := m
  simp only [Mw.v] at *
  have HB : Hid (∀ o, Below w.heap.size w (w.alloc o)) := fun o => (Below.refl w.heap.size w).alloc (Nat.le_refl _) o
  go_enter Try.func24, Try.ntmps24
  go_wp2_with (go_at_call 25; refine (HV.out _).mono ?_; rintro e w2 ⟨rfl, hb2⟩)
  refine bodyPost_ret (v := .tuple #[.int .u64 0, .int .i64 40]) (by simp [results, Try.results24, go_sem]) rfl ⟨rfl, ?_⟩
  exact (HB.out _).trans (hb2.mono (by simp))

theorem MdOk.raw {m : Md} (h : MdOk m) : MwOk ⟨m.name, m.w, m.P, m.I, m.inn, m.out, m.X⟩ := by
  have := pow64 h.hi
  have h1 := h.P; have h2 := h.I; have h3 := h.X; have h4 := h.lo; have h5 := h.hi
  constructor <;> simp only [] <;> omega

set_option maxRecDepth 100000 in
set_option maxHeartbeats 400000 in
theorem sum_some (m : Md) (hm : MdOk m) (bs : List UInt8) (hl : bs.length ≤ 9223372036854775807) (sl : Value) (w : World) (hs : ByAt w sl bs) : Calls Try.prog 24 #[m.v, sl] w fun e w' => e = .returned (.tuple #[.int .u64 (sumS m bs : Nat), .int .i64 0]) ∧ Below w.heap.size w w' := by
  have HV : Hid (∀ w, Calls Try.prog 25 #[m.v] w fun e w' => e = .returned (.bool true) ∧ Below w.heap.size w w') := fun w => valid_any ⟨m.name, m.w, m.P, m.I, m.inn, m.out, m.X⟩ hm.raw true (by simp [Md.valid m hm]) w
  have HS : Hid (∀ w', Below w.heap.size w w' → Calls Try.prog 50 #[m.v, sl] w' fun e w2 => e = .returned (.int .u64 (sumS m bs : Nat)) ∧ Below w'.heap.size w' w2) := fun w' hb => sumOf_any m hm bs hl sl w' (hs.below hb (Nat.le_refl _))
  have HA := hidD (MdAt.new m w 35)
  have HBa : Hid (Below w.heap.size w (w.alloc (.cells m.cells 35))) := (Below.refl w.heap.size w).alloc (Nat.le_refl _) _
  have HSZ : Hid (w.heap.size < (w.alloc (.cells m.cells 35)).heap.size) := by show _ < _; simp
  clear hm hs
  generalize sumS m bs = S at *
  obtain ⟨nm, ww, P, I, inn, out, X⟩ := m
  simp only [Md.v, Md.cells] at *
  go_enter Try.func24, Try.ntmps24
  go_wp2_with (first | (go_at_call 25; refine (HV.out _).mono ?_; rintro e w2 ⟨rfl, hb2⟩; obtain ⟨k0, k1, k2, k3, k4, k5, k6⟩ := HA.out.below hb2 HSZ.out; have HB2 := hidD (HBa.out.trans (hb2.mono (Nat.le_of_lt HSZ.out)))) | (go_at_call 50; refine (HS.out _ HB2.out).mono ?_; rintro e w3 ⟨rfl, hb3⟩))
  refine bodyPost_ret (v := .tuple #[.int .u64 S, .int .i64 0]) (by simp [results, Try.results24, go_sem]) rfl ⟨rfl, ?_⟩
  exact HB2.out.trans (hb3.mono HB2.out.size)
end Go.Proofs.Ytjhaaphgaplhlaa
