/- What tableOf and Table of the program answer. -/
import Derived.Test.YtjhaaphgaplhlaaRow
namespace Go.Proofs.Ytjhaaphgaplhlaa
open Go.RowKit
set_option linter.unusedVariables false

/-- A word of a model's table. -/
def tabS (m : Md) (b : Nat) : Nat := runB m.w m.P 0 (bitsOf m.inn b)
theorem tab_lt {m : Md} (hm : MdOk m) (b : Nat) : tabS m b < 2 ^ m.w := run_lt hm.P _ _ (Nat.two_pow_pos _)
theorem fill_none (kd : IntKind) (f g : Nat → Nat) : fillC kd f 0 = fillC kd g 0 := rfl
theorem Try.zero83 : (Try.prog.info? 83).map (fun i => (i.zero, i.size)) = some (some (.agg (fillC .u64 t32 0)), 256) := by kernel_rfl

set_option maxRecDepth 100000 in
set_option maxHeartbeats 400000 in
theorem tableOf_any (m : Md) (hm : MdOk m) (w : World) : Calls Try.prog 45 #[m.v] w fun e w' => e = .returned (.agg (fillC .u64 (tabS m) 256)) ∧ Below w.heap.size w w' := by
  have HBI : Hid (∀ (b : Nat) (hb : b < 256) (w : World), Calls Try.prog 59 #[m.v, .int .u64 0, .int .u8 (b : Int)] w fun e w' => e = .returned (.int .u64 (tabS m b : Nat)) ∧ Below w.heap.size w w') := fun b hb w => byteIn_any m hm 0 (Nat.two_pow_pos _) b hb w
  obtain ⟨hz, hsz⟩ := zero_of_info Try.zero83
  rw [fill_none .u64 t32 (tabS m)] at hz
  generalize hf : tabS m = f at *
  clear hf
  have HA := hidD (MdAt.new m w 35)
  have HB0 : Hid (Below w.heap.size w (w.alloc (.cells m.cells 35))) := (Below.refl w.heap.size w).alloc (Nat.le_refl _) _
  clear hm
  obtain ⟨nm, ww, P, I, inn, out, X⟩ := m
  simp only [Md.v, Md.cells] at *
  go_enter Try.func45, Try.ntmps45
  go_wp2_with fail
  have HW : Hid ((w.alloc (.cells #[.string nm, .int .i64 ww, .int .u64 P, .int .u64 I, .bool inn, .bool out, .int .u64 X] 35)).heap.size = w.heap.size + 1) := by show _ = _; simp
  generalize w.alloc (.cells #[.string nm, .int .i64 ww, .int .u64 P, .int .u64 I, .bool inn, .bool out, .int .u64 X] 35) = w1 at *
  obtain ⟨w2, hw2⟩ : ∃ w2, w2 = (w1.alloc (.cells (fillC .u64 f 0) (83 : TypeId))).alloc (.cells (fillC .u64 f 0) (83 : TypeId)) := ⟨_, rfl⟩
  have HS2 : Hid (w2.heap.size = w.heap.size + 3) := by show _ = _; rw [hw2]; simp; have := HW.out; omega
  have HG1 : Hid (w2.heap[w.heap.size + 1]? = some (.cells (fillC .u64 f 0) (83 : TypeId) (0, 0))) := by
    show _ = _
    rw [hw2, Below.heap_alloc _ _ _ (by simp; have := HW.out; omega), ← HW.out]; exact heap_alloc_last _ _
  have HG2 : Hid (w2.heap[w.heap.size + 1 + 1]? = some (.cells (fillC .u64 f 0) (83 : TypeId) (0, 0))) := by
    show _ = _
    have e : w.heap.size + 1 + 1 = (w1.alloc (.cells (fillC .u64 f 0) (83 : TypeId))).heap.size := by simp; have := HW.out; omega
    rw [hw2, e]; exact heap_alloc_last _ _
  have HM2 : Hid (MdAt w2 w.heap.size ⟨nm, ww, P, I, inn, out, X⟩) := by
    rw [hw2]; exact HA.out.below (((Below.refl w1.heap.size w1).alloc (Nat.le_refl _) _).alloc (by simp) _) (by have := HW.out; omega)
  have HB2 : Hid (Below w.heap.size w w2) := by rw [hw2]; exact Below.more (Below.more HB0.out _) _
  rw [← hw2]
  clear hw2 HA HB0
  go_loopw [5] (fun i wr => ∃ k : Nat, k ≤ 256 ∧ i = .int .i64 k ∧ wr.heap[w.heap.size + 1 + 1]? = some (.cells (fillC .u64 f k) (83 : TypeId) (0, 0)) ∧ wr.heap[w.heap.size + 1]? = some (.cells (fillC .u64 f 0) (83 : TypeId) (0, 0)) ∧ MdAt wr w.heap.size ⟨nm, ww, P, I, inn, out, X⟩ ∧ Below w.heap.size w wr) (fun i _ => 256 - (intOf i).toNat)
  case atStart => exact ⟨0, Nat.zero_le _, rfl, HG2.out, HG1.out, HM2.out, HB2.out⟩
  case round =>
    obtain ⟨k, hk, rfl, hg2, hg1, hmd, hbel⟩ := hrel
    have HBL := hidD hbel
    have HMD := hidD hmd
    have HL2 := hidD (row_lt hg2)
    have HL1 := hidD (row_lt hg1)
    by_cases hlt : k < 256
    · have hlti : (k : Int) < 256 := by omega
      have h2 : ∀ w', Below wr.heap.size wr w' → w'.heap[w.heap.size + 1 + 1]? = some (.cells (fillC .u64 f k) (83 : TypeId) (0, 0)) := fun w' h => by rw [h.block _ HL2.out]; exact hg2
      have HC : Hid (∀ w', Below wr.heap.size wr w' → w'.cell? ⟨w.heap.size + 1 + 1, k, none⟩ = some (.int .u64 0)) := fun w' h => by rw [cell_of_row _ _ _ _ _ _ (h2 w' h)]; exact fill_zero _ _ k hlt
      have HF : Hid (∀ w', Below wr.heap.size wr w' → w'.frozen? ⟨w.heap.size + 1 + 1, k, none⟩ = false) := fun w' h => frozen_of_row _ _ _ _ _ (h2 w' h)
      have HN2 : Hid (∀ w', Below wr.heap.size wr w' → (w'.setCell ⟨w.heap.size + 1 + 1, k, none⟩ (.int .u64 (f k : Int))).heap[w.heap.size + 1 + 1]? = some (.cells (fillC .u64 f (k + 1)) (83 : TypeId) (0, 0))) := fun w' h => by
        rw [heap_setCell_same w' _ k _ _ _ (h2 w' h), fill_set _ _ _ hlt]
      have HN1 : Hid (∀ w' u, Below wr.heap.size wr w' → (w'.setCell ⟨w.heap.size + 1 + 1, k, none⟩ u).heap[w.heap.size + 1]? = some (.cells (fillC .u64 f 0) (83 : TypeId) (0, 0))) := fun w' u h => by
        rw [heap_setCell_other _ _ _ _ (by simp), h.block _ HL1.out]; exact hg1
      have HNM : Hid (∀ w' u, Below wr.heap.size wr w' → MdAt (w'.setCell ⟨w.heap.size + 1 + 1, k, none⟩ u) w.heap.size ⟨nm, ww, P, I, inn, out, X⟩) := fun w' u h => (HMD.out.below h (by have := HL1.out; omega)).below ((Below.refl (w.heap.size + 1) _).setCell (p := ⟨w.heap.size + 1 + 1, k, none⟩) (by simp) u) (by omega)
      have HCB := hidD (fun w => HBI.out k hlt w)
      obtain ⟨k0, k1, k2, k3, k4, k5, k6⟩ := hmd
      simp only at k0 k1 k2 k3 k4 k5 k6
      clear hbel hg1 hg2 h2 HBI
      generalize f k = F at *
      go_wp2_with (go_at_call 59; refine (HCB.out _).mono ?_; rintro e w3 ⟨rfl, hb3⟩; have hc3 := HC.out _ hb3; have hf3 := HF.out _ hb3; have HB3 := hidD hb3; clear hb3)
      go_roundw
      case rel => exact ⟨k + 1, by omega, by go_num, HN2.out _ HB3.out, HN1.out _ _ HB3.out, HNM.out _ _ HB3.out, (Below.next HBL.out HB3.out).setCell (p := ⟨w.heap.size + 1 + 1, k, none⟩) (show w.heap.size ≤ w.heap.size + 1 + 1 by omega) _⟩
      case measure => simp [intOf]; omega
    · obtain rfl : k = 256 := by omega
      have h256 : (fillC .u64 f 256).size = 256 := fill_size _ _ _ (by omega)
      have h0 : (fillC .u64 f 0).size = 256 := fill_size _ _ _ (by omega)
      have HONE := hidD (fill_one .u64 f 256)
      clear HG1 HG2
      have HR2 := hidD hg2
      have HR1 := hidD hg1
      clear hg1 hg2 hmd hbel
      generalize hC : fillC .u64 f 256 = C at *
      have HC := hidD hC
      clear hC
      generalize fillC .u64 f 0 = C0 at *
      have hi : (Try.prog.info? 83).map (·.size) = some C.size := by rw [hsz, h256]
      go_wp2_with (first | (refine wpList_load_row rfl 83 _ rfl (w.heap.size + 1 + 1) rfl 83 C (0, 0) _ HR2.out Try.underlying83 rfl hi ?_) | (refine wpList_store_row rfl 83 _ _ rfl (w.heap.size + 1) C rfl rfl 83 C0 HR1.out hi (by rw [h0, h256]) HONE.out ?_))
      refine bodyPost_ret (results_cell_row (P := Try.prog) (p := 2) (ty := 83) (by kernel_rfl) _ _ (w.heap.size + 1) 83 C (0, 0) _ rfl (setRow_heap _ _ C0 C 83 (0, 0) HR1.out) Try.underlying83 rfl hi) rfl ?_
      exact ⟨by rw [HC.out], below_setRow HBL.out (by omega) _⟩

set_option maxRecDepth 100000 in
set_option maxHeartbeats 400000 in
theorem table_some (m : Md) (hm : MdOk m) (w : World) : Calls Try.prog 29 #[m.v] w fun e w' => ∃ g, e = .returned (.tuple #[.slice (some ⟨g, 0, none⟩) 256 256, .int .i64 0]) ∧ w.heap.size ≤ g ∧ w'.heap[g]? = some (.cells (fillC .u64 (tabS m) 256) (83 : TypeId) (0, 0)) ∧ Below w.heap.size w w' := by
  have HV : Hid (∀ w, Calls Try.prog 25 #[m.v] w fun e w' => e = .returned (.bool true) ∧ Below w.heap.size w w') := fun w => valid_any ⟨m.name, m.w, m.P, m.I, m.inn, m.out, m.X⟩ hm.raw true (by simp [Md.valid m hm]) w
  have HT := hidD (fun w => tableOf_any m hm w)
  obtain ⟨hz, hsz⟩ := zero_of_info Try.zero83
  rw [fill_none .u64 t32 (tabS m)] at hz
  have h0 : (fillC .u64 (tabS m) 0).size = 256 := fill_size _ _ _ (by omega)
  have h256 : (fillC .u64 (tabS m) 256).size = 256 := fill_size _ _ _ (by omega)
  have HONE := hidD (fill_one .u64 (tabS m) 256)
  have HA := hidD (MdAt.new m w 35)
  have HB0 : Hid (Below w.heap.size w (w.alloc (.cells m.cells 35))) := (Below.refl w.heap.size w).alloc (Nat.le_refl _) _
  have HSZ : Hid (w.heap.size < (w.alloc (.cells m.cells 35)).heap.size) := by show _ < _; simp
  clear hm
  generalize fillC .u64 (tabS m) 256 = C at *
  generalize fillC .u64 (tabS m) 0 = C0 at *
  have hi : (Try.prog.info? 83).map (·.size) = some C.size := by rw [hsz, h256]
  obtain ⟨nm, ww, P, I, inn, out, X⟩ := m
  simp only [Md.v, Md.cells] at *
  go_enter Try.func29, Try.ntmps29
  go_wp2_with (first
    | (go_at_call 25; refine (HV.out _).mono ?_; rintro e w1 ⟨rfl, hb1⟩; obtain ⟨k0, k1, k2, k3, k4, k5, k6⟩ := HA.out.below hb1 HSZ.out; have HB1 := hidD (Below.next HB0.out hb1); clear hb1)
    | (go_at_call 45; refine (HT.out _).mono ?_; rintro e w2 ⟨rfl, hb2⟩; have HB2 := hidD (Below.next HB1.out hb2); have HO : Hid ((w2.alloc (.cells C0 (83 : TypeId))).heap[w2.heap.size]? = some (.cells C0 (83 : TypeId) (0, 0))) := heap_alloc_last _ _)
    | (refine wpList_store_row rfl 83 _ _ rfl w2.heap.size C rfl rfl 83 C0 HO.out hi (by rw [h0, h256]) HONE.out ?_; rw [World.setRow_alloc_new]))
  refine bodyPost_ret (v := .tuple #[.slice (some ⟨w2.heap.size, 0, none⟩) 256 256, .int .i64 0]) (by simp [results, Try.results29, go_sem]) rfl ⟨w2.heap.size, rfl, HB2.out.size, heap_alloc_last _ _, Below.more HB2.out _⟩
end Go.Proofs.Ytjhaaphgaplhlaa
