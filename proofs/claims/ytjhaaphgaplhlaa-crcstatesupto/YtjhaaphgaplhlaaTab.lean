/- What table32 of the program answers. -/
import Derived.Test.YtjhaaphgaplhlaaSof
import Derived.Deep.WholeRow
import Derived.Laws.Alloc2
namespace Go.Proofs.Ytjhaaphgaplhlaa
open Go.RowKit
set_option linter.unusedVariables false

/-- A row of 256 numbers of which k are laid. -/
def fillL (kd : IntKind) (f : Nat → Nat) (k : Nat) : List Value := (List.range k).map (fun i => .int kd (f i : Int)) ++ List.replicate (256 - k) (.int kd 0)
def fillC (kd : IntKind) (f : Nat → Nat) (k : Nat) : Array Value := (fillL kd f k).toArray
theorem fill_size (kd : IntKind) (f : Nat → Nat) (k : Nat) (h : k ≤ 256) : (fillC kd f k).size = 256 := by simp [fillC, fillL]; omega
theorem fill_set (kd : IntKind) (f : Nat → Nat) (k : Nat) (h : k < 256) : (fillC kd f k).setIfInBounds k (.int kd (f k : Int)) = fillC kd f (k + 1) := by
  unfold fillC fillL
  apply Array.toList_inj.1
  rw [Array.toList_setIfInBounds]
  simp only []
  rw [show 256 - k = (256 - (k + 1)) + 1 by omega, List.replicate_succ, List.set_append_right _ _ (by simp), List.range_succ, List.map_append]
  simp
theorem fill_zero (kd : IntKind) (f : Nat → Nat) (k : Nat) (h : k < 256) : (fillC kd f k)[k]? = some (.int kd 0) := by
  unfold fillC fillL
  rw [List.getElem?_toArray, List.getElem?_append_right (by simp), List.getElem?_replicate, if_pos (by simp; omega)]
theorem fill_at (kd : IntKind) (f : Nat → Nat) (i : Nat) (h : i < 256) : (fillC kd f 256)[i]? = some (.int kd (f i : Int)) := by
  unfold fillC fillL
  rw [List.getElem?_toArray, List.getElem?_append_left (by simpa using h), List.getElem?_map, List.getElem?_range h]
  rfl
theorem fill_one (kd : IntKind) (f : Nat → Nat) (k : Nat) : (fillC kd f k).all (·.oneCell') = true := by
  rw [Array.all_eq_true_iff_forall_mem]
  intro v hv
  simp only [fillC, fillL, List.mem_toArray, List.mem_append, List.mem_map, List.mem_replicate] at hv
  rcases hv with ⟨i, _, rfl⟩ | ⟨_, rfl⟩ <;> rfl

theorem below_setRow {B g : Nat} {a w : World} (h : Below B a w) (hg : B ≤ g) (cs : Array Value) : Below B a (w.setRow g cs) :=
  h.trans ⟨by simp, by simp, by simp, by simp, fun k hk => setRow_other _ _ _ _ (by omega)⟩
/-- A word of the table of CRC-32, its bits leaving at the lower end. -/
def rotB (P : Nat) : Nat → Nat → Nat
  | 0, v => v
  | k + 1, v => (rotB P k v) / 2 ^^^ sel ((rotB P k v).testBit 0) P
def t32 (b : Nat) : Nat := rotB 3988292384 8 b
theorem rot_lt {v : Nat} (h : v < 4294967296) : ∀ k, rotB 3988292384 k v < 4294967296
  | 0 => h
  | k + 1 => by
    have := rot_lt h k
    rw [rotB]
    exact xor_lt (w := 32) (by omega) (sel_lt (w := 32) (by omega))
theorem t32_lt {b : Nat} (h : b < 256) : t32 b < 4294967296 := rot_lt (by omega) 8
theorem and1_u32 {v : Nat} (hv : v < 4294967296) : bits .and .u32 (v : Int) 1 = ((v.testBit 0).toNat : Int) := by
  have := bit_u32 0 hv
  simpa using this
theorem poly_rev : rev 79764919 32 = 3988292384 := by decide +kernel
theorem Try.zero81 : (Try.prog.info? 81).map (fun i => (i.zero, i.size)) = some (some (.agg (fillC .u32 t32 0)), 256) := by kernel_rfl

set_option maxRecDepth 100000 in
set_option maxHeartbeats 400000 in
theorem table32_any (w : World) : Calls Try.prog 44 #[] w fun e w' => e = .returned (.agg (fillC .u32 t32 256)) ∧ Below w.heap.size w w' := by
  have HRV : Hid (∀ w, Calls Try.prog 47 #[.int .u32 79764919, .int .i64 32] w fun e w' => e = .returned (.int .u32 3988292384) ∧ w' = w) := fun w => by
    have := reverse32_same 79764919 32 (by omega) (by omega) w
    rw [poly_rev] at this
    exact this
  obtain ⟨hz, hsz⟩ := zero_of_info Try.zero81
  go_enter Try.func44, Try.ntmps44
  go_wp2_with (go_at_call 47; refine (HRV.out _).mono ?_; rintro e w2 ⟨rfl, rfl⟩)
  obtain ⟨W0, hW0⟩ : ∃ W0, W0 = w.alloc (.cells (fillC .u32 t32 0) (81 : TypeId)) := ⟨_, rfl⟩
  have hW0s : W0.heap.size = w.heap.size + 1 := by rw [hW0]; simp
  have HB0 : Hid (Below w.heap.size w W0) := by rw [hW0]; exact (Below.refl _ _).alloc (Nat.le_refl _) _
  have HH0 : Hid (W0.heap[w.heap.size]? = some (.cells (fillC .u32 t32 0) (81 : TypeId) (0, 0))) := by rw [hW0]; exact heap_alloc_last _ _
  rw [← hW0, ← hW0s]
  have HW0s := hidD hW0s
  clear hW0 hW0s
  go_loopw [7] (fun i wr => ∃ k : Nat, k ≤ 256 ∧ i = .int .i64 k ∧ wr = W0.alloc (.cells (fillC .u32 t32 k) (81 : TypeId))) (fun i _ => 256 - (intOf i).toNat)
  case atStart => exact ⟨0, Nat.zero_le _, rfl, rfl⟩
  case round =>
    obtain ⟨k, hk, rfl, rfl⟩ := hrel
    by_cases hlt : k < 256
    · have hlti : (k : Int) < 256 := by omega
      have hca : (W0.alloc (.cells (fillC .u32 t32 k) (81 : TypeId))).cell? ⟨W0.heap.size, k, none⟩ = some (.int .u32 0) := by rw [World.cell?_alloc_new]; exact fill_zero _ _ k hlt
      have HST : Hid ((W0.alloc (.cells (fillC .u32 t32 k) (81 : TypeId))).setCell ⟨W0.heap.size, k, none⟩ (.int .u32 ((t32 k : Nat) : Int)) = W0.alloc (.cells (fillC .u32 t32 (k + 1)) (81 : TypeId))) := by
        rw [← fill_set .u32 t32 k hlt]
        exact World.setCell_alloc_new _ _ _ _
      generalize hC : fillC .u32 t32 k = C at *
      have HC := hidD hC
      clear hC
      go_wp2_with fail
      go_loopw [4, 12] (fun t i wr => ∃ j : Nat, j ≤ 8 ∧ i = .int .i64 j ∧ t = .int .u32 ((rotB 3988292384 j k : Nat) : Int) ∧ wr = W0.alloc (.cells C (81 : TypeId))) (fun _ i _ => 8 - (intOf i).toNat)
      case atStart => exact ⟨0, Nat.zero_le _, rfl, rfl, rfl⟩
      case round =>
        obtain ⟨j, hj, rfl, rfl, rfl⟩ := hrel
        by_cases hjlt : j < 8
        · have hjlti : (j : Int) < 8 := by omega
          have hA := rot_lt (v := k) (by omega) j
          have hb := and1_u32 hA
          have HN : Hid (rotB 3988292384 (j + 1) k = (rotB 3988292384 j k) / 2 ^^^ sel ((rotB 3988292384 j k).testBit 0) 3988292384) := rfl
          have hx : bits .xor .u32 ((rotB 3988292384 j k : Nat) / 2) 3988292384 = (((rotB 3988292384 j k) / 2 ^^^ 3988292384 : Nat) : Int) := by
            have := u32_xor_nat (rotB 3988292384 j k / 2) 3988292384 (by omega) (by omega)
            simpa using this
          generalize rotB 3988292384 j k = A at *
          cases hA0 : A.testBit 0
          all_goals
            rw [hA0] at hb HN
            clear hA0
            simp only [Bool.toNat_false, Bool.toNat_true] at hb
            go_wp2_with fail
            go_roundw
            case rel => exact ⟨j + 1, by omega, by go_num, by rw [HN.out]; simp [sel], trivial⟩
            case measure => simp [intOf]; omega
        · obtain rfl : j = 8 := by omega
          rw [show rotB 3988292384 8 k = t32 k from rfl]
          generalize t32 k = T at *
          clear hj
          go_wp2_with fail
          go_roundw
          case rel => exact ⟨k + 1, by omega, by go_num, HST.out⟩
          case measure => simp [intOf]; omega
    · obtain rfl : k = 256 := by omega
      have h256 : (fillC .u32 t32 256).size = 256 := fill_size _ _ _ (by omega)
      have h0 : (fillC .u32 t32 0).size = 256 := fill_size _ _ _ (by omega)
      have HONE := hidD (fill_one .u32 t32 256)
      generalize hC : fillC .u32 t32 256 = C at *
      have HC := hidD hC
      clear hC
      generalize fillC .u32 t32 0 = C0 at *
      have hi : (Try.prog.info? 81).map (·.size) = some C.size := by rw [hsz, h256]
      have HL : Hid ((W0.alloc (.cells C (81 : TypeId))).heap[W0.heap.size]? = some (.cells C (81 : TypeId) (0, 0))) := heap_alloc_last _ _
      have HO : Hid ((W0.alloc (.cells C (81 : TypeId))).heap[w.heap.size]? = some (.cells C0 (81 : TypeId) (0, 0))) := by
        show _ = _
        rw [Below.heap_alloc _ _ _ (by have := HW0s.out; omega)]; exact HH0.out
      go_wp2_with (first | (refine wpList_load_row rfl 81 _ rfl W0.heap.size rfl 81 C (0, 0) _ HL.out Try.underlying81 rfl hi ?_) | (refine wpList_store_row rfl 81 _ _ rfl w.heap.size C rfl rfl 81 C0 HO.out hi (by rw [h0, h256]) HONE.out ?_))
      have hne : ¬ w.heap.size = W0.heap.size := by have := HW0s.out; omega
      refine bodyPost_ret (results_cell_row (P := Try.prog) (p := 0) (ty := 81) (by kernel_rfl) _ _ w.heap.size 81 C (0, 0) _ rfl (setRow_heap _ _ C0 C 81 (0, 0) HO.out) Try.underlying81 rfl hi) rfl ?_
      exact ⟨by rw [HC.out], below_setRow ((HB0.out).alloc (Nat.le_of_lt (by have := HW0s.out; omega)) _) (Nat.le_refl _) _⟩
end Go.Proofs.Ytjhaaphgaplhlaa
