/- What fieldOf and New of the program answer, and how a field lies in memory. -/
import Derived.Test.YtdpkeffkpecmjaaRfc
import Derived.Test.YtdpkeffkpecmjaaQuietB
import Derived.Deep.WholeRow
import Derived.Laws.Alloc2
namespace Go.Proofs.Ytdpkeffkpecmjaa
open Go.RowKit
set_option linter.unusedVariables false

/-- A row of n numbers. -/
def rowF (kd : IntKind) (n : Nat) (f : Nat → Nat) : Array Value := ((List.range n).map fun i => Value.int kd (f i : Int)).toArray
theorem rowF_size (kd : IntKind) (n : Nat) (f : Nat → Nat) : (rowF kd n f).size = n := by simp [rowF]
theorem rowF_get (kd : IntKind) (n : Nat) (f : Nat → Nat) (i : Nat) (h : i < n) : (rowF kd n f)[i]? = some (.int kd (f i : Int)) := by
  unfold rowF
  rw [List.getElem?_toArray, List.getElem?_map, List.getElem?_range h]; rfl
theorem rowF_set (kd : IntKind) (n : Nat) (f : Nat → Nat) (j v : Nat) (h : j < n) : (rowF kd n f).setIfInBounds j (.int kd (v : Int)) = rowF kd n (fun i => if i = j then v else f i) := by
  apply Array.ext_getElem?
  intro i
  rw [Array.getElem?_setIfInBounds]
  by_cases hi : i < n
  · rw [rowF_size]
    by_cases he : j = i
    · subst he; rw [if_pos rfl, if_pos h, rowF_get kd n _ j h, if_pos rfl]
    · rw [if_neg he, rowF_get kd n f i hi, rowF_get kd n _ i hi, if_neg (fun h => he h.symm)]
  · have h1 : ∀ f, (rowF kd n f)[i]? = none := fun f => Array.getElem?_eq_none (by rw [rowF_size]; omega)
    rw [if_neg (by omega), h1, h1]
theorem rowF_one (kd : IntKind) (n : Nat) (f : Nat → Nat) : (rowF kd n f).all (·.oneCell') = true := by
  rw [Array.all_eq_true_iff_forall_mem]
  intro v hv
  simp only [rowF, List.mem_toArray, List.mem_map] at hv
  obtain ⟨i, _, rfl⟩ := hv; rfl
/-- What a field's cells hold, k powers being put in: the powers, then the logarithms. -/
def fldF (P g : UInt8) (k i : Nat) : Nat := if i < 255 then (if i < k then (pw P g i).toNat else 0) else lgTo P g k (i - 255)
def fldC (P g : UInt8) (k : Nat) : Array Value := rowF .u8 511 (fldF P g k)
theorem fld_zero (P g : UInt8) : fldC P g 0 = rowF .u8 511 (fun _ => 0) := by
  unfold fldC
  congr 1
  funext i
  unfold fldF lgTo
  split <;> simp
theorem fld_step (P g : UInt8) (k : Nat) (hk : k < 255) : ((fldC P g k).setIfInBounds k (.int .u8 ((pw P g k).toNat : Int))).setIfInBounds (255 + (pw P g k).toNat) (.int .u8 (k : Int)) = fldC P g (k + 1) := by
  have hp := u8_lt (pw P g k)
  unfold fldC
  rw [rowF_set .u8 511 _ k _ (by omega), rowF_set .u8 511 _ _ k (by omega)]
  congr 1
  funext i
  unfold fldF
  by_cases h1 : i = 255 + (pw P g k).toNat
  · subst h1
    rw [if_pos rfl, if_neg (by omega), show 255 + (pw P g k).toNat - 255 = (pw P g k).toNat by omega, lgTo, if_pos rfl]
  · rw [if_neg h1]
    by_cases h2 : i < 255
    · rw [if_pos h2, if_pos h2]
      by_cases h3 : i = k
      · subst h3; rw [if_pos rfl, if_pos (by omega)]
      · rw [if_neg h3]
        by_cases h4 : i < k
        · rw [if_pos h4, if_pos (by omega)]
        · rw [if_neg h4, if_neg (by omega)]
    · rw [if_neg h2, if_neg (by omega), if_neg h2, lgTo, if_neg (by omega)]
theorem Try.zero94 : (Try.prog.info? 94).map (fun i => (i.zero, i.size)) = some (some (.agg (rowF .u8 511 (fun _ => 0))), 511) := by kernel_rfl
theorem below_setRow {B g : Nat} {a w : World} (h : Below B a w) (hg : B ≤ g) (cs : Array Value) : Below B a (w.setRow g cs) :=
  h.trans ⟨by simp, by simp, by simp, by simp, fun k hk => setRow_other _ _ _ _ (by omega)⟩

set_option maxRecDepth 100000 in
set_option maxHeartbeats 400000 in
theorem fieldOf_any (P g : UInt8) (Q : Int) (hQ : Q = 256 + (P.toNat : Int)) (w : World) : Calls Try.prog 69 #[.int .i64 Q, .int .u8 (g.toNat : Int)] w fun e w' => e = .returned (.agg (fldC P g 255)) ∧ Below w.heap.size w w' := by
  have HC : Hid (∀ k w, Calls Try.prog 81 #[.int .u8 ((pw P g k).toNat : Int), .int .u8 (g.toNat : Int), .int .i64 Q] w fun e w' => e = .returned (.int .u8 ((pw P g (k + 1)).toNat : Int)) ∧ w' = w) := fun k w => carry_in P (pw P g k) g Q hQ w
  have HST := hidD (fun k h => fld_step P g k h)
  obtain ⟨hz, hsz⟩ := zero_of_info Try.zero94
  rw [← fld_zero P g] at hz
  clear hQ
  go_enter Try.func69, Try.ntmps69
  go_wp2_with fail
  obtain ⟨W0, hW0⟩ : ∃ W0, W0 = w.alloc (.cells (fldC P g 0) (94 : TypeId)) := ⟨_, rfl⟩
  have hW0s : W0.heap.size = w.heap.size + 1 := by rw [hW0]; simp
  have HB0 : Hid (Below w.heap.size w W0) := by rw [hW0]; exact (Below.refl _ _).alloc (Nat.le_refl _) _
  have HH0 : Hid (W0.heap[w.heap.size]? = some (.cells (fldC P g 0) (94 : TypeId) (0, 0))) := by rw [hW0]; exact heap_alloc_last _ _
  rw [← hW0, ← hW0s]
  have HW0s := hidD hW0s
  clear hW0 hW0s
  go_loopw [6, 8] (fun x i wr => ∃ k : Nat, k ≤ 255 ∧ i = .int .i64 k ∧ x = .int .u8 ((pw P g k).toNat : Int) ∧ wr = W0.alloc (.cells (fldC P g k) (94 : TypeId))) (fun _ i _ => 255 - (intOf i).toNat)
  case atStart => exact ⟨0, Nat.zero_le _, rfl, rfl, rfl⟩
  case round =>
    obtain ⟨k, hk, rfl, rfl, rfl⟩ := hrel
    by_cases hlt : k < 255
    · have hlti : (k : Int) < 255 := by omega
      have HS := hidD (HST.out k hlt)
      have HCk := hidD (HC.out k)
      have hp := u8_lt (pw P g k)
      have hz1 : (fldC P g k).size = 511 := rowF_size _ _ _
      obtain ⟨v1, hv1⟩ : ∃ v, (W0.alloc (.cells (fldC P g k) (94 : TypeId))).cell? ⟨W0.heap.size, k, none⟩ = some v := ⟨_, by rw [World.cell?_alloc_new]; exact rowF_get _ _ _ k (by omega)⟩
      obtain ⟨v2, hv2⟩ : ∃ v, ((W0.alloc (.cells (fldC P g k) (94 : TypeId))).setCell ⟨W0.heap.size, k, none⟩ (.int .u8 ((pw P g k).toNat : Int))).cell? ⟨W0.heap.size, 255 + (pw P g k).toNat, none⟩ = some v := by
        rw [World.setCell_alloc_new, World.cell?_alloc_new]
        unfold fldC
        rw [rowF_set .u8 511 _ k _ (by omega)]
        exact ⟨_, rowF_get _ _ _ _ (by omega)⟩
      have HSC : Hid (∀ v : Value, (((W0.alloc (.cells (fldC P g k) (94 : TypeId))).setCell ⟨W0.heap.size, k, none⟩ (.int .u8 ((pw P g k).toNat : Int))).setCell ⟨W0.heap.size, 255 + (pw P g k).toNat, none⟩ v) = W0.alloc (.cells (((fldC P g k).setIfInBounds k (.int .u8 ((pw P g k).toNat : Int))).setIfInBounds (255 + (pw P g k).toNat) v) (94 : TypeId))) := fun v => by
        rw [World.setCell_alloc_new, World.setCell_alloc_new]
      generalize hx : (pw P g (k + 1)).toNat = X at *
      have HX := hidD hx
      generalize (pw P g k).toNat = x at *
      generalize hC : fldC P g k = C at *
      have HCC := hidD hC
      clear hC hx
      go_wp2_with (go_at_call 81; refine (HCk.out _).mono ?_; rintro e w3 ⟨rfl, hb3⟩)
      go_roundw
      case rel => exact ⟨k + 1, by omega, by go_num, by rw [HX.out], by rw [HSC.out, HS.out]⟩
      case measure => simp [intOf]; omega
    · obtain rfl : k = 255 := by omega
      have h256 : (fldC P g 255).size = 511 := rowF_size _ _ _
      have h0 : (fldC P g 0).size = 511 := rowF_size _ _ _
      have HONE := hidD (rowF_one .u8 511 (fldF P g 255))
      have HC : Hid (fldC P g 255 = rowF .u8 511 (fldF P g 255)) := rfl
      rw [← HC.out] at HONE
      generalize hC : fldC P g 255 = C at *
      generalize fldC P g 0 = C0 at *
      generalize ((pw P g 255).toNat : Int) = X at *
      have hi : (Try.prog.info? 94).map (·.size) = some C.size := by rw [hsz, h256]
      have HL : Hid ((W0.alloc (.cells C (94 : TypeId))).heap[W0.heap.size]? = some (.cells C (94 : TypeId) (0, 0))) := heap_alloc_last _ _
      have HO : Hid ((W0.alloc (.cells C (94 : TypeId))).heap[w.heap.size]? = some (.cells C0 (94 : TypeId) (0, 0))) := by
        show _ = _
        rw [Below.heap_alloc _ _ _ (by have := HW0s.out; omega)]; exact HH0.out
      go_wp2_with (first | (refine wpList_load_row rfl 94 _ rfl W0.heap.size rfl 94 C (0, 0) _ HL.out Try.underlying94 rfl hi ?_) | (refine wpList_store_row rfl 94 _ _ rfl w.heap.size C rfl rfl 94 C0 HO.out hi (by rw [h0, h256]) HONE.out ?_))
      have hne : ¬ w.heap.size = W0.heap.size := by have := HW0s.out; omega
      refine bodyPost_ret (results_cell_row (P := Try.prog) (p := 4) (ty := 94) (by kernel_rfl) _ _ w.heap.size 94 C (0, 0) _ rfl (setRow_heap _ _ C0 C 94 (0, 0) HO.out) Try.underlying94 rfl hi) rfl ?_
      exact ⟨by rw [hC], below_setRow ((HB0.out).alloc (Nat.le_of_lt (by have := HW0s.out; omega)) _) (Nat.le_refl _) _⟩
end Go.Proofs.Ytdpkeffkpecmjaa
