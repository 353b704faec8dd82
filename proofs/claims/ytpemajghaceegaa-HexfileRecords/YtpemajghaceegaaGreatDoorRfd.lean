/- What the document's Record answers. -/
import Derived.Test.YtpemajghaceegaaGreatDoorRfc
import Derived.Test.YtpemajghaceegaaGreatDoorRfb
import Derived.Test.YtpemajghaceegaaGreatDoorHxr
namespace Go.Proofs.YtpemajghaceegaaGreatDoor
open Go.RowKit
set_option linter.unusedVariables false

variable {d : List UInt8}
theorem byte_cell (n : Nat) (h : n < 256) : Value.int .u8 (n : Int) = encB (UInt8.ofNat n) := by
  have := of_nat n
  simp only [encB, this]
  rw [show n % 256 = n by omega]
theorem high_cell (n : Nat) (h : n < 65536) : Value.int .u8 ((n : Int) / 256) = encB (hiB n) := by
  have := hiB_nat n
  simp only [encB, this]
  congr 1
  omega
theorem low_cell (n : Nat) : Value.int .u8 ((n : Int) % 256) = encB (loB n) := by
  have := loB_nat n
  simp only [encB, this]
  congr 1
theorem four_cells (N A K : Nat) (hN : N < 256) (hA : A < 65536) (hK : K < 256) : (#[.int .u8 (N : Int), .int .u8 ((A : Int) / 256), .int .u8 ((A : Int) % 256), .int .u8 (K : Int)] : Array Value) = ([UInt8.ofNat N, hiB A, loB A, UInt8.ofNat K].map encB).toArray := by
  rw [byte_cell N hN, byte_cell K hK, high_cell A hA, low_cell]; rfl
theorem three_cells3 (N A : Nat) (hN : N + 3 < 256) (hA : A < 65536) : (#[.int .u8 ((N : Int) + 3), .int .u8 ((A : Int) / 256), .int .u8 ((A : Int) % 256)] : Array Value) = ([UInt8.ofNat (N + 3), hiB A, loB A].map encB).toArray := by
  rw [show (N : Int) + 3 = ((N + 3 : Nat) : Int) by omega, byte_cell (N + 3) hN, high_cell A hA, low_cell]; rfl
theorem three_cells (N A : Nat) (hN : N < 256) (hA : A < 65536) : (#[.int .u8 (N : Int), .int .u8 ((A : Int) / 256), .int .u8 ((A : Int) % 256)] : Array Value) = ([UInt8.ofNat N, hiB A, loB A].map encB).toArray := by
  rw [byte_cell N hN, high_cell A hA, low_cell]; rfl
theorem two_box {w : World} {r : Nat} {x y : Value} (h : w.heap[r]? = some (.cells #[x, y] (5 : TypeId))) : w.cell? ⟨r, 0, none⟩ = some x ∧ w.cell? ⟨r, 1, none⟩ = some y := by
  constructor <;> · simp only [World.cell?, h]; rfl
def tenT : ByteArray := ⟨#[48, 49, 50, 51, 52, 53, 54, 55, 56, 57]⟩
theorem ten_one : ∀ n : Nat, n < 10 → tenT.extract n (n + 1) = bA [48 + UInt8.ofNat n] := by decide +kernel
set_option maxRecDepth 100000 in
set_option maxHeartbeats 3200000 in
theorem refRecordIntel_any (K A : Nat) (hm : mayS 1 K A d = true) (v : Value) (w : World) (h : ByAt w v d) :
    Calls Tryz.prog 17 #[.int .i64 1, .int .i64 (K : Int), .int .i64 (A : Int), v] w fun e w' => e = .returned (.tuple #[.string (bA (recS 1 K A d)), .int .i64 0]) ∧ Below w.heap.size w w' := by
  obtain ⟨F', K', A', e1, e2, e3, hf, hA, hd2, g1, g2, g3⟩ := may_num hm
  obtain rfl : F' = 1 := by omega
  obtain rfl : K = K' := by omega
  obtain rfl : A = A' := by omega
  have HMY := hidD (refMay_any 1 K A v d (by omega) w h)
  rw [hm] at HMY
  have HBY := hidD h
  obtain ⟨va, vc, rfl⟩ := h.len
  have hd3 : d.length ≤ 255 := by omega
  have hK : K < 10 := by have := g1 rfl; omega
  clear h hm e1 e2 e3 hf g1 g2 g3 hd2
  have HX1 := hidD (show intB K A d = ([UInt8.ofNat d.length, hiB A, loB A, UInt8.ofNat K] ++ d) ++ [UInt8.ofNat (256 - totS ([UInt8.ofNat d.length, hiB A, loB A, UInt8.ofNat K] ++ d) % 256)] from rfl)
  obtain ⟨N, HN⟩ : ∃ N, Hid (d.length = N) := ⟨_, rfl⟩
  rw [HN.out] at HBY hd3 HMY HX1 ⊢
  have HCE := hidD (four_cells N A K (by omega) hA (by omega))
  obtain ⟨C, HC⟩ : ∃ C, Hid ([UInt8.ofNat N, hiB A, loB A, UInt8.ofNat K] = C) := ⟨_, rfl⟩
  rw [HC.out] at HCE HX1
  have HCL : Hid (C.length = 4) := by show _ = _; rw [← HC.out]; rfl
  obtain ⟨T, HT⟩ : ∃ T, Hid (totS (C ++ d) = T) := ⟨_, rfl⟩
  have hT : T ≤ 1000000 := by
    have := tot_le (C ++ d)
    rw [HT.out, List.length_append, HCL.out, HN.out] at this
    omega
  rw [HT.out] at HX1
  have HT2 : Hid (-(T : Int) % 256 = ((UInt8.ofNat (256 - T % 256)).toNat : Int)) := by show _ = _; rw [of_nat]; omega
  have HTT : Hid (∀ (v : Value) (l : List UInt8) (hl : l.length ≤ 1048576) (w : World) (h : ByAt w v l), Calls Tryz.prog 41 #[v] w fun e w' => e = .returned (.int .i64 (totS l : Int)) ∧ w' = w) := fun v l hl w h => refTotal_any v l (by omega) w h
  have HID : Hid (∀ (v : Value) (l : List UInt8) (hl : l.length ≤ 1048576) (w : World) (h : ByAt w v l), Calls Tryz.prog 40 #[v] w fun e w' => e = .returned (.string (bA (hexS l))) ∧ Below w.heap.size w w') := fun v l hl w h => refHex_any v l hl w h
  have hbs : ((bA (hexS (intB K A d))).size : Int) ≤ 3000 := by rw [ba_size, hex_len, int_len, HN.out]; omega
  have HBX := hidD (heap_alloc_last w (.cells #[.int .u8 ((A : Int) / 256), .int .u8 ((A : Int) % 256)] (5 : TypeId)))
  have HB1 := hidD ((Below.refl w.heap.size w).alloc (Nat.le_refl _) (.cells #[.int .u8 ((A : Int) / 256), .int .u8 ((A : Int) % 256)] (5 : TypeId)))
  go_enter Tryz.func17, Tryz.ntmps17
  go_wp2_with (go_at_call 39
               refine HMY.out.mono ?_
               rintro e w2 ⟨rfl, hw2⟩
               subst w2
               clear HMY)
  change Code.wp _ _ _ _ (w.alloc (.cells #[.int .u8 ((A : Int) / 256), .int .u8 ((A : Int) % 256)] (5 : TypeId)))
  have HBY1 := hidD (HBY.out.next HB1.out)
  generalize w.alloc (.cells #[.int .u8 ((A : Int) / 256), .int .u8 ((A : Int) % 256)] (5 : TypeId)) = W1 at *
  obtain ⟨r, HR⟩ : ∃ r, Hid (w.heap.size = r) := ⟨_, rfl⟩
  rw [HR.out] at HBX ⊢
  obtain ⟨k0, k1⟩ := two_box HBX.out
  have hrl : r < W1.heap.size := row_lt HBX.out
  have HKK : Hid (∀ w', Below W1.heap.size W1 w' → ∃ i : KB W1 [r], w' = i.v) := fun w' hb => ⟨⟨w', fun y hy => by rw [List.mem_singleton] at hy; subst hy; exact hb.block _ hrl⟩, rfl⟩
  have f0 : ∀ i : KB W1 [r], i.v.cell? ⟨r, 0, none⟩ = some (.int .u8 ((A : Int) / 256)) := fun i => (i.cell (b := r) (by simp) _).trans k0
  have f1 : ∀ i : KB W1 [r], i.v.cell? ⟨r, 1, none⟩ = some (.int .u8 ((A : Int) % 256)) := fun i => (i.cell (b := r) (by simp) _).trans k1
  have HAL : Hid (∀ (w : World) o, Below w.heap.size w (w.alloc o)) := fun w o => (Below.refl _ _).alloc (Nat.le_refl _) o
  have HD0 : Hid (Below W1.heap.size W1 W1.drew) := below_drewN (Below.refl _ _) 1
  clear k0 k1 hrl
  refine wp_region_seg [0, 0, 0, 0, 0, 0, 0, 0, 0, 1, 0, 99, 99] 1 11 [r] (by kernel_rfl) (by kernel_rfl) (by kernel_rfl) (by kernel_rfl) (by kernel_rfl) (by kernel_rfl) (by kernel_rfl) (by kernel_rfl) (fun _ _ _ _ _ h => h) ?_
  simp only [SegW, pk, Nat.reduceMul, Nat.reduceAdd, Nat.reduceBEq, cond_true, cond_false]
  repeat (go_big_quiet_step (fail))
  refine wpQuiet_nil ?_
  go_wp2_with fail
  rw [HCE.out]
  have HO2 : Hid ((W1.alloc (.cells (C.map encB).toArray (5 : TypeId))).drew.ownsRow W1.heap.size 5 1 (.slice (some ⟨W1.heap.size, 0, none⟩) 4 4) 4 (C.map encB)) := full_row (Nat.le_refl _) (by rw [List.length_map, HCL.out]) (by decide) (heap_alloc_last _ _)
  have HB2 : Hid (Below W1.heap.size W1 (W1.alloc (.cells (C.map encB).toArray (5 : TypeId))).drew) := below_drewN (HAL.out W1 _) 1
  generalize (W1.alloc (.cells (C.map encB).toArray (5 : TypeId))).drew = w2 at *
  refine ⟨HKK.out _ HB2.out, ?_⟩
  repeat (go_big_quiet_step (fail))
  refine wpQuiet_nil ?_
  go_wp2_with first
    | (go_at_call 40
       refine (HID.out v6 (intB K A d) HLZ.out w6 (by_of_own HO6.out)).mono ?_
       rintro e w7 ⟨rfl, hb⟩
       have HB7 := hidD (Below.next HB6.out hb)
       clear hb HID)
    | (at_builtin
       have hgo := HO5.out
       refine wpList_append_by rfl _ _ rfl W1.heap.size (.slice a5 n5 c5) n5 ((C ++ d).map encB) rfl (row_below HO5.out (HAL.out _ _)) (.slice (some ⟨w5.heap.size, 0, none⟩) 1 1) [UInt8.ofNat (256 - T % 256)] rfl (by_val w5 _ _ HT2.out) (by have := HN5.out; simp; omega) (by have := HB5.out.size; simp; omega) ?_
       intro v6 w6 hown6 hg6
       have HO6 : Hid (w6.ownsRow W1.heap.size 5 1 v6 (intB K A d).length ((intB K A d).map encB)) := by rw [HLY.out, HX1.out, List.map_append]; exact hown6
       have HB6 : Hid (Below W1.heap.size W1 w6) := row_grown (row_below HO5.out (HAL.out _ _)) (Below.next HB5.out (HAL.out _ _)) hg6 (by have := HB5.out.size; simp; omega)
       clear hgo hown6 hg6 HO5)
    | (go_at_call 41
       have hgo := HO5.out
       refine (HTT.out (.slice a5 n5 c5) (C ++ d) HL5.out _ HY5.out).mono ?_
       rintro e wt ⟨rfl, hwt⟩
       subst wt
       rw [HT.out]
       clear hgo HTT)
    | (at_builtin
       have hgo := HO2.out
       refine wpList_append_by rfl _ _ rfl W1.heap.size (.slice (some ⟨W1.heap.size, 0, none⟩) 4 4) 4 (C.map encB) rfl HO2.out (.slice va N vc) d rfl (HBY1.out.next HB2.out) (by rw [HN.out]; omega) HB2.out.size ?_
       intro v5 w5 hown5 hg5
       rw [← List.map_append] at hown5
       obtain ⟨n5, hn5⟩ : ∃ n5, 4 + d.length = n5 := ⟨_, rfl⟩
       rw [hn5] at hown5
       have HN5 : Hid (n5 = N + 4) := by have := HN.out; show _ = _; omega
       have HO5 := hidD hown5
       have HY5 : Hid (ByAt w5 v5 (C ++ d)) := by
         have hl : (C ++ d).length = n5 := by rw [← hn5, List.length_append, HCL.out]
         exact by_of_own (by rw [hl]; exact hown5)
       have HB5 : Hid (Below W1.heap.size W1 w5) := row_grown HO2.out HB2.out hg5 HB2.out.size
       have HLY : Hid ((intB K A d).length = n5 + 1) := by show _ = _; rw [int_len, ← hn5]; omega
       have HLZ : Hid ((intB K A d).length ≤ 1048576) := by show _ ≤ _; rw [int_len, HN.out]; omega
       have HL5 : Hid ((C ++ d).length ≤ 1048576) := by show _ ≤ _; rw [List.length_append, HCL.out, HN.out]; omega
       obtain ⟨a5, c5, rfl⟩ := row_shape hown5
       clear hgo hn5 hown5 hg5 HO2)
  go_ret2
  refine ⟨congrArg (fun z => Ending.returned (.tuple #[.string z, .int .i64 0])) ?_, (HB1.out.trans (HB7.out.mono HB1.out.size))⟩
  show bA [58] ++ bA (hexS (intB K A d)) = bA (recS 1 K A d)
  rw [ba_cat]
  rfl
set_option maxRecDepth 100000 in
set_option maxHeartbeats 3200000 in
theorem refRecordMotorola_any (K A : Nat) (hm : mayS 2 K A d = true) (v : Value) (w : World) (h : ByAt w v d) :
    Calls Tryz.prog 17 #[.int .i64 2, .int .i64 (K : Int), .int .i64 (A : Int), v] w fun e w' => e = .returned (.tuple #[.string (bA (recS 2 K A d)), .int .i64 0]) ∧ Below w.heap.size w w' := by
  obtain ⟨F', K', A', e1, e2, e3, hf, hA, hd2, g1, g2, g3⟩ := may_num hm
  obtain rfl : F' = 2 := by omega
  obtain rfl : K = K' := by omega
  obtain rfl : A = A' := by omega
  have HMY := hidD (refMay_any 2 K A v d (by omega) w h)
  rw [hm] at HMY
  have HBY := hidD h
  obtain ⟨va, vc, rfl⟩ := h.len
  have hd3 : d.length ≤ 252 := by exact Nat.le_of_lt_succ (g2 rfl).2
  have hK : K < 10 := by have := (g2 rfl).1; omega
  clear h hm e1 e2 e3 hf g1 g2 g3 hd2
  have HX1 := hidD (show motB A d = ([UInt8.ofNat (d.length + 3), hiB A, loB A] ++ d) ++ [UInt8.ofNat (255 - totS ([UInt8.ofNat (d.length + 3), hiB A, loB A] ++ d) % 256)] from rfl)
  obtain ⟨N, HN⟩ : ∃ N, Hid (d.length = N) := ⟨_, rfl⟩
  rw [HN.out] at HBY hd3 HMY HX1 ⊢
  have HCE := hidD (three_cells3 N A (by omega) hA)
  obtain ⟨C, HC⟩ : ∃ C, Hid ([UInt8.ofNat (N + 3), hiB A, loB A] = C) := ⟨_, rfl⟩
  rw [HC.out] at HCE HX1
  have HCL : Hid (C.length = 3) := by show _ = _; rw [← HC.out]; rfl
  obtain ⟨T, HT⟩ : ∃ T, Hid (totS (C ++ d) = T) := ⟨_, rfl⟩
  have hT : T ≤ 1000000 := by
    have := tot_le (C ++ d)
    rw [HT.out, List.length_append, HCL.out, HN.out] at this
    omega
  rw [HT.out] at HX1
  have HT2 : Hid ((255 - (T : Int)) % 256 = ((UInt8.ofNat (255 - T % 256)).toNat : Int)) := by show _ = _; rw [of_nat]; omega
  have HDG := hidD (ten_one K hK)
  have HTT : Hid (∀ (v : Value) (l : List UInt8) (hl : l.length ≤ 1048576) (w : World) (h : ByAt w v l), Calls Tryz.prog 41 #[v] w fun e w' => e = .returned (.int .i64 (totS l : Int)) ∧ w' = w) := fun v l hl w h => refTotal_any v l (by omega) w h
  have HID : Hid (∀ (v : Value) (l : List UInt8) (hl : l.length ≤ 1048576) (w : World) (h : ByAt w v l), Calls Tryz.prog 40 #[v] w fun e w' => e = .returned (.string (bA (hexS l))) ∧ Below w.heap.size w w') := fun v l hl w h => refHex_any v l hl w h
  have hbs : ((bA (hexS (motB A d))).size : Int) ≤ 3000 := by rw [ba_size, hex_len, mot_len, HN.out]; omega
  have HBX := hidD (heap_alloc_last w (.cells #[.int .u8 ((A : Int) / 256), .int .u8 ((A : Int) % 256)] (5 : TypeId)))
  have HB1 := hidD ((Below.refl w.heap.size w).alloc (Nat.le_refl _) (.cells #[.int .u8 ((A : Int) / 256), .int .u8 ((A : Int) % 256)] (5 : TypeId)))
  go_enter Tryz.func17, Tryz.ntmps17
  go_wp2_with (go_at_call 39
               refine HMY.out.mono ?_
               rintro e w2 ⟨rfl, hw2⟩
               subst w2
               clear HMY)
  change Code.wp _ _ _ _ (w.alloc (.cells #[.int .u8 ((A : Int) / 256), .int .u8 ((A : Int) % 256)] (5 : TypeId)))
  have HBY1 := hidD (HBY.out.next HB1.out)
  generalize w.alloc (.cells #[.int .u8 ((A : Int) / 256), .int .u8 ((A : Int) % 256)] (5 : TypeId)) = W1 at *
  obtain ⟨r, HR⟩ : ∃ r, Hid (w.heap.size = r) := ⟨_, rfl⟩
  rw [HR.out] at HBX ⊢
  obtain ⟨k0, k1⟩ := two_box HBX.out
  have hrl : r < W1.heap.size := row_lt HBX.out
  have HKK : Hid (∀ w', Below W1.heap.size W1 w' → ∃ i : KB W1 [r], w' = i.v) := fun w' hb => ⟨⟨w', fun y hy => by rw [List.mem_singleton] at hy; subst hy; exact hb.block _ hrl⟩, rfl⟩
  have f0 : ∀ i : KB W1 [r], i.v.cell? ⟨r, 0, none⟩ = some (.int .u8 ((A : Int) / 256)) := fun i => (i.cell (b := r) (by simp) _).trans k0
  have f1 : ∀ i : KB W1 [r], i.v.cell? ⟨r, 1, none⟩ = some (.int .u8 ((A : Int) % 256)) := fun i => (i.cell (b := r) (by simp) _).trans k1
  have HAL : Hid (∀ (w : World) o, Below w.heap.size w (w.alloc o)) := fun w o => (Below.refl _ _).alloc (Nat.le_refl _) o
  have HD0 : Hid (Below W1.heap.size W1 W1.drew) := below_drewN (Below.refl _ _) 1
  clear k0 k1 hrl
  refine wp_region_seg [0, 0, 0, 0, 0, 0, 0, 0, 1, 0, 99, 99] 1 10 [r] (by kernel_rfl) (by kernel_rfl) (by kernel_rfl) (by kernel_rfl) (by kernel_rfl) (by kernel_rfl) (by kernel_rfl) (by kernel_rfl) (fun _ _ _ _ _ h => h) ?_
  simp only [SegW, pk, Nat.reduceMul, Nat.reduceAdd, Nat.reduceBEq, cond_true, cond_false]
  repeat (go_big_quiet_step (fail))
  refine wpQuiet_nil ?_
  go_wp2_with fail
  rw [HCE.out]
  have HO2 : Hid ((W1.alloc (.cells (C.map encB).toArray (5 : TypeId))).drew.ownsRow W1.heap.size 5 1 (.slice (some ⟨W1.heap.size, 0, none⟩) 3 3) 3 (C.map encB)) := full_row (Nat.le_refl _) (by rw [List.length_map, HCL.out]) (by decide) (heap_alloc_last _ _)
  have HB2 : Hid (Below W1.heap.size W1 (W1.alloc (.cells (C.map encB).toArray (5 : TypeId))).drew) := below_drewN (HAL.out W1 _) 1
  generalize (W1.alloc (.cells (C.map encB).toArray (5 : TypeId))).drew = w2 at *
  refine ⟨HKK.out _ HB2.out, ?_⟩
  repeat (go_big_quiet_step (fail))
  refine wpQuiet_nil ?_
  go_wp2_with first
    | (at_builtin
       have hgo := HO2.out
       refine wpList_append_by rfl _ _ rfl W1.heap.size (.slice (some ⟨W1.heap.size, 0, none⟩) 3 3) 3 (C.map encB) rfl HO2.out (.slice va N vc) d rfl (HBY1.out.next HB2.out) (by rw [HN.out]; omega) HB2.out.size ?_
       intro v5 w5 hown5 hg5
       rw [← List.map_append] at hown5
       obtain ⟨n5, hn5⟩ : ∃ n5, 3 + d.length = n5 := ⟨_, rfl⟩
       rw [hn5] at hown5
       have HN5 : Hid (n5 = N + 3) := by have := HN.out; show _ = _; omega
       have HO5 := hidD hown5
       have HY5 : Hid (ByAt w5 v5 (C ++ d)) := by
         have hl : (C ++ d).length = n5 := by rw [← hn5, List.length_append, HCL.out]
         exact by_of_own (by rw [hl]; exact hown5)
       have HB5 : Hid (Below W1.heap.size W1 w5) := row_grown HO2.out HB2.out hg5 HB2.out.size
       have HLY : Hid ((motB A d).length = n5 + 1) := by show _ = _; rw [mot_len, ← hn5]; omega
       have HLZ : Hid ((motB A d).length ≤ 1048576) := by show _ ≤ _; rw [mot_len, HN.out]; omega
       have HL5 : Hid ((C ++ d).length ≤ 1048576) := by show _ ≤ _; rw [List.length_append, HCL.out, HN.out]; omega
       obtain ⟨a5, c5, rfl⟩ := row_shape hown5
       clear hgo hn5 hown5 hg5 HO2)
  have HD5 : Hid (Below w5.heap.size w5 w5.drew) := below_drewN (Below.refl _ _) 1
  have HB5d := hidD (Below.next HB5.out HD5.out)
  have HO5d := hidD (row_below HO5.out HD5.out)
  have HY5d := hidD (HY5.out.next HD5.out)
  have HKT : Hid (∀ w', Below w5.heap.size w5 w' → ∃ i : KB w5 [], w' = i.v) := fun w' hb => ⟨⟨w', fun y hy => by simp at hy⟩, rfl⟩
  refine wp_region_seg [0, 0, 0, 0, 0, 0, 0, 1, 2, 2, 3, 5, 7, 99, 99, 99] 4 13 [] (by kernel_rfl) (by kernel_rfl) (by kernel_rfl) (by kernel_rfl) (by kernel_rfl) (by kernel_rfl) (by kernel_rfl) (by kernel_rfl) (fun _ _ _ _ _ h => h) ?_
  simp only [SegW, pk, Nat.reduceMul, Nat.reduceAdd, Nat.reduceBEq, cond_true, cond_false]
  repeat (go_big_quiet_step (fail))
  refine wpQuiet_nil ?_
  go_wp2_with (go_at_call 41; have hgo := HO5.out; refine (HTT.out (.slice a5 n5 c5) (C ++ d) HL5.out _ HY5d.out).mono ?_; rintro e wt ⟨rfl, hwt⟩; subst wt; rw [HT.out]; clear hgo HTT)
  refine ⟨HKT.out _ HD5.out, ?_⟩
  repeat (go_big_quiet_step (fail))
  refine wpQuiet_nil ?_
  go_wp2_with fail
  change (∃ i : KB w5 [], (w5.alloc (.cells #[.int .u8 ((255 - (T : Int)) % 256)] (5 : TypeId))).drew = i.v) ∧ _
  have HBT : Hid (Below w5.heap.size w5 (w5.alloc (.cells #[.int .u8 ((255 - (T : Int)) % 256)] (5 : TypeId))).drew) := below_drewN (HAL.out w5 _) 1
  have HYT : Hid (ByAt (w5.alloc (.cells #[.int .u8 ((255 - (T : Int)) % 256)] (5 : TypeId))).drew (.slice (some ⟨w5.heap.size, 0, none⟩) 1 1) [UInt8.ofNat (255 - T % 256)]) := (by_val w5 _ _ HT2.out).next (below_drewN (Below.refl _ _) 1)
  generalize (w5.alloc (.cells #[.int .u8 ((255 - (T : Int)) % 256)] (5 : TypeId))).drew = wt at *
  refine ⟨HKT.out _ HBT.out, ?_⟩
  repeat (go_big_quiet_step (fail))
  refine wpQuiet_nil ?_
  refine wpList_append_by rfl _ _ rfl W1.heap.size (.slice a5 n5 c5) n5 ((C ++ d).map encB) rfl (row_below HO5.out HBT.out) (.slice (some ⟨w5.heap.size, 0, none⟩) 1 1) [UInt8.ofNat (255 - T % 256)] rfl HYT.out (by have := HN5.out; rw [List.length_singleton]; omega) (Nat.le_trans HB5.out.size HBT.out.size) ?_
  intro v6 w6 hown6 hg6
  have HO6 : Hid (w6.ownsRow W1.heap.size 5 1 v6 (motB A d).length ((motB A d).map encB)) := by rw [HLY.out, HX1.out, List.map_append]; exact hown6
  have HB6 : Hid (Below W1.heap.size W1 w6) := row_grown (row_below HO5.out HBT.out) (Below.next HB5.out HBT.out) hg6 (Nat.le_trans HB5.out.size HBT.out.size)
  have HK6 : Hid (∃ i : KB w5 [], w6 = i.v) := ⟨⟨w6, fun y hy => by simp at hy⟩, rfl⟩
  have HK7 : Hid (∀ w' : World, ∃ i : KB w5 [], w' = i.v) := fun w' => ⟨⟨w', fun y hy => by simp at hy⟩, rfl⟩
  clear hown6 hg6
  go_wp2_with fail
  refine ⟨HK6.out, ?_⟩
  repeat (go_big_quiet_step (fail))
  refine wpQuiet_nil ?_
  go_wp2_with (go_at_call 40; refine (HID.out v6 (motB A d) HLZ.out w6 (by_of_own HO6.out)).mono ?_; rintro e w7 ⟨rfl, hb⟩; have HB7 := hidD (Below.next HB6.out hb); clear hb HID)
  refine ⟨HK7.out _, ?_⟩
  repeat (go_big_quiet_step (fail))
  refine wpQuiet_nil ?_
  have hex1 := HDG.out
  unfold tenT at hex1
  rw [hex1]
  obtain ⟨kc, HKC⟩ : ∃ kc, Hid (bA [48 + UInt8.ofNat K] = kc) := ⟨_, rfl⟩
  have hb1 : (bA [48 + UInt8.ofNat K]).size = 1 := rfl
  rw [HKC.out] at hb1 ⊢
  clear hex1
  go_wp2_with fail
  go_ret2
  refine ⟨congrArg (fun z => Ending.returned (.tuple #[.string z, .int .i64 0])) ?_, (HB1.out.trans (HB7.out.mono HB1.out.size))⟩
  show (bA [83] ++ kc) ++ bA (hexS (motB A d)) = bA (recS 2 K A d)
  rw [← HKC.out, ba_cat, ba_cat]
  rfl
set_option maxRecDepth 100000 in
set_option maxHeartbeats 3200000 in
theorem refRecordMos_any (K A : Nat) (hm : mayS 3 K A d = true) (v : Value) (w : World) (h : ByAt w v d) :
    Calls Tryz.prog 17 #[.int .i64 3, .int .i64 (K : Int), .int .i64 (A : Int), v] w fun e w' => e = .returned (.tuple #[.string (bA (recS 3 K A d)), .int .i64 0]) ∧ Below w.heap.size w w' := by
  obtain ⟨F', K', A', e1, e2, e3, hf, hA, hd2, g1, g2, g3⟩ := may_num hm
  obtain rfl : F' = 3 := by omega
  obtain rfl : K = K' := by omega
  obtain rfl : A = A' := by omega
  have HMY := hidD (refMay_any 3 K A v d (by omega) w h)
  rw [hm] at HMY
  have HBY := hidD h
  obtain ⟨va, vc, rfl⟩ := h.len
  have hd3 : d.length ≤ 255 := by omega
  skip
  clear h hm e1 e2 e3 hf g1 g2 g3 hd2
  have HX1 := hidD (show mosB A d = ([UInt8.ofNat d.length, hiB A, loB A] ++ d) ++ [hiB (totS ([UInt8.ofNat d.length, hiB A, loB A] ++ d)), loB (totS ([UInt8.ofNat d.length, hiB A, loB A] ++ d))] from rfl)
  obtain ⟨N, HN⟩ : ∃ N, Hid (d.length = N) := ⟨_, rfl⟩
  rw [HN.out] at HBY hd3 HMY HX1 ⊢
  have HCE := hidD (three_cells N A (by omega) hA)
  obtain ⟨C, HC⟩ : ∃ C, Hid ([UInt8.ofNat N, hiB A, loB A] = C) := ⟨_, rfl⟩
  rw [HC.out] at HCE HX1
  have HCL : Hid (C.length = 3) := by show _ = _; rw [← HC.out]; rfl
  obtain ⟨T, HT⟩ : ∃ T, Hid (totS (C ++ d) = T) := ⟨_, rfl⟩
  have hT : T ≤ 1000000 := by
    have := tot_le (C ++ d)
    rw [HT.out, List.length_append, HCL.out, HN.out] at this
    omega
  rw [HT.out] at HX1
  have HTT : Hid (∀ (v : Value) (l : List UInt8) (hl : l.length ≤ 1048576) (w : World) (h : ByAt w v l), Calls Tryz.prog 41 #[v] w fun e w' => e = .returned (.int .i64 (totS l : Int)) ∧ w' = w) := fun v l hl w h => refTotal_any v l (by omega) w h
  have HID : Hid (∀ (v : Value) (l : List UInt8) (hl : l.length ≤ 1048576) (w : World) (h : ByAt w v l), Calls Tryz.prog 40 #[v] w fun e w' => e = .returned (.string (bA (hexS l))) ∧ Below w.heap.size w w') := fun v l hl w h => refHex_any v l hl w h
  have hbs : ((bA (hexS (mosB A d))).size : Int) ≤ 3000 := by rw [ba_size, hex_len, mos_len, HN.out]; omega
  have HBX := hidD (heap_alloc_last w (.cells #[.int .u8 ((A : Int) / 256), .int .u8 ((A : Int) % 256)] (5 : TypeId)))
  have HB1 := hidD ((Below.refl w.heap.size w).alloc (Nat.le_refl _) (.cells #[.int .u8 ((A : Int) / 256), .int .u8 ((A : Int) % 256)] (5 : TypeId)))
  go_enter Tryz.func17, Tryz.ntmps17
  go_wp2_with (go_at_call 39
               refine HMY.out.mono ?_
               rintro e w2 ⟨rfl, hw2⟩
               subst w2
               clear HMY)
  change Code.wp _ _ _ _ (w.alloc (.cells #[.int .u8 ((A : Int) / 256), .int .u8 ((A : Int) % 256)] (5 : TypeId)))
  have HBY1 := hidD (HBY.out.next HB1.out)
  generalize w.alloc (.cells #[.int .u8 ((A : Int) / 256), .int .u8 ((A : Int) % 256)] (5 : TypeId)) = W1 at *
  obtain ⟨r, HR⟩ : ∃ r, Hid (w.heap.size = r) := ⟨_, rfl⟩
  rw [HR.out] at HBX ⊢
  obtain ⟨k0, k1⟩ := two_box HBX.out
  have hrl : r < W1.heap.size := row_lt HBX.out
  have HKK : Hid (∀ w', Below W1.heap.size W1 w' → ∃ i : KB W1 [r], w' = i.v) := fun w' hb => ⟨⟨w', fun y hy => by rw [List.mem_singleton] at hy; subst hy; exact hb.block _ hrl⟩, rfl⟩
  have f0 : ∀ i : KB W1 [r], i.v.cell? ⟨r, 0, none⟩ = some (.int .u8 ((A : Int) / 256)) := fun i => (i.cell (b := r) (by simp) _).trans k0
  have f1 : ∀ i : KB W1 [r], i.v.cell? ⟨r, 1, none⟩ = some (.int .u8 ((A : Int) % 256)) := fun i => (i.cell (b := r) (by simp) _).trans k1
  have HAL : Hid (∀ (w : World) o, Below w.heap.size w (w.alloc o)) := fun w o => (Below.refl _ _).alloc (Nat.le_refl _) o
  have HD0 : Hid (Below W1.heap.size W1 W1.drew) := below_drewN (Below.refl _ _) 1
  clear k0 k1 hrl
  refine wp_region_seg [0, 0, 0, 0, 0, 0, 0, 1, 0, 99, 99] 1 9 [r] (by kernel_rfl) (by kernel_rfl) (by kernel_rfl) (by kernel_rfl) (by kernel_rfl) (by kernel_rfl) (by kernel_rfl) (by kernel_rfl) (fun _ _ _ _ _ h => h) ?_
  simp only [SegW, pk, Nat.reduceMul, Nat.reduceAdd, Nat.reduceBEq, cond_true, cond_false]
  repeat (go_big_quiet_step (fail))
  refine wpQuiet_nil ?_
  go_wp2_with fail
  rw [HCE.out]
  have HO2 : Hid ((W1.alloc (.cells (C.map encB).toArray (5 : TypeId))).drew.ownsRow W1.heap.size 5 1 (.slice (some ⟨W1.heap.size, 0, none⟩) 3 3) 3 (C.map encB)) := full_row (Nat.le_refl _) (by rw [List.length_map, HCL.out]) (by decide) (heap_alloc_last _ _)
  have HB2 : Hid (Below W1.heap.size W1 (W1.alloc (.cells (C.map encB).toArray (5 : TypeId))).drew) := below_drewN (HAL.out W1 _) 1
  generalize (W1.alloc (.cells (C.map encB).toArray (5 : TypeId))).drew = w2 at *
  refine ⟨HKK.out _ HB2.out, ?_⟩
  repeat (go_big_quiet_step (fail))
  refine wpQuiet_nil ?_
  go_wp2_with first
    | (go_at_call 40
       refine (HID.out v6 (mosB A d) HLZ.out w6 (by_of_own HO6.out)).mono ?_
       rintro e w7 ⟨rfl, hb⟩
       have HB7 := hidD (Below.next HB6.out hb)
       clear hb HID)
    | (at_builtin
       have hgo := HO5.out
       rw [two_cells T]
       have HYT : Hid (ByAt (w5.alloc (.cells ([hiB T, loB T].map encB).toArray (5 : TypeId))) (.slice (some ⟨w5.heap.size, 0, none⟩) 2 2) [hiB T, loB T]) := by_of_own (base := w5.heap.size) (e := 5) (full_row (Nat.le_refl _) rfl (by decide) (heap_alloc_last _ _))
       refine wpList_append_by rfl _ _ rfl W1.heap.size (.slice a5 n5 c5) n5 ((C ++ d).map encB) rfl (row_below HO5.out (HAL.out _ _)) (.slice (some ⟨w5.heap.size, 0, none⟩) 2 2) [hiB T, loB T] rfl HYT.out (by have := HN5.out; simp; omega) (by have := HB5.out.size; simp; omega) ?_
       intro v6 w6 hown6 hg6
       have HO6 : Hid (w6.ownsRow W1.heap.size 5 1 v6 (mosB A d).length ((mosB A d).map encB)) := by rw [HLY.out, HX1.out, List.map_append]; exact hown6
       have HB6 : Hid (Below W1.heap.size W1 w6) := row_grown (row_below HO5.out (HAL.out _ _)) (Below.next HB5.out (HAL.out _ _)) hg6 (by have := HB5.out.size; simp; omega)
       clear hgo hown6 hg6 HO5)
    | (go_at_call 41
       have hgo := HO5.out
       refine (HTT.out (.slice a5 n5 c5) (C ++ d) HL5.out _ HY5.out).mono ?_
       rintro e wt ⟨rfl, hwt⟩
       subst wt
       rw [HT.out]
       clear hgo HTT)
    | (at_builtin
       have hgo := HO2.out
       refine wpList_append_by rfl _ _ rfl W1.heap.size (.slice (some ⟨W1.heap.size, 0, none⟩) 3 3) 3 (C.map encB) rfl HO2.out (.slice va N vc) d rfl (HBY1.out.next HB2.out) (by rw [HN.out]; omega) HB2.out.size ?_
       intro v5 w5 hown5 hg5
       rw [← List.map_append] at hown5
       obtain ⟨n5, hn5⟩ : ∃ n5, 3 + d.length = n5 := ⟨_, rfl⟩
       rw [hn5] at hown5
       have HN5 : Hid (n5 = N + 3) := by have := HN.out; show _ = _; omega
       have HO5 := hidD hown5
       have HY5 : Hid (ByAt w5 v5 (C ++ d)) := by
         have hl : (C ++ d).length = n5 := by rw [← hn5, List.length_append, HCL.out]
         exact by_of_own (by rw [hl]; exact hown5)
       have HB5 : Hid (Below W1.heap.size W1 w5) := row_grown HO2.out HB2.out hg5 HB2.out.size
       have HLY : Hid ((mosB A d).length = n5 + 2) := by show _ = _; rw [mos_len, ← hn5]; omega
       have HLZ : Hid ((mosB A d).length ≤ 1048576) := by show _ ≤ _; rw [mos_len, HN.out]; omega
       have HL5 : Hid ((C ++ d).length ≤ 1048576) := by show _ ≤ _; rw [List.length_append, HCL.out, HN.out]; omega
       obtain ⟨a5, c5, rfl⟩ := row_shape hown5
       clear hgo hn5 hown5 hg5 HO2)
  go_ret2
  refine ⟨congrArg (fun z => Ending.returned (.tuple #[.string z, .int .i64 0])) ?_, (HB1.out.trans (HB7.out.mono HB1.out.size))⟩
  show bA [59] ++ bA (hexS (mosB A d)) = bA (recS 3 K A d)
  rw [ba_cat]
  rfl
end Go.Proofs.YtpemajghaceegaaGreatDoor
