/- What textOfIntel, textOfMotorola and textOfMos answer: records as texts. -/
import Derived.Test.YtpemajghaceegaaGreatDoorHxf
import Derived.Test.YtpemajghaceegaaGreatDoorFrk
namespace Go.Proofs.YtpemajghaceegaaGreatDoor
open Go.RowKit
set_option linter.unusedVariables false

/- a record's box -/
def recO (k a : Nat) (v : Value) : Obj := .cells #[.int .i64 (k : Int), .int .i64 (a : Int), v] (80 : TypeId)
theorem ba_cat (x y : List UInt8) : bA x ++ bA y = bA (x ++ y) := by
  apply ByteArray.ext
  simp [bA]
theorem ByAt.len {w : World} {v : Value} {l : List UInt8} (h : ByAt w v l) : ∃ a cap, v = .slice a l.length cap := by
  obtain ⟨a, cap, h1, _⟩ := h
  exact ⟨a, cap, h1⟩
theorem rec_box {w : World} {r k a : Nat} {v : Value} (h : w.heap[r]? = some (recO k a v)) : w.cell? ⟨r, 0, none⟩ = some (.int .i64 (k : Int)) ∧ w.cell? ⟨r, 1, none⟩ = some (.int .i64 (a : Int)) ∧ w.cell? ⟨r, 2, none⟩ = some v :=
  ⟨by rw [cell_of_row _ _ _ _ _ _ h]; rfl, by rw [cell_of_row _ _ _ _ _ _ h]; rfl, by rw [cell_of_row _ _ _ _ _ _ h]; rfl⟩
theorem by_val (w : World) (x : Int) (b : UInt8) (hx : x = (b.toNat : Int)) : ByAt (w.alloc (.cells #[.int .u8 x] (5 : TypeId))) (.slice (some ⟨w.heap.size, 0, none⟩) 1 1) [b] := by subst hx; exact by_one w b
set_option maxRecDepth 100000 in
set_option maxHeartbeats 1600000 in
theorem textOfIntel_any (K A : Nat) (hK : K < 256) (hA : A < 65536) (v : Value) (d : List UInt8) (hd : d.length ≤ 255) (w : World) (h : ByAt w v d) :
    Calls Tryz.prog 63 #[.agg #[.int .i64 (K : Int), .int .i64 (A : Int), v]] w fun e w' => e = .returned (.string (bA (58 :: hexS (intB K A d)))) ∧ Below w.heap.size w w' := by
  have HBY := hidD h
  obtain ⟨a, cap, rfl⟩ := h.len
  obtain ⟨N, HN⟩ : ∃ N, Hid (d.length = N) := ⟨_, rfl⟩
  have HCT := hidD (fun w => counted_any d.length A (by omega) hA w)
  have HTT : Hid (∀ (v : Value) (l : List UInt8) (hl : l.length ≤ 1048576) (w : World) (h : ByAt w v l), Calls Tryz.prog 108 #[v] w fun e w' => e = .returned (.int .i64 (totS l : Int)) ∧ w' = w) := fun v l hl w h => total_any v l (by omega) w h
  have HID : Hid (∀ (v : Value) (l : List UInt8) (hl : l.length ≤ 1048576) (w : World) (h : ByAt w v l), Calls Tryz.prog 107 #[v] w fun e w' => e = .returned (.string (bA (hexS l))) ∧ Below w.heap.size w w') := fun v l hl w h => inDigits_any v l hl w h
  have HX1 := hidD (show intB K A d = ([UInt8.ofNat d.length, hiB A, loB A] ++ [UInt8.ofNat K] ++ d) ++ [UInt8.ofNat (256 - totS ([UInt8.ofNat d.length, hiB A, loB A] ++ [UInt8.ofNat K] ++ d) % 256)] from rfl)
  rw [HN.out] at hd HCT HX1 HBY ⊢
  obtain ⟨C, HC⟩ : ∃ C, Hid ([UInt8.ofNat N, hiB A, loB A] = C) := ⟨_, rfl⟩
  rw [HC.out] at HCT HX1
  have HCL : Hid (C.length = 3) := by show _ = _; rw [← HC.out]; rfl
  obtain ⟨T, HT⟩ : ∃ T, Hid (totS (C ++ [UInt8.ofNat K] ++ d) = T) := ⟨_, rfl⟩
  have hT : T ≤ 1000000 := by
    have := tot_le (C ++ [UInt8.ofNat K] ++ d)
    rw [HT.out, List.length_append, List.length_append, HCL.out, HN.out] at this
    simp only [List.length_cons, List.length_nil] at this
    omega
  rw [HT.out] at HX1
  have hK2 : (K : Int) = ((UInt8.ofNat K).toNat : Int) := by rw [of_nat]; omega
  have hT2 : (-(T : Int)) % 256 = ((UInt8.ofNat (256 - T % 256)).toNat : Int) := by rw [of_nat]; omega
  have HK2 := hidD hK2
  have HT2 := hidD hT2
  clear hK2 hT2
  have hbs : ((bA (hexS (intB K A d))).size : Int) ≤ 3000 := by rw [ba_size, hex_len, int_len, HN.out]; omega
  have HBX := hidD (heap_alloc_last w (recO K A (.slice a N cap)))
  have HB1 := hidD ((Below.refl w.heap.size w).alloc (Nat.le_refl _) (recO K A (.slice a N cap)))
  go_enter Tryz.func63, Tryz.ntmps63
  go_wp2_with fail
  change Code.wp _ _ _ _ (w.alloc (recO K A (.slice a N cap)))
  have HBY1 := hidD (HBY.out.next HB1.out)
  generalize w.alloc (recO K A (.slice a N cap)) = W1 at *
  obtain ⟨r, HR⟩ : ∃ r, Hid (w.heap.size = r) := ⟨_, rfl⟩
  rw [HR.out] at HBX ⊢
  obtain ⟨k0, k1, k2⟩ := rec_box HBX.out
  have hrl : r < W1.heap.size := row_lt HBX.out
  have HKK : Hid (∀ w', Below W1.heap.size W1 w' → ∃ i : KB W1 [r], w' = i.v) := fun w' hb => ⟨⟨w', fun y hy => by rw [List.mem_singleton] at hy; subst hy; exact hb.block _ hrl⟩, rfl⟩
  have f0 : ∀ i : KB W1 [r], i.v.cell? ⟨r, 0, none⟩ = some (.int .i64 (K : Int)) := fun i => (i.cell (b := r) (by simp) _).trans k0
  have f1 : ∀ i : KB W1 [r], i.v.cell? ⟨r, 1, none⟩ = some (.int .i64 (A : Int)) := fun i => (i.cell (b := r) (by simp) _).trans k1
  have f2 : ∀ i : KB W1 [r], i.v.cell? ⟨r, 2, none⟩ = some (.slice a N cap) := fun i => (i.cell (b := r) (by simp) _).trans k2
  have HF := hidD hrl
  clear k0 k1 k2 hrl
  refine wp_region_fork [0, 0, 0, 0, 0, 201, 0, 0, 0, 202, 99, 99] 0 10 5 9 _ _ [r] (by kernel_rfl) (by kernel_rfl) (by kernel_rfl) (by kernel_rfl) (by kernel_rfl) (by kernel_rfl) (by kernel_rfl) rfl rfl (by kernel_rfl) (by kernel_rfl) (fun _ _ _ _ _ h => h) ?_
  simp only [SegW, TwoW, pk, Nat.reduceMul, Nat.reduceBEq, cond_true, cond_false]
  repeat (go_big_quiet_step (fail))
  refine wpQuiet_nil ?_
  have HAL : Hid (∀ (w : World) o, Below w.heap.size w (w.alloc o)) := fun w o => (Below.refl _ _).alloc (Nat.le_refl _) o
  have HD0 : Hid (Below W1.heap.size W1 W1.drew) := below_drewN (Below.refl _ _) 1
  refine ⟨?_, ?_⟩
  · go_wp2_with (go_at_call 106
                 refine (HCT.out _).mono ?_
                 rintro e w2 ⟨u2, rfl, hown, hb⟩
                 have HO2 := hidD hown
                 have HB2 := hidD (Below.next HD0.out hb)
                 obtain ⟨a2, c2, rfl⟩ := row_shape hown
                 clear hown hb)
    refine ⟨HKK.out _ HB2.out, ?_⟩
    go_wp2_with fail
    refine ⟨HKK.out _ (Below.next HB2.out (HAL.out _ _)), ?_⟩
    go_wp2_with first
      | (go_at_call 107
         refine (HID.out v6 (intB K A d) HLZ.out w6 (by_of_own HO6.out)).mono ?_
         rintro e w7 ⟨rfl, hb⟩
         have HB7 := hidD (Below.next HB6.out hb)
         clear hb HID)
      | (at_builtin
         have hgo := HO5.out
         refine wpList_append_by rfl _ _ rfl W1.heap.size (.slice a5 n5 c5) n5 ((C ++ [UInt8.ofNat K] ++ d).map encB) rfl (row_below HO5.out (HAL.out _ _)) (.slice (some ⟨w5.heap.size, 0, none⟩) 1 1) [UInt8.ofNat (256 - T % 256)] rfl (by_val w5 _ _ HT2.out) (by have := HN5.out; simp; omega) (by have := HB5.out.size; simp; omega) ?_
         intro v6 w6 hown6 hg6
         have HO6 : Hid (w6.ownsRow W1.heap.size 5 1 v6 (intB K A d).length ((intB K A d).map encB)) := by rw [HLY.out, HX1.out, List.map_append]; exact hown6
         have HB6 : Hid (Below W1.heap.size W1 w6) := row_grown (row_below HO5.out (HAL.out _ _)) (Below.next HB5.out (HAL.out _ _)) hg6 (by have := HB5.out.size; simp; omega)
         clear hgo hown6 hg6 HO5)
      | (go_at_call 108
         have hgo := HO5.out
         refine (HTT.out (.slice a5 n5 c5) (C ++ [UInt8.ofNat K] ++ d) HL5.out w5 HY5.out).mono ?_
         rintro e wt ⟨rfl, hwt⟩
         subst wt
         rw [HT.out]
         clear hgo HTT)
      | (at_builtin
         have hgo := HO4.out
         refine wpList_append_by rfl _ _ rfl W1.heap.size (.slice a4 4 c4) 4 ((C ++ [UInt8.ofNat K]).map encB) rfl HO4.out (.slice a N cap) d rfl (HBY1.out.next HB4.out) (by rw [HN.out]; omega) HB4.out.size ?_
         intro v5 w5 hown5 hg5
         rw [← List.map_append] at hown5
         obtain ⟨n5, hn5⟩ : ∃ n5, 4 + d.length = n5 := ⟨_, rfl⟩
         rw [hn5] at hown5
         have HN5 : Hid (n5 = N + 4) := by have := HN.out; show _ = _; omega
         have HO5 := hidD hown5
         have HY5 : Hid (ByAt w5 v5 (C ++ [UInt8.ofNat K] ++ d)) := by
           have hl : (C ++ [UInt8.ofNat K] ++ d).length = n5 := by rw [← hn5, List.length_append, List.length_append, HCL.out]; rfl
           exact by_of_own (by rw [hl]; exact hown5)
         have HB5 : Hid (Below W1.heap.size W1 w5) := row_grown HO4.out HB4.out hg5 HB4.out.size
         have HLY : Hid ((intB K A d).length = n5 + 1) := by show _ = _; rw [int_len, ← hn5]; omega
         have HLZ : Hid ((intB K A d).length ≤ 1048576) := by show _ ≤ _; rw [int_len, HN.out]; omega
         have HL5 : Hid ((C ++ [UInt8.ofNat K] ++ d).length ≤ 1048576) := by show _ ≤ _; rw [List.length_append, List.length_append, HCL.out, HN.out]; simp; omega
         obtain ⟨a5, c5, rfl⟩ := row_shape hown5
         clear hgo hn5 hown5 hg5 HO4)
      | (at_builtin
         refine wpList_append_by rfl _ _ rfl W1.heap.size (.slice a2 3 c2) 3 (C.map encB) rfl (row_below HO2.out (HAL.out _ _)) (.slice (some ⟨w2.heap.size, 0, none⟩) 1 1) [UInt8.ofNat K] rfl (by_val w2 _ _ HK2.out) (by simp) (by have := HB2.out.size; simp; omega) ?_
         intro v4 w4 hown4 hg4
         have HO4 : Hid (w4.ownsRow W1.heap.size 5 1 v4 4 ((C ++ [UInt8.ofNat K]).map encB)) := by rw [List.map_append]; exact hown4
         have HB4 : Hid (Below W1.heap.size W1 w4) := row_grown (row_below HO2.out (HAL.out _ _)) (Below.next HB2.out (HAL.out _ _)) hg4 (by have := HB2.out.size; simp; omega)
         have m2 : w4.cell? ⟨r, 2, none⟩ = some (.slice a N cap) := (HB4.out.cell (p := ⟨r, 2, none⟩) HF.out).trans (rec_box HBX.out).2.2
         obtain ⟨a4, c4, rfl⟩ := row_shape hown4
         clear hown4 hg4 HO2 HB2)
    go_ret
    exact ⟨congrArg (fun z => Ending.returned (Value.string z)) (ba_cat [58] (hexS (intB K A d))), (HB1.out.trans (HB7.out.mono HB1.out.size))⟩
  · go_wp2_with fail
    refine ⟨HKK.out _ (Below.next HD0.out (HAL.out _ _)), ?_⟩
    go_wp2_with (go_at_call 106
                 refine (HCT.out _).mono ?_
                 rintro e w2 ⟨u2, rfl, hown, hb⟩
                 have HO2 := hidD hown
                 have HY2 := hidD ((by_val W1.drew _ _ HK2.out).next hb)
                 have HB2 := hidD (Below.next (Below.next HD0.out (HAL.out _ _)) hb)
                 obtain ⟨a2, c2, rfl⟩ := row_shape hown
                 clear hown hb)
    refine ⟨HKK.out _ HB2.out, ?_⟩
    go_wp2_with first
      | (go_at_call 107
         refine (HID.out v6 (intB K A d) HLZ.out w6 (by_of_own HO6.out)).mono ?_
         rintro e w7 ⟨rfl, hb⟩
         have HB7 := hidD (Below.next HB6.out hb)
         clear hb HID)
      | (at_builtin
         have hgo := HO5.out
         refine wpList_append_by rfl _ _ rfl W1.heap.size (.slice a5 n5 c5) n5 ((C ++ [UInt8.ofNat K] ++ d).map encB) rfl (row_below HO5.out (HAL.out _ _)) (.slice (some ⟨w5.heap.size, 0, none⟩) 1 1) [UInt8.ofNat (256 - T % 256)] rfl (by_val w5 _ _ HT2.out) (by have := HN5.out; simp; omega) (by have := HB5.out.size; simp; omega) ?_
         intro v6 w6 hown6 hg6
         have HO6 : Hid (w6.ownsRow W1.heap.size 5 1 v6 (intB K A d).length ((intB K A d).map encB)) := by rw [HLY.out, HX1.out, List.map_append]; exact hown6
         have HB6 : Hid (Below W1.heap.size W1 w6) := row_grown (row_below HO5.out (HAL.out _ _)) (Below.next HB5.out (HAL.out _ _)) hg6 (by have := HB5.out.size; simp; omega)
         clear hgo hown6 hg6 HO5)
      | (go_at_call 108
         have hgo := HO5.out
         refine (HTT.out (.slice a5 n5 c5) (C ++ [UInt8.ofNat K] ++ d) HL5.out w5 HY5.out).mono ?_
         rintro e wt ⟨rfl, hwt⟩
         subst wt
         rw [HT.out]
         clear hgo HTT)
      | (at_builtin
         have hgo := HO4.out
         refine wpList_append_by rfl _ _ rfl W1.heap.size (.slice a4 4 c4) 4 ((C ++ [UInt8.ofNat K]).map encB) rfl HO4.out (.slice a N cap) d rfl (HBY1.out.next HB4.out) (by rw [HN.out]; omega) HB4.out.size ?_
         intro v5 w5 hown5 hg5
         rw [← List.map_append] at hown5
         obtain ⟨n5, hn5⟩ : ∃ n5, 4 + d.length = n5 := ⟨_, rfl⟩
         rw [hn5] at hown5
         have HN5 : Hid (n5 = N + 4) := by have := HN.out; show _ = _; omega
         have HO5 := hidD hown5
         have HY5 : Hid (ByAt w5 v5 (C ++ [UInt8.ofNat K] ++ d)) := by
           have hl : (C ++ [UInt8.ofNat K] ++ d).length = n5 := by rw [← hn5, List.length_append, List.length_append, HCL.out]; rfl
           exact by_of_own (by rw [hl]; exact hown5)
         have HB5 : Hid (Below W1.heap.size W1 w5) := row_grown HO4.out HB4.out hg5 HB4.out.size
         have HLY : Hid ((intB K A d).length = n5 + 1) := by show _ = _; rw [int_len, ← hn5]; omega
         have HLZ : Hid ((intB K A d).length ≤ 1048576) := by show _ ≤ _; rw [int_len, HN.out]; omega
         have HL5 : Hid ((C ++ [UInt8.ofNat K] ++ d).length ≤ 1048576) := by show _ ≤ _; rw [List.length_append, List.length_append, HCL.out, HN.out]; simp; omega
         obtain ⟨a5, c5, rfl⟩ := row_shape hown5
         clear hgo hn5 hown5 hg5 HO4)
      | (at_builtin
         refine wpList_append_by rfl _ _ rfl W1.heap.size (.slice a2 3 c2) 3 (C.map encB) rfl (row_mono HO2.out (by simp)) (.slice (some ⟨W1.drew.heap.size, 0, none⟩) 1 1) [UInt8.ofNat K] rfl HY2.out (by simp) HB2.out.size ?_
         intro v4 w4 hown4 hg4
         have HO4 : Hid (w4.ownsRow W1.heap.size 5 1 v4 4 ((C ++ [UInt8.ofNat K]).map encB)) := by rw [List.map_append]; exact hown4
         have HB4 : Hid (Below W1.heap.size W1 w4) := row_grown (row_mono HO2.out (by simp)) HB2.out hg4 HB2.out.size
         have m2 : w4.cell? ⟨r, 2, none⟩ = some (.slice a N cap) := (HB4.out.cell (p := ⟨r, 2, none⟩) HF.out).trans (rec_box HBX.out).2.2
         obtain ⟨a4, c4, rfl⟩ := row_shape hown4
         clear hown4 hg4 HO2 HB2 HY2)
    go_ret
    exact ⟨congrArg (fun z => Ending.returned (Value.string z)) (ba_cat [58] (hexS (intB K A d))), (HB1.out.trans (HB7.out.mono HB1.out.size))⟩
end Go.Proofs.YtpemajghaceegaaGreatDoor
