/- What textOfMotorola answers. -/
import Derived.Test.YtpemajghaceegaaGreatDoorHxg
namespace Go.Proofs.YtpemajghaceegaaGreatDoor
open Go.RowKit
set_option linter.unusedVariables false

set_option maxRecDepth 100000 in
set_option maxHeartbeats 1600000 in
theorem textOfMotorola_any (K A : Nat) (hK : K < 10) (hA : A < 65536) (v : Value) (d : List UInt8) (hd : d.length ≤ 252) (w : World) (h : ByAt w v d) :
    Calls Tryz.prog 69 #[.agg #[.int .i64 (K : Int), .int .i64 (A : Int), v]] w fun e w' => e = .returned (.string (bA (83 :: (48 + UInt8.ofNat K) :: hexS (motB A d)))) ∧ Below w.heap.size w w' := by
  have HBY := hidD h
  obtain ⟨a, cap, rfl⟩ := h.len
  obtain ⟨N, HN⟩ : ∃ N, Hid (d.length = N) := ⟨_, rfl⟩
  have HCT := hidD (fun w => counted_any (d.length + 3) A (by omega) hA w)
  have HTT : Hid (∀ (v : Value) (l : List UInt8) (hl : l.length ≤ 1048576) (w : World) (h : ByAt w v l), Calls Tryz.prog 108 #[v] w fun e w' => e = .returned (.int .i64 (totS l : Int)) ∧ w' = w) := fun v l hl w h => total_any v l (by omega) w h
  have HID : Hid (∀ (v : Value) (l : List UInt8) (hl : l.length ≤ 1048576) (w : World) (h : ByAt w v l), Calls Tryz.prog 107 #[v] w fun e w' => e = .returned (.string (bA (hexS l))) ∧ Below w.heap.size w w') := fun v l hl w h => inDigits_any v l hl w h
  have HX1 := hidD (show motB A d = ([UInt8.ofNat (d.length + 3), hiB A, loB A] ++ d) ++ [UInt8.ofNat (255 - totS ([UInt8.ofNat (d.length + 3), hiB A, loB A] ++ d) % 256)] from rfl)
  rw [HN.out] at hd HCT HX1 HBY ⊢
  obtain ⟨C, HC⟩ : ∃ C, Hid ([UInt8.ofNat (N + 3), hiB A, loB A] = C) := ⟨_, rfl⟩
  rw [HC.out] at HCT HX1
  have HCL : Hid (C.length = 3) := by show _ = _; rw [← HC.out]; rfl
  obtain ⟨T, HT⟩ : ∃ T, Hid (totS (C ++ d) = T) := ⟨_, rfl⟩
  have hT : T ≤ 1000000 := by
    have := tot_le (C ++ d)
    rw [HT.out, List.length_append, HCL.out, HN.out] at this
    omega
  rw [HT.out] at HX1
  have HT2 : Hid ((255 - (T : Int)) % 256 = ((UInt8.ofNat (255 - T % 256)).toNat : Int)) := by show _ = _; rw [of_nat]; omega
  have hbs : ((bA (hexS (motB A d))).size : Int) ≤ 3000 := by rw [ba_size, hex_len, mot_len, HN.out]; omega
  have hdg : dgS (UInt8.ofNat K) = 48 + UInt8.ofNat K := by
    have : ∀ k : Fin 10, dgS (UInt8.ofNat k.val) = 48 + UInt8.ofNat k.val := by decide +kernel
    exact this ⟨K, hK⟩
  have HOD := hidD (fun w => oneDigit_any (UInt8.ofNat K) (by rw [of_nat]; omega) w)
  rw [hdg, of_nat, show K % 256 = K by omega] at HOD
  have hb1 : (bA [48 + UInt8.ofNat K]).size = 1 := rfl
  clear hdg
  obtain ⟨kc, HKC⟩ : ∃ kc, Hid (bA [48 + UInt8.ofNat K] = kc) := ⟨_, rfl⟩
  rw [HKC.out] at HOD hb1
  have HBX := hidD (heap_alloc_last w (recO K A (.slice a N cap)))
  have HB1 := hidD ((Below.refl w.heap.size w).alloc (Nat.le_refl _) (recO K A (.slice a N cap)))
  go_enter Tryz.func69, Tryz.ntmps69
  go_wp2_with fail
  change Code.wp _ _ _ _ (w.alloc (recO K A (.slice a N cap)))
  have HBY1 := hidD (HBY.out.next HB1.out)
  generalize w.alloc (recO K A (.slice a N cap)) = W1 at *
  obtain ⟨r, HR⟩ : ∃ r, Hid (w.heap.size = r) := ⟨_, rfl⟩
  rw [HR.out] at HBX ⊢
  obtain ⟨k0, k1, k2⟩ := rec_box HBX.out
  have hrl : r < W1.heap.size := row_lt HBX.out
  have HKK : Hid (∀ w', Below W1.heap.size W1 w' → ∃ i : KB W1 [r], w' = i.v) := fun w' hb => ⟨⟨w', fun y hy => by rw [List.mem_singleton] at hy; subst hy; exact hb.block _ hrl⟩, rfl⟩
  have f0 : ∀ i : KB W1 [r], i.v.cell? ⟨r, 0, none⟩ = some (.int .i64 (K : Int)) := fun i => (i.cell (b := r) (by simp) _).trans k0
  have f1 : ∀ i : KB W1 [r], i.v.cell? ⟨r, 1, none⟩ = some (.int .i64 (A : Int)) := fun i => (i.cell (b := r) (by simp) _).trans k1
  have f2 : ∀ i : KB W1 [r], i.v.cell? ⟨r, 2, none⟩ = some (.slice a N cap) := fun i => (i.cell (b := r) (by simp) _).trans k2
  have HF := hidD hrl
  have HAL : Hid (∀ (w : World) o, Below w.heap.size w (w.alloc o)) := fun w o => (Below.refl _ _).alloc (Nat.le_refl _) o
  have HD0 : Hid (Below W1.heap.size W1 W1.drew) := below_drewN (Below.refl _ _) 1
  clear k0 k1 k2 hrl
  refine wp_region_seg [0, 0, 0, 0, 0, 0, 1, 0, 0, 99, 99] 1 9 [r] (by kernel_rfl) (by kernel_rfl) (by kernel_rfl) (by kernel_rfl) (by kernel_rfl) (by kernel_rfl) (by kernel_rfl) (by kernel_rfl) (fun _ _ _ _ _ h => h) ?_
  simp only [SegW, pk, Nat.reduceMul, Nat.reduceAdd, Nat.reduceBEq, cond_true, cond_false]
  repeat (go_big_quiet_step (fail))
  refine wpQuiet_nil ?_
  go_wp2_with (go_at_call 106
               refine (HCT.out _).mono ?_
               rintro e w2 ⟨u2, rfl, hown, hb⟩
               have HO2 := hidD (row_mono hown (show W1.heap.size ≤ W1.drew.heap.size from HD0.out.size))
               have HB2 := hidD (Below.next HD0.out hb)
               obtain ⟨a2, c2, rfl⟩ := row_shape hown
               clear hown hb)
  refine ⟨HKK.out _ HB2.out, ?_⟩
  repeat (go_big_quiet_step (fail))
  refine wpQuiet_nil ?_
  go_wp2_with first
    | (go_at_call 107
       refine (HID.out v6 (motB A d) HLZ.out w6 (by_of_own HO6.out)).mono ?_
       rintro e w7 ⟨rfl, hb⟩
       have HB7 := hidD (Below.next HB6.out hb)
       clear hb HID)
    | (at_builtin
       have hgo := HO5.out
       refine wpList_append_by rfl _ _ rfl W1.heap.size (.slice a5 n5 c5) n5 ((C ++ d).map encB) rfl (row_below HO5.out (HAL.out _ _)) (.slice (some ⟨w5.heap.size, 0, none⟩) 1 1) [UInt8.ofNat (255 - T % 256)] rfl (by_val w5 _ _ HT2.out) (by have := HN5.out; simp; omega) (by have := HB5.out.size; simp; omega) ?_
       intro v6 w6 hown6 hg6
       have HO6 : Hid (w6.ownsRow W1.heap.size 5 1 v6 (motB A d).length ((motB A d).map encB)) := by rw [HLY.out, HX1.out, List.map_append]; exact hown6
       have HB6 : Hid (Below W1.heap.size W1 w6) := row_grown (row_below HO5.out (HAL.out _ _)) (Below.next HB5.out (HAL.out _ _)) hg6 (by have := HB5.out.size; simp; omega)
       clear hgo hown6 hg6 HO5)
    | (go_at_call 108
       have hgo := HO5.out
       refine (HTT.out (.slice a5 n5 c5) (C ++ d) HL5.out w5 HY5.out).mono ?_
       rintro e wt ⟨rfl, hwt⟩
       subst wt
       rw [HT.out]
       clear hgo HTT)
    | (go_at_call 114
       have hgo := HO5.out
       refine (HOD.out _).mono ?_
       rintro e wt ⟨rfl, hwt⟩
       subst wt
       clear hgo HOD)
    | (at_builtin
       have hgo := HO2.out
       refine wpList_append_by rfl _ _ rfl W1.heap.size (.slice a2 3 c2) 3 (C.map encB) rfl HO2.out (.slice a N cap) d rfl (HBY1.out.next HB2.out) (by rw [HN.out]; omega) HB2.out.size ?_
       intro v5 w5 hown5 hg5
       rw [← List.map_append] at hown5
       obtain ⟨n5, hn5⟩ : ∃ n5, 3 + d.length = n5 := ⟨_, rfl⟩
       rw [hn5] at hown5
       have HN5 : Hid (n5 = N + 3) := by have := HN.out; show _ = _; omega
       have HO5 := hidD hown5
       have HY5 : Hid (ByAt w5 v5 (C ++ d)) := by
         have hl : (C ++ d).length = n5 := by rw [← hn5, List.length_append, HCL.out]
         exact by_of_own (by rw [hl]; exact hown5)
       have HB5 : Hid (Below W1.heap.size W1 w5) := row_grown HO2.out HB2.out hg5 HB2.out.size
       have m0 : w5.cell? ⟨r, 0, none⟩ = some (.int .i64 (K : Int)) := (HB5.out.cell (p := ⟨r, 0, none⟩) HF.out).trans (rec_box HBX.out).1
       have HLY : Hid ((motB A d).length = n5 + 1) := by show _ = _; rw [mot_len, ← hn5]; omega
       have HLZ : Hid ((motB A d).length ≤ 1048576) := by show _ ≤ _; rw [mot_len, HN.out]; omega
       have HL5 : Hid ((C ++ d).length ≤ 1048576) := by show _ ≤ _; rw [List.length_append, HCL.out, HN.out]; omega
       obtain ⟨a5, c5, rfl⟩ := row_shape hown5
       clear hgo hn5 hown5 hg5 HO2)
  go_ret
  refine ⟨congrArg (fun z => Ending.returned (Value.string z)) ?_, (HB1.out.trans (HB7.out.mono HB1.out.size))⟩
  show (bA [83] ++ kc) ++ bA (hexS (motB A d)) = _
  rw [← HKC.out, ba_cat, ba_cat]
  rfl
end Go.Proofs.YtpemajghaceegaaGreatDoor
