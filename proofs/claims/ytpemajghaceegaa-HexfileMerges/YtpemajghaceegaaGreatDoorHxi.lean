/- What textOfMos answers. -/
import Derived.Test.YtpemajghaceegaaGreatDoorHxg
namespace Go.Proofs.YtpemajghaceegaaGreatDoor
open Go.RowKit
set_option linter.unusedVariables false

set_option maxRecDepth 100000 in
set_option maxHeartbeats 1600000 in
theorem textOfMos_any (K A : Nat) (hA : A < 65536) (v : Value) (d : List UInt8) (hd : d.length ≤ 255) (w : World) (h : ByAt w v d) :
    Calls Tryz.prog 75 #[.agg #[.int .i64 (K : Int), .int .i64 (A : Int), v]] w fun e w' => e = .returned (.string (bA (59 :: hexS (mosB A d)))) ∧ Below w.heap.size w w' := by
  have HBY := hidD h
  obtain ⟨a, cap, rfl⟩ := h.len
  obtain ⟨N, HN⟩ : ∃ N, Hid (d.length = N) := ⟨_, rfl⟩
  have HCT := hidD (fun w => counted_any (d.length) A (by omega) hA w)
  have HTT : Hid (∀ (v : Value) (l : List UInt8) (hl : l.length ≤ 1048576) (w : World) (h : ByAt w v l), Calls Tryz.prog 108 #[v] w fun e w' => e = .returned (.int .i64 (totS l : Int)) ∧ w' = w) := fun v l hl w h => total_any v l (by omega) w h
  have HID : Hid (∀ (v : Value) (l : List UInt8) (hl : l.length ≤ 1048576) (w : World) (h : ByAt w v l), Calls Tryz.prog 107 #[v] w fun e w' => e = .returned (.string (bA (hexS l))) ∧ Below w.heap.size w w') := fun v l hl w h => inDigits_any v l hl w h
  have HX1 := hidD (show mosB A d = ([UInt8.ofNat d.length, hiB A, loB A] ++ d) ++ [hiB (totS ([UInt8.ofNat d.length, hiB A, loB A] ++ d)), loB (totS ([UInt8.ofNat d.length, hiB A, loB A] ++ d))] from rfl)
  rw [HN.out] at hd HCT HX1 HBY ⊢
  obtain ⟨C, HC⟩ : ∃ C, Hid ([UInt8.ofNat N, hiB A, loB A] = C) := ⟨_, rfl⟩
  rw [HC.out] at HCT HX1
  have HCL : Hid (C.length = 3) := by show _ = _; rw [← HC.out]; rfl
  obtain ⟨T, HT⟩ : ∃ T, Hid (totS (C ++ d) = T) := ⟨_, rfl⟩
  have hT : T ≤ 1000000 := by
    have := tot_le (C ++ d)
    rw [HT.out, List.length_append, HCL.out, HN.out] at this
    omega
  rw [HT.out] at HX1
  have HTB := hidD (fun w => twoBytes_any T (by omega) w)
  have hbs : ((bA (hexS (mosB A d))).size : Int) ≤ 3000 := by rw [ba_size, hex_len, mos_len, HN.out]; omega
  have HBX := hidD (heap_alloc_last w (recO K A (.slice a N cap)))
  have HB1 := hidD ((Below.refl w.heap.size w).alloc (Nat.le_refl _) (recO K A (.slice a N cap)))
  go_enter Tryz.func75, Tryz.ntmps75
  go_wp2_with fail
  change Code.wp _ _ _ _ (w.alloc (recO K A (.slice a N cap)))
  have HBY1 := hidD (HBY.out.next HB1.out)
  generalize w.alloc (recO K A (.slice a N cap)) = W1 at *
  obtain ⟨r, HR⟩ : ∃ r, Hid (w.heap.size = r) := ⟨_, rfl⟩
  rw [HR.out] at HBX ⊢
  obtain ⟨k0, k1, k2⟩ := rec_box HBX.out
  have hrl : r < W1.heap.size := row_lt HBX.out
  have HKK : Hid (∀ w', Below W1.heap.size W1 w' → ∃ i : KB W1 [r], w' = i.v) := fun w' hb => ⟨⟨w', fun y hy => by rw [List.mem_singleton] at hy; subst hy; exact hb.block _ hrl⟩, rfl⟩
  have f0 : ∀ i : KB W1 [r], i.v.cell? ⟨r, 0, none⟩ = some (.int .i64 (K : Int)) := fun i => (i.cell (b := r) (by simp) _).trans k0
  have f1 : ∀ i : KB W1 [r], i.v.cell? ⟨r, 1, none⟩ = some (.int .i64 (A : Int)) := fun i => (i.cell (b := r) (by simp) _).trans k1
  have f2 : ∀ i : KB W1 [r], i.v.cell? ⟨r, 2, none⟩ = some (.slice a N cap) := fun i => (i.cell (b := r) (by simp) _).trans k2
  have HF := hidD hrl
  have HAL : Hid (∀ (w : World) o, Below w.heap.size w (w.alloc o)) := fun w o => (Below.refl _ _).alloc (Nat.le_refl _) o
  have HD0 : Hid (Below W1.heap.size W1 W1.drew) := below_drewN (Below.refl _ _) 1
  clear k0 k1 k2 hrl
  refine wp_region_seg [0, 0, 0, 0, 0, 1, 0, 0, 99, 99] 1 8 [r] (by kernel_rfl) (by kernel_rfl) (by kernel_rfl) (by kernel_rfl) (by kernel_rfl) (by kernel_rfl) (by kernel_rfl) (by kernel_rfl) (fun _ _ _ _ _ h => h) ?_
  simp only [SegW, pk, Nat.reduceMul, Nat.reduceAdd, Nat.reduceBEq, cond_true, cond_false]
  repeat (go_big_quiet_step (fail))
  refine wpQuiet_nil ?_
  go_wp2_with (go_at_call 106
               refine (HCT.out _).mono ?_
               rintro e w2 ⟨u2, rfl, hown, hb⟩
               have HO2 := hidD (row_mono hown (show W1.heap.size ≤ W1.drew.heap.size from HD0.out.size))
               have HB2 := hidD (Below.next HD0.out hb)
               obtain ⟨a2, c2, rfl⟩ := row_shape hown
               clear hown hb)
  refine ⟨HKK.out _ HB2.out, ?_⟩
  repeat (go_big_quiet_step (fail))
  refine wpQuiet_nil ?_
  go_wp2_with first
    | (go_at_call 107
       refine (HID.out v6 (mosB A d) HLZ.out w6 (by_of_own HO6.out)).mono ?_
       rintro e w7 ⟨rfl, hb⟩
       have HB7 := hidD (Below.next HB6.out hb)
       clear hb HID)
    | (at_builtin
       have hgo := HO5.out
       refine wpList_append_by rfl _ _ rfl W1.heap.size (.slice a5 n5 c5) n5 ((C ++ d).map encB) rfl (row_below HO5.out HB56.out) (.slice at_ 2 ct) [hiB T, loB T] rfl HYT.out (by have := HN5.out; simp; omega) HBT.out.size ?_
       intro v6 w6 hown6 hg6
       have HO6 : Hid (w6.ownsRow W1.heap.size 5 1 v6 (mosB A d).length ((mosB A d).map encB)) := by rw [HLY.out, HX1.out, List.map_append]; exact hown6
       have HB6 : Hid (Below W1.heap.size W1 w6) := row_grown (row_below HO5.out HB56.out) HBT.out hg6 HBT.out.size
       clear hgo hown6 hg6 HO5)
    | (go_at_call 111
       have hgo := HO5.out
       refine (HTB.out _).mono ?_
       rintro e wt ⟨ut, rfl, hown, hb⟩
       have HYT := hidD (by_of_own hown)
       have HB56 := hidD hb
       have HBT := hidD (Below.next HB5.out hb)
       obtain ⟨at_, ct, rfl⟩ := row_shape hown
       clear hgo hown hb HTB)
    | (go_at_call 108
       have hgo := HO5.out
       refine (HTT.out (.slice a5 n5 c5) (C ++ d) HL5.out w5 HY5.out).mono ?_
       rintro e wt ⟨rfl, hwt⟩
       subst wt
       rw [HT.out]
       clear hgo HTT)
    | (at_builtin
       have hgo := HO2.out
       refine wpList_append_by rfl _ _ rfl W1.heap.size (.slice a2 3 c2) 3 (C.map encB) rfl HO2.out (.slice a N cap) d rfl (HBY1.out.next HB2.out) (by rw [HN.out]; omega) HB2.out.size ?_
       intro v5 w5 hown5 hg5
       rw [← List.map_append] at hown5
       obtain ⟨n5, hn5⟩ : ∃ n5, 3 + d.length = n5 := ⟨_, rfl⟩
       rw [hn5] at hown5
       have HN5 : Hid (n5 = N + 3) := by have := HN.out; show _ = _; omega
       have HO5 := hidD hown5
       have HY5 : Hid (ByAt w5 v5 (C ++ d)) := by
         have hl : (C ++ d).length = n5 := by rw [← hn5, List.length_append, HCL.out]
         exact by_of_own (by rw [hl]; exact hown5)
       have HB5 : Hid (Below W1.heap.size W1 w5) := row_grown HO2.out HB2.out hg5 HB2.out.size
       have m0 : w5.cell? ⟨r, 0, none⟩ = some (.int .i64 (K : Int)) := (HB5.out.cell (p := ⟨r, 0, none⟩) HF.out).trans (rec_box HBX.out).1
       have HLY : Hid ((mosB A d).length = n5 + 2) := by show _ = _; rw [mos_len, ← hn5]; omega
       have HLZ : Hid ((mosB A d).length ≤ 1048576) := by show _ ≤ _; rw [mos_len, HN.out]; omega
       have HL5 : Hid ((C ++ d).length ≤ 1048576) := by show _ ≤ _; rw [List.length_append, HCL.out, HN.out]; omega
       obtain ⟨a5, c5, rfl⟩ := row_shape hown5
       clear hgo hn5 hown5 hg5 HO2)
  go_ret
  exact ⟨congrArg (fun z => Ending.returned (Value.string z)) (ba_cat [59] (hexS (mosB A d))), (HB1.out.trans (HB7.out.mono HB1.out.size))⟩
end Go.Proofs.YtpemajghaceegaaGreatDoor
