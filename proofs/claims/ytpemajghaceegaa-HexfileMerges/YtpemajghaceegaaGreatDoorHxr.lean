/- What Record answers. -/
import Derived.Test.YtpemajghaceegaaGreatDoorHxq
namespace Go.Proofs.YtpemajghaceegaaGreatDoor
open Go.RowKit
set_option linter.unusedVariables false

/- what Record tells -/
def RecIs (f k a : Int) (d : List UInt8) (e : Ending) (w w' : World) : Prop :=
  Below w.heap.size w w' ∧ (mayS f k a d = true → ∃ F K A : Nat, f = F ∧ k = K ∧ a = A ∧ e = .returned (.tuple #[.string (bA (recS F K A d)), .int .i64 0])) ∧ (mayS f k a d = false → e = .returned (.tuple #[.string (bA []), .int .i64 1]))
set_option maxRecDepth 100000 in
set_option maxHeartbeats 1600000 in
theorem RecordNo_any (f k a : Int) (v : Value) (d : List UInt8) (hf : ¬ (1 ≤ f ∧ f ≤ 3)) (w : World) :
    Calls Tryz.prog 16 #[.int .i64 f, .int .i64 k, .int .i64 a, v] w fun e w' => RecIs f k a d e w w' := by
  have HIF := hidD (fun w => isFormat_any f w)
  rw [decide_eq_false hf] at HIF
  have HMN := hidD (may_none f k a d hf)
  clear hf
  go_enter Tryz.func16, Tryz.ntmps16
  go_wp2_with fail
  go_at_call 36
  refine (HIF.out _).mono ?_
  rintro e w2 ⟨rfl, hw2⟩
  subst w2
  go_wp2_with fail
  go_ret2
  exact ⟨Below.refl _ _, fun h => (by rw [HMN.out] at h; cases h), fun _ => rfl⟩
set_option maxRecDepth 100000 in
set_option maxHeartbeats 3200000 in
theorem RecordIntel_any (k a : Int) (v : Value) (d : List UInt8) (hd : d.length ≤ 9223372036854775807) (w : World) (h : ByAt w v d) :
    Calls Tryz.prog 16 #[.int .i64 1, .int .i64 k, .int .i64 a, v] w fun e w' => RecIs 1 k a d e w w' := by
  have HIF := hidD (fun w => isFormat_any 1 w)
  change Hid (∀ w, Calls _ _ _ w fun e w' => e = .returned (.bool true) ∧ w' = w) at HIF
  have HFO := hidD (fun w => formats_any w)
  have HHA := hidD (fun (v : Value) (w : World) (h : ByAt w v d) => hasIntel_any k a v d hd w h)
  have HBY := hidD h
  obtain ⟨va, vc, rfl⟩ := h.len
  obtain ⟨N, HN⟩ : ∃ N, Hid (d.length = N) := ⟨_, rfl⟩
  rw [HN.out] at HBY hd ⊢
  clear h
  obtain ⟨hz, hsz3⟩ := zero_of_info Tryz.zeroRec
  cases hm : mayS 1 k a d with
  | false =>
    rw [hm] at HHA
    have HM := hidD hm
    clear hm
    go_enter Tryz.func16, Tryz.ntmps16
    go_wp2_with fail
    go_at_call 36
    refine (HIF.out _).mono ?_
    rintro e w2 ⟨rfl, hw2⟩
    subst w2
    go_wp2_with fail
    go_at_call 37
    refine (HFO.out _).mono ?_
    rintro e w1 ⟨g, rfl, hT, hge, hb⟩
    have HT1 := hidD hT
    have HB1 := hidD hb
    clear hT hge hb HFO HIF
    have t0 := tab_cells HT1.out 9
    have t1 := tab_cells HT1.out 10
    have t2 := tab_cells HT1.out 11
    have t3 := tab_cells HT1.out 12
    have t4 := tab_cells HT1.out 13
    have t5 := tab_cells HT1.out 14
    have t6 := tab_cells HT1.out 15
    have t7 := tab_cells HT1.out 16
    have t8 := tab_cells HT1.out 17
    simp only [fmL, fnV, List.cons_append, List.nil_append, List.getElem?_cons_succ, List.getElem?_cons_zero] at t0 t1 t2 t3 t4 t5 t6 t7 t8
    go_wp2_with fail
    clear t0 t1 t2 t3 t4 t5 t6 t7 t8
    have HA1 := hidD ((Below.refl w1.heap.size w1).alloc (Nat.le_refl _) (.cells #[.int .i64 255, .int .i64 0, .bool true, .func (.func 62) #[] #[], .func (.func 63) #[] #[], .func (.func 64) #[] #[], .func (.func 65) #[] #[], .func (.func 66) #[] #[], .func (.func 67) #[] #[]] (76 : TypeId)))
    have HA2 := hidD ((Below.refl (w1.alloc (.cells #[.int .i64 255, .int .i64 0, .bool true, .func (.func 62) #[] #[], .func (.func 63) #[] #[], .func (.func 64) #[] #[], .func (.func 65) #[] #[], .func (.func 66) #[] #[], .func (.func 67) #[] #[]] (76 : TypeId))).heap.size (w1.alloc (.cells #[.int .i64 255, .int .i64 0, .bool true, .func (.func 62) #[] #[], .func (.func 63) #[] #[], .func (.func 64) #[] #[], .func (.func 65) #[] #[], .func (.func 66) #[] #[], .func (.func 67) #[] #[]] (76 : TypeId)))).alloc (Nat.le_refl _) (.cells #[.int .i64 k, .int .i64 a, .slice va N vc] (80 : TypeId)))
    have HQ := hidD ((HA2.out.block _ (row_lt (heap_alloc_last w1 (.cells #[.int .i64 255, .int .i64 0, .bool true, .func (.func 62) #[] #[], .func (.func 63) #[] #[], .func (.func 64) #[] #[], .func (.func 65) #[] #[], .func (.func 66) #[] #[], .func (.func 67) #[] #[]] (76 : TypeId))))).trans (heap_alloc_last w1 (.cells #[.int .i64 255, .int .i64 0, .bool true, .func (.func 62) #[] #[], .func (.func 63) #[] #[], .func (.func 64) #[] #[], .func (.func 65) #[] #[], .func (.func 66) #[] #[], .func (.func 67) #[] #[]] (76 : TypeId))))
    have HX := hidD (heap_alloc_last (w1.alloc (.cells #[.int .i64 255, .int .i64 0, .bool true, .func (.func 62) #[] #[], .func (.func 63) #[] #[], .func (.func 64) #[] #[], .func (.func 65) #[] #[], .func (.func 66) #[] #[], .func (.func 67) #[] #[]] (76 : TypeId))) (.cells #[.int .i64 k, .int .i64 a, .slice va N vc] (80 : TypeId)))
    have hsz1 : (w1.alloc (.cells #[.int .i64 255, .int .i64 0, .bool true, .func (.func 62) #[] #[], .func (.func 63) #[] #[], .func (.func 64) #[] #[], .func (.func 65) #[] #[], .func (.func 66) #[] #[], .func (.func 67) #[] #[]] (76 : TypeId))).heap.size = w1.heap.size + 1 := by simp
    rw [hsz1] at HX
    have HB3 := hidD (Below.next (Below.next HB1.out HA1.out) HA2.out)
    have HY3 := hidD (HBY.out.next HB3.out)
    clear HA1 HA2 hsz1
    generalize (w1.alloc (.cells #[.int .i64 255, .int .i64 0, .bool true, .func (.func 62) #[] #[], .func (.func 63) #[] #[], .func (.func 64) #[] #[], .func (.func 65) #[] #[], .func (.func 66) #[] #[], .func (.func 67) #[] #[]] (76 : TypeId))).alloc (.cells #[.int .i64 k, .int .i64 a, .slice va N vc] (80 : TypeId)) = W3 at *
    go_at_call 38
    refine (HHA.out _ _ HY3.out).mono ?_
    rintro e w4 ⟨rfl, hb⟩
    have HB4 := hidD (Below.next HB3.out hb)
    have HQ4 := hidD ((hb.block _ (row_lt HQ.out)).trans HQ.out)
    have HX4 := hidD ((hb.block _ (row_lt HX.out)).trans HX.out)
    have HY4 := hidD (HY3.out.next hb)
    clear hb HHA HQ HX
    go_wp2_with fail
    go_ret2
    exact ⟨HB4.out, fun h => (by rw [HM.out] at h; cases h), fun _ => rfl⟩
  | true =>
    rw [hm] at HHA
    obtain ⟨F', K, A, e1, rfl, rfl, hf, hA, hd2, g1, g2, g3⟩ := may_num hm
    obtain rfl : F' = 1 := by omega
    rw [HN.out] at hd2 g2
    have HM := hidD hm
    have HTX := hidD (fun (w : World) (h : ByAt w (.slice va N vc) d) => textOfIntel_any K A (by have := g1 rfl; omega) hA _ d (by have := HN.out; omega) w h)
    clear hm e1 hf hA g1 g2 g3
    go_enter Tryz.func16, Tryz.ntmps16
    go_wp2_with fail
    go_at_call 36
    refine (HIF.out _).mono ?_
    rintro e w2 ⟨rfl, hw2⟩
    subst w2
    go_wp2_with fail
    go_at_call 37
    refine (HFO.out _).mono ?_
    rintro e w1 ⟨g, rfl, hT, hge, hb⟩
    have HT1 := hidD hT
    have HB1 := hidD hb
    clear hT hge hb HFO HIF
    have t0 := tab_cells HT1.out 9
    have t1 := tab_cells HT1.out 10
    have t2 := tab_cells HT1.out 11
    have t3 := tab_cells HT1.out 12
    have t4 := tab_cells HT1.out 13
    have t5 := tab_cells HT1.out 14
    have t6 := tab_cells HT1.out 15
    have t7 := tab_cells HT1.out 16
    have t8 := tab_cells HT1.out 17
    simp only [fmL, fnV, List.cons_append, List.nil_append, List.getElem?_cons_succ, List.getElem?_cons_zero] at t0 t1 t2 t3 t4 t5 t6 t7 t8
    go_wp2_with fail
    clear t0 t1 t2 t3 t4 t5 t6 t7 t8
    have HA1 := hidD ((Below.refl w1.heap.size w1).alloc (Nat.le_refl _) (.cells #[.int .i64 255, .int .i64 0, .bool true, .func (.func 62) #[] #[], .func (.func 63) #[] #[], .func (.func 64) #[] #[], .func (.func 65) #[] #[], .func (.func 66) #[] #[], .func (.func 67) #[] #[]] (76 : TypeId)))
    have HA2 := hidD ((Below.refl (w1.alloc (.cells #[.int .i64 255, .int .i64 0, .bool true, .func (.func 62) #[] #[], .func (.func 63) #[] #[], .func (.func 64) #[] #[], .func (.func 65) #[] #[], .func (.func 66) #[] #[], .func (.func 67) #[] #[]] (76 : TypeId))).heap.size (w1.alloc (.cells #[.int .i64 255, .int .i64 0, .bool true, .func (.func 62) #[] #[], .func (.func 63) #[] #[], .func (.func 64) #[] #[], .func (.func 65) #[] #[], .func (.func 66) #[] #[], .func (.func 67) #[] #[]] (76 : TypeId)))).alloc (Nat.le_refl _) (.cells #[.int .i64 (K : Int), .int .i64 (A : Int), .slice va N vc] (80 : TypeId)))
    have HQ := hidD ((HA2.out.block _ (row_lt (heap_alloc_last w1 (.cells #[.int .i64 255, .int .i64 0, .bool true, .func (.func 62) #[] #[], .func (.func 63) #[] #[], .func (.func 64) #[] #[], .func (.func 65) #[] #[], .func (.func 66) #[] #[], .func (.func 67) #[] #[]] (76 : TypeId))))).trans (heap_alloc_last w1 (.cells #[.int .i64 255, .int .i64 0, .bool true, .func (.func 62) #[] #[], .func (.func 63) #[] #[], .func (.func 64) #[] #[], .func (.func 65) #[] #[], .func (.func 66) #[] #[], .func (.func 67) #[] #[]] (76 : TypeId))))
    have HX := hidD (heap_alloc_last (w1.alloc (.cells #[.int .i64 255, .int .i64 0, .bool true, .func (.func 62) #[] #[], .func (.func 63) #[] #[], .func (.func 64) #[] #[], .func (.func 65) #[] #[], .func (.func 66) #[] #[], .func (.func 67) #[] #[]] (76 : TypeId))) (.cells #[.int .i64 (K : Int), .int .i64 (A : Int), .slice va N vc] (80 : TypeId)))
    have hsz1 : (w1.alloc (.cells #[.int .i64 255, .int .i64 0, .bool true, .func (.func 62) #[] #[], .func (.func 63) #[] #[], .func (.func 64) #[] #[], .func (.func 65) #[] #[], .func (.func 66) #[] #[], .func (.func 67) #[] #[]] (76 : TypeId))).heap.size = w1.heap.size + 1 := by simp
    rw [hsz1] at HX
    have HB3 := hidD (Below.next (Below.next HB1.out HA1.out) HA2.out)
    have HY3 := hidD (HBY.out.next HB3.out)
    clear HA1 HA2 hsz1
    generalize (w1.alloc (.cells #[.int .i64 255, .int .i64 0, .bool true, .func (.func 62) #[] #[], .func (.func 63) #[] #[], .func (.func 64) #[] #[], .func (.func 65) #[] #[], .func (.func 66) #[] #[], .func (.func 67) #[] #[]] (76 : TypeId))).alloc (.cells #[.int .i64 (K : Int), .int .i64 (A : Int), .slice va N vc] (80 : TypeId)) = W3 at *
    go_at_call 38
    refine (HHA.out _ _ HY3.out).mono ?_
    rintro e w4 ⟨rfl, hb⟩
    have HB4 := hidD (Below.next HB3.out hb)
    have HQ4 := hidD ((hb.block _ (row_lt HQ.out)).trans HQ.out)
    have HX4 := hidD ((hb.block _ (row_lt HX.out)).trans HX.out)
    have HY4 := hidD (HY3.out.next hb)
    clear hb HHA HQ HX
    have q4 := cell_of_row _ _ 4 _ _ _ HQ4.out
    simp only [List.getElem?_toArray, List.getElem?_cons_succ, List.getElem?_cons_zero] at q4
    obtain ⟨y0, y1, y2⟩ := rec_box (k := K) (a := A) HX4.out
    go_wp2_with fail
    go_at_call 63
    refine (HTX.out _ HY4.out).mono ?_
    rintro e w5 ⟨rfl, hb⟩
    have HB5 := hidD (Below.next HB4.out hb)
    clear hb
    go_wp2_with fail
    go_ret2
    exact ⟨HB5.out, fun _ => ⟨1, K, A, rfl, rfl, rfl, rfl⟩, fun h => (by rw [HM.out] at h; cases h)⟩
set_option maxRecDepth 100000 in
set_option maxHeartbeats 3200000 in
theorem RecordMotorola_any (k a : Int) (v : Value) (d : List UInt8) (hd : d.length ≤ 9223372036854775807) (w : World) (h : ByAt w v d) :
    Calls Tryz.prog 16 #[.int .i64 2, .int .i64 k, .int .i64 a, v] w fun e w' => RecIs 2 k a d e w w' := by
  have HIF := hidD (fun w => isFormat_any 2 w)
  change Hid (∀ w, Calls _ _ _ w fun e w' => e = .returned (.bool true) ∧ w' = w) at HIF
  have HFO := hidD (fun w => formats_any w)
  have HHA := hidD (fun (v : Value) (w : World) (h : ByAt w v d) => hasMotorola_any k a v d hd w h)
  have HBY := hidD h
  obtain ⟨va, vc, rfl⟩ := h.len
  obtain ⟨N, HN⟩ : ∃ N, Hid (d.length = N) := ⟨_, rfl⟩
  rw [HN.out] at HBY hd ⊢
  clear h
  obtain ⟨hz, hsz3⟩ := zero_of_info Tryz.zeroRec
  cases hm : mayS 2 k a d with
  | false =>
    rw [hm] at HHA
    have HM := hidD hm
    clear hm
    go_enter Tryz.func16, Tryz.ntmps16
    go_wp2_with fail
    go_at_call 36
    refine (HIF.out _).mono ?_
    rintro e w2 ⟨rfl, hw2⟩
    subst w2
    go_wp2_with fail
    go_at_call 37
    refine (HFO.out _).mono ?_
    rintro e w1 ⟨g, rfl, hT, hge, hb⟩
    have HT1 := hidD hT
    have HB1 := hidD hb
    clear hT hge hb HFO HIF
    have t0 := tab_cells HT1.out 18
    have t1 := tab_cells HT1.out 19
    have t2 := tab_cells HT1.out 20
    have t3 := tab_cells HT1.out 21
    have t4 := tab_cells HT1.out 22
    have t5 := tab_cells HT1.out 23
    have t6 := tab_cells HT1.out 24
    have t7 := tab_cells HT1.out 25
    have t8 := tab_cells HT1.out 26
    simp only [fmL, fnV, List.cons_append, List.nil_append, List.getElem?_cons_succ, List.getElem?_cons_zero] at t0 t1 t2 t3 t4 t5 t6 t7 t8
    go_wp2_with fail
    clear t0 t1 t2 t3 t4 t5 t6 t7 t8
    have HA1 := hidD ((Below.refl w1.heap.size w1).alloc (Nat.le_refl _) (.cells #[.int .i64 252, .int .i64 1, .bool true, .func (.func 68) #[] #[], .func (.func 69) #[] #[], .func (.func 70) #[] #[], .func (.func 71) #[] #[], .func (.func 72) #[] #[], .func (.func 73) #[] #[]] (76 : TypeId)))
    have HA2 := hidD ((Below.refl (w1.alloc (.cells #[.int .i64 252, .int .i64 1, .bool true, .func (.func 68) #[] #[], .func (.func 69) #[] #[], .func (.func 70) #[] #[], .func (.func 71) #[] #[], .func (.func 72) #[] #[], .func (.func 73) #[] #[]] (76 : TypeId))).heap.size (w1.alloc (.cells #[.int .i64 252, .int .i64 1, .bool true, .func (.func 68) #[] #[], .func (.func 69) #[] #[], .func (.func 70) #[] #[], .func (.func 71) #[] #[], .func (.func 72) #[] #[], .func (.func 73) #[] #[]] (76 : TypeId)))).alloc (Nat.le_refl _) (.cells #[.int .i64 k, .int .i64 a, .slice va N vc] (80 : TypeId)))
    have HQ := hidD ((HA2.out.block _ (row_lt (heap_alloc_last w1 (.cells #[.int .i64 252, .int .i64 1, .bool true, .func (.func 68) #[] #[], .func (.func 69) #[] #[], .func (.func 70) #[] #[], .func (.func 71) #[] #[], .func (.func 72) #[] #[], .func (.func 73) #[] #[]] (76 : TypeId))))).trans (heap_alloc_last w1 (.cells #[.int .i64 252, .int .i64 1, .bool true, .func (.func 68) #[] #[], .func (.func 69) #[] #[], .func (.func 70) #[] #[], .func (.func 71) #[] #[], .func (.func 72) #[] #[], .func (.func 73) #[] #[]] (76 : TypeId))))
    have HX := hidD (heap_alloc_last (w1.alloc (.cells #[.int .i64 252, .int .i64 1, .bool true, .func (.func 68) #[] #[], .func (.func 69) #[] #[], .func (.func 70) #[] #[], .func (.func 71) #[] #[], .func (.func 72) #[] #[], .func (.func 73) #[] #[]] (76 : TypeId))) (.cells #[.int .i64 k, .int .i64 a, .slice va N vc] (80 : TypeId)))
    have hsz1 : (w1.alloc (.cells #[.int .i64 252, .int .i64 1, .bool true, .func (.func 68) #[] #[], .func (.func 69) #[] #[], .func (.func 70) #[] #[], .func (.func 71) #[] #[], .func (.func 72) #[] #[], .func (.func 73) #[] #[]] (76 : TypeId))).heap.size = w1.heap.size + 1 := by simp
    rw [hsz1] at HX
    have HB3 := hidD (Below.next (Below.next HB1.out HA1.out) HA2.out)
    have HY3 := hidD (HBY.out.next HB3.out)
    clear HA1 HA2 hsz1
    generalize (w1.alloc (.cells #[.int .i64 252, .int .i64 1, .bool true, .func (.func 68) #[] #[], .func (.func 69) #[] #[], .func (.func 70) #[] #[], .func (.func 71) #[] #[], .func (.func 72) #[] #[], .func (.func 73) #[] #[]] (76 : TypeId))).alloc (.cells #[.int .i64 k, .int .i64 a, .slice va N vc] (80 : TypeId)) = W3 at *
    go_at_call 38
    refine (HHA.out _ _ HY3.out).mono ?_
    rintro e w4 ⟨rfl, hb⟩
    have HB4 := hidD (Below.next HB3.out hb)
    have HQ4 := hidD ((hb.block _ (row_lt HQ.out)).trans HQ.out)
    have HX4 := hidD ((hb.block _ (row_lt HX.out)).trans HX.out)
    have HY4 := hidD (HY3.out.next hb)
    clear hb HHA HQ HX
    go_wp2_with fail
    go_ret2
    exact ⟨HB4.out, fun h => (by rw [HM.out] at h; cases h), fun _ => rfl⟩
  | true =>
    rw [hm] at HHA
    obtain ⟨F', K, A, e1, rfl, rfl, hf, hA, hd2, g1, g2, g3⟩ := may_num hm
    obtain rfl : F' = 2 := by omega
    rw [HN.out] at hd2 g2
    have HM := hidD hm
    have HTX := hidD (fun (w : World) (h : ByAt w (.slice va N vc) d) => textOfMotorola_any K A (by have := (g2 rfl).1; omega) hA _ d (by have := (g2 rfl).2; have := HN.out; omega) w h)
    clear hm e1 hf hA g1 g2 g3
    go_enter Tryz.func16, Tryz.ntmps16
    go_wp2_with fail
    go_at_call 36
    refine (HIF.out _).mono ?_
    rintro e w2 ⟨rfl, hw2⟩
    subst w2
    go_wp2_with fail
    go_at_call 37
    refine (HFO.out _).mono ?_
    rintro e w1 ⟨g, rfl, hT, hge, hb⟩
    have HT1 := hidD hT
    have HB1 := hidD hb
    clear hT hge hb HFO HIF
    have t0 := tab_cells HT1.out 18
    have t1 := tab_cells HT1.out 19
    have t2 := tab_cells HT1.out 20
    have t3 := tab_cells HT1.out 21
    have t4 := tab_cells HT1.out 22
    have t5 := tab_cells HT1.out 23
    have t6 := tab_cells HT1.out 24
    have t7 := tab_cells HT1.out 25
    have t8 := tab_cells HT1.out 26
    simp only [fmL, fnV, List.cons_append, List.nil_append, List.getElem?_cons_succ, List.getElem?_cons_zero] at t0 t1 t2 t3 t4 t5 t6 t7 t8
    go_wp2_with fail
    clear t0 t1 t2 t3 t4 t5 t6 t7 t8
    have HA1 := hidD ((Below.refl w1.heap.size w1).alloc (Nat.le_refl _) (.cells #[.int .i64 252, .int .i64 1, .bool true, .func (.func 68) #[] #[], .func (.func 69) #[] #[], .func (.func 70) #[] #[], .func (.func 71) #[] #[], .func (.func 72) #[] #[], .func (.func 73) #[] #[]] (76 : TypeId)))
    have HA2 := hidD ((Below.refl (w1.alloc (.cells #[.int .i64 252, .int .i64 1, .bool true, .func (.func 68) #[] #[], .func (.func 69) #[] #[], .func (.func 70) #[] #[], .func (.func 71) #[] #[], .func (.func 72) #[] #[], .func (.func 73) #[] #[]] (76 : TypeId))).heap.size (w1.alloc (.cells #[.int .i64 252, .int .i64 1, .bool true, .func (.func 68) #[] #[], .func (.func 69) #[] #[], .func (.func 70) #[] #[], .func (.func 71) #[] #[], .func (.func 72) #[] #[], .func (.func 73) #[] #[]] (76 : TypeId)))).alloc (Nat.le_refl _) (.cells #[.int .i64 (K : Int), .int .i64 (A : Int), .slice va N vc] (80 : TypeId)))
    have HQ := hidD ((HA2.out.block _ (row_lt (heap_alloc_last w1 (.cells #[.int .i64 252, .int .i64 1, .bool true, .func (.func 68) #[] #[], .func (.func 69) #[] #[], .func (.func 70) #[] #[], .func (.func 71) #[] #[], .func (.func 72) #[] #[], .func (.func 73) #[] #[]] (76 : TypeId))))).trans (heap_alloc_last w1 (.cells #[.int .i64 252, .int .i64 1, .bool true, .func (.func 68) #[] #[], .func (.func 69) #[] #[], .func (.func 70) #[] #[], .func (.func 71) #[] #[], .func (.func 72) #[] #[], .func (.func 73) #[] #[]] (76 : TypeId))))
    have HX := hidD (heap_alloc_last (w1.alloc (.cells #[.int .i64 252, .int .i64 1, .bool true, .func (.func 68) #[] #[], .func (.func 69) #[] #[], .func (.func 70) #[] #[], .func (.func 71) #[] #[], .func (.func 72) #[] #[], .func (.func 73) #[] #[]] (76 : TypeId))) (.cells #[.int .i64 (K : Int), .int .i64 (A : Int), .slice va N vc] (80 : TypeId)))
    have hsz1 : (w1.alloc (.cells #[.int .i64 252, .int .i64 1, .bool true, .func (.func 68) #[] #[], .func (.func 69) #[] #[], .func (.func 70) #[] #[], .func (.func 71) #[] #[], .func (.func 72) #[] #[], .func (.func 73) #[] #[]] (76 : TypeId))).heap.size = w1.heap.size + 1 := by simp
    rw [hsz1] at HX
    have HB3 := hidD (Below.next (Below.next HB1.out HA1.out) HA2.out)
    have HY3 := hidD (HBY.out.next HB3.out)
    clear HA1 HA2 hsz1
    generalize (w1.alloc (.cells #[.int .i64 252, .int .i64 1, .bool true, .func (.func 68) #[] #[], .func (.func 69) #[] #[], .func (.func 70) #[] #[], .func (.func 71) #[] #[], .func (.func 72) #[] #[], .func (.func 73) #[] #[]] (76 : TypeId))).alloc (.cells #[.int .i64 (K : Int), .int .i64 (A : Int), .slice va N vc] (80 : TypeId)) = W3 at *
    go_at_call 38
    refine (HHA.out _ _ HY3.out).mono ?_
    rintro e w4 ⟨rfl, hb⟩
    have HB4 := hidD (Below.next HB3.out hb)
    have HQ4 := hidD ((hb.block _ (row_lt HQ.out)).trans HQ.out)
    have HX4 := hidD ((hb.block _ (row_lt HX.out)).trans HX.out)
    have HY4 := hidD (HY3.out.next hb)
    clear hb HHA HQ HX
    have q4 := cell_of_row _ _ 4 _ _ _ HQ4.out
    simp only [List.getElem?_toArray, List.getElem?_cons_succ, List.getElem?_cons_zero] at q4
    obtain ⟨y0, y1, y2⟩ := rec_box (k := K) (a := A) HX4.out
    go_wp2_with fail
    go_at_call 69
    refine (HTX.out _ HY4.out).mono ?_
    rintro e w5 ⟨rfl, hb⟩
    have HB5 := hidD (Below.next HB4.out hb)
    clear hb
    go_wp2_with fail
    go_ret2
    exact ⟨HB5.out, fun _ => ⟨2, K, A, rfl, rfl, rfl, rfl⟩, fun h => (by rw [HM.out] at h; cases h)⟩
set_option maxRecDepth 100000 in
set_option maxHeartbeats 3200000 in
theorem RecordMos_any (k a : Int) (v : Value) (d : List UInt8) (hd : d.length ≤ 9223372036854775807) (w : World) (h : ByAt w v d) :
    Calls Tryz.prog 16 #[.int .i64 3, .int .i64 k, .int .i64 a, v] w fun e w' => RecIs 3 k a d e w w' := by
  have HIF := hidD (fun w => isFormat_any 3 w)
  change Hid (∀ w, Calls _ _ _ w fun e w' => e = .returned (.bool true) ∧ w' = w) at HIF
  have HFO := hidD (fun w => formats_any w)
  have HHA := hidD (fun (v : Value) (w : World) (h : ByAt w v d) => hasMos_any k a v d hd w h)
  have HBY := hidD h
  obtain ⟨va, vc, rfl⟩ := h.len
  obtain ⟨N, HN⟩ : ∃ N, Hid (d.length = N) := ⟨_, rfl⟩
  rw [HN.out] at HBY hd ⊢
  clear h
  obtain ⟨hz, hsz3⟩ := zero_of_info Tryz.zeroRec
  cases hm : mayS 3 k a d with
  | false =>
    rw [hm] at HHA
    have HM := hidD hm
    clear hm
    go_enter Tryz.func16, Tryz.ntmps16
    go_wp2_with fail
    go_at_call 36
    refine (HIF.out _).mono ?_
    rintro e w2 ⟨rfl, hw2⟩
    subst w2
    go_wp2_with fail
    go_at_call 37
    refine (HFO.out _).mono ?_
    rintro e w1 ⟨g, rfl, hT, hge, hb⟩
    have HT1 := hidD hT
    have HB1 := hidD hb
    clear hT hge hb HFO HIF
    have t0 := tab_cells HT1.out 27
    have t1 := tab_cells HT1.out 28
    have t2 := tab_cells HT1.out 29
    have t3 := tab_cells HT1.out 30
    have t4 := tab_cells HT1.out 31
    have t5 := tab_cells HT1.out 32
    have t6 := tab_cells HT1.out 33
    have t7 := tab_cells HT1.out 34
    have t8 := tab_cells HT1.out 35
    simp only [fmL, fnV, List.cons_append, List.nil_append, List.getElem?_cons_succ, List.getElem?_cons_zero] at t0 t1 t2 t3 t4 t5 t6 t7 t8
    go_wp2_with fail
    clear t0 t1 t2 t3 t4 t5 t6 t7 t8
    have HA1 := hidD ((Below.refl w1.heap.size w1).alloc (Nat.le_refl _) (.cells #[.int .i64 255, .int .i64 0, .bool false, .func (.func 74) #[] #[], .func (.func 75) #[] #[], .func (.func 76) #[] #[], .func (.func 77) #[] #[], .func (.func 78) #[] #[], .func (.func 80) #[] #[]] (76 : TypeId)))
    have HA2 := hidD ((Below.refl (w1.alloc (.cells #[.int .i64 255, .int .i64 0, .bool false, .func (.func 74) #[] #[], .func (.func 75) #[] #[], .func (.func 76) #[] #[], .func (.func 77) #[] #[], .func (.func 78) #[] #[], .func (.func 80) #[] #[]] (76 : TypeId))).heap.size (w1.alloc (.cells #[.int .i64 255, .int .i64 0, .bool false, .func (.func 74) #[] #[], .func (.func 75) #[] #[], .func (.func 76) #[] #[], .func (.func 77) #[] #[], .func (.func 78) #[] #[], .func (.func 80) #[] #[]] (76 : TypeId)))).alloc (Nat.le_refl _) (.cells #[.int .i64 k, .int .i64 a, .slice va N vc] (80 : TypeId)))
    have HQ := hidD ((HA2.out.block _ (row_lt (heap_alloc_last w1 (.cells #[.int .i64 255, .int .i64 0, .bool false, .func (.func 74) #[] #[], .func (.func 75) #[] #[], .func (.func 76) #[] #[], .func (.func 77) #[] #[], .func (.func 78) #[] #[], .func (.func 80) #[] #[]] (76 : TypeId))))).trans (heap_alloc_last w1 (.cells #[.int .i64 255, .int .i64 0, .bool false, .func (.func 74) #[] #[], .func (.func 75) #[] #[], .func (.func 76) #[] #[], .func (.func 77) #[] #[], .func (.func 78) #[] #[], .func (.func 80) #[] #[]] (76 : TypeId))))
    have HX := hidD (heap_alloc_last (w1.alloc (.cells #[.int .i64 255, .int .i64 0, .bool false, .func (.func 74) #[] #[], .func (.func 75) #[] #[], .func (.func 76) #[] #[], .func (.func 77) #[] #[], .func (.func 78) #[] #[], .func (.func 80) #[] #[]] (76 : TypeId))) (.cells #[.int .i64 k, .int .i64 a, .slice va N vc] (80 : TypeId)))
    have hsz1 : (w1.alloc (.cells #[.int .i64 255, .int .i64 0, .bool false, .func (.func 74) #[] #[], .func (.func 75) #[] #[], .func (.func 76) #[] #[], .func (.func 77) #[] #[], .func (.func 78) #[] #[], .func (.func 80) #[] #[]] (76 : TypeId))).heap.size = w1.heap.size + 1 := by simp
    rw [hsz1] at HX
    have HB3 := hidD (Below.next (Below.next HB1.out HA1.out) HA2.out)
    have HY3 := hidD (HBY.out.next HB3.out)
    clear HA1 HA2 hsz1
    generalize (w1.alloc (.cells #[.int .i64 255, .int .i64 0, .bool false, .func (.func 74) #[] #[], .func (.func 75) #[] #[], .func (.func 76) #[] #[], .func (.func 77) #[] #[], .func (.func 78) #[] #[], .func (.func 80) #[] #[]] (76 : TypeId))).alloc (.cells #[.int .i64 k, .int .i64 a, .slice va N vc] (80 : TypeId)) = W3 at *
    go_at_call 38
    refine (HHA.out _ _ HY3.out).mono ?_
    rintro e w4 ⟨rfl, hb⟩
    have HB4 := hidD (Below.next HB3.out hb)
    have HQ4 := hidD ((hb.block _ (row_lt HQ.out)).trans HQ.out)
    have HX4 := hidD ((hb.block _ (row_lt HX.out)).trans HX.out)
    have HY4 := hidD (HY3.out.next hb)
    clear hb HHA HQ HX
    go_wp2_with fail
    go_ret2
    exact ⟨HB4.out, fun h => (by rw [HM.out] at h; cases h), fun _ => rfl⟩
  | true =>
    rw [hm] at HHA
    obtain ⟨F', K, A, e1, rfl, rfl, hf, hA, hd2, g1, g2, g3⟩ := may_num hm
    obtain rfl : F' = 3 := by omega
    rw [HN.out] at hd2 g2
    have HM := hidD hm
    have HTX := hidD (fun (w : World) (h : ByAt w (.slice va N vc) d) => textOfMos_any K A hA _ d (by have := HN.out; omega) w h)
    clear hm e1 hf hA g1 g2 g3
    go_enter Tryz.func16, Tryz.ntmps16
    go_wp2_with fail
    go_at_call 36
    refine (HIF.out _).mono ?_
    rintro e w2 ⟨rfl, hw2⟩
    subst w2
    go_wp2_with fail
    go_at_call 37
    refine (HFO.out _).mono ?_
    rintro e w1 ⟨g, rfl, hT, hge, hb⟩
    have HT1 := hidD hT
    have HB1 := hidD hb
    clear hT hge hb HFO HIF
    have t0 := tab_cells HT1.out 27
    have t1 := tab_cells HT1.out 28
    have t2 := tab_cells HT1.out 29
    have t3 := tab_cells HT1.out 30
    have t4 := tab_cells HT1.out 31
    have t5 := tab_cells HT1.out 32
    have t6 := tab_cells HT1.out 33
    have t7 := tab_cells HT1.out 34
    have t8 := tab_cells HT1.out 35
    simp only [fmL, fnV, List.cons_append, List.nil_append, List.getElem?_cons_succ, List.getElem?_cons_zero] at t0 t1 t2 t3 t4 t5 t6 t7 t8
    go_wp2_with fail
    clear t0 t1 t2 t3 t4 t5 t6 t7 t8
    have HA1 := hidD ((Below.refl w1.heap.size w1).alloc (Nat.le_refl _) (.cells #[.int .i64 255, .int .i64 0, .bool false, .func (.func 74) #[] #[], .func (.func 75) #[] #[], .func (.func 76) #[] #[], .func (.func 77) #[] #[], .func (.func 78) #[] #[], .func (.func 80) #[] #[]] (76 : TypeId)))
    have HA2 := hidD ((Below.refl (w1.alloc (.cells #[.int .i64 255, .int .i64 0, .bool false, .func (.func 74) #[] #[], .func (.func 75) #[] #[], .func (.func 76) #[] #[], .func (.func 77) #[] #[], .func (.func 78) #[] #[], .func (.func 80) #[] #[]] (76 : TypeId))).heap.size (w1.alloc (.cells #[.int .i64 255, .int .i64 0, .bool false, .func (.func 74) #[] #[], .func (.func 75) #[] #[], .func (.func 76) #[] #[], .func (.func 77) #[] #[], .func (.func 78) #[] #[], .func (.func 80) #[] #[]] (76 : TypeId)))).alloc (Nat.le_refl _) (.cells #[.int .i64 (K : Int), .int .i64 (A : Int), .slice va N vc] (80 : TypeId)))
    have HQ := hidD ((HA2.out.block _ (row_lt (heap_alloc_last w1 (.cells #[.int .i64 255, .int .i64 0, .bool false, .func (.func 74) #[] #[], .func (.func 75) #[] #[], .func (.func 76) #[] #[], .func (.func 77) #[] #[], .func (.func 78) #[] #[], .func (.func 80) #[] #[]] (76 : TypeId))))).trans (heap_alloc_last w1 (.cells #[.int .i64 255, .int .i64 0, .bool false, .func (.func 74) #[] #[], .func (.func 75) #[] #[], .func (.func 76) #[] #[], .func (.func 77) #[] #[], .func (.func 78) #[] #[], .func (.func 80) #[] #[]] (76 : TypeId))))
    have HX := hidD (heap_alloc_last (w1.alloc (.cells #[.int .i64 255, .int .i64 0, .bool false, .func (.func 74) #[] #[], .func (.func 75) #[] #[], .func (.func 76) #[] #[], .func (.func 77) #[] #[], .func (.func 78) #[] #[], .func (.func 80) #[] #[]] (76 : TypeId))) (.cells #[.int .i64 (K : Int), .int .i64 (A : Int), .slice va N vc] (80 : TypeId)))
    have hsz1 : (w1.alloc (.cells #[.int .i64 255, .int .i64 0, .bool false, .func (.func 74) #[] #[], .func (.func 75) #[] #[], .func (.func 76) #[] #[], .func (.func 77) #[] #[], .func (.func 78) #[] #[], .func (.func 80) #[] #[]] (76 : TypeId))).heap.size = w1.heap.size + 1 := by simp
    rw [hsz1] at HX
    have HB3 := hidD (Below.next (Below.next HB1.out HA1.out) HA2.out)
    have HY3 := hidD (HBY.out.next HB3.out)
    clear HA1 HA2 hsz1
    generalize (w1.alloc (.cells #[.int .i64 255, .int .i64 0, .bool false, .func (.func 74) #[] #[], .func (.func 75) #[] #[], .func (.func 76) #[] #[], .func (.func 77) #[] #[], .func (.func 78) #[] #[], .func (.func 80) #[] #[]] (76 : TypeId))).alloc (.cells #[.int .i64 (K : Int), .int .i64 (A : Int), .slice va N vc] (80 : TypeId)) = W3 at *
    go_at_call 38
    refine (HHA.out _ _ HY3.out).mono ?_
    rintro e w4 ⟨rfl, hb⟩
    have HB4 := hidD (Below.next HB3.out hb)
    have HQ4 := hidD ((hb.block _ (row_lt HQ.out)).trans HQ.out)
    have HX4 := hidD ((hb.block _ (row_lt HX.out)).trans HX.out)
    have HY4 := hidD (HY3.out.next hb)
    clear hb HHA HQ HX
    have q4 := cell_of_row _ _ 4 _ _ _ HQ4.out
    simp only [List.getElem?_toArray, List.getElem?_cons_succ, List.getElem?_cons_zero] at q4
    obtain ⟨y0, y1, y2⟩ := rec_box (k := K) (a := A) HX4.out
    go_wp2_with fail
    go_at_call 75
    refine (HTX.out _ HY4.out).mono ?_
    rintro e w5 ⟨rfl, hb⟩
    have HB5 := hidD (Below.next HB4.out hb)
    clear hb
    go_wp2_with fail
    go_ret2
    exact ⟨HB5.out, fun _ => ⟨3, K, A, rfl, rfl, rfl, rfl⟩, fun h => (by rw [HM.out] at h; cases h)⟩
theorem Record_any (f k a : Int) (v : Value) (d : List UInt8) (hd : d.length ≤ 9223372036854775807) (w : World) (h : ByAt w v d) :
    Calls Tryz.prog 16 #[.int .i64 f, .int .i64 k, .int .i64 a, v] w fun e w' => RecIs f k a d e w w' := by
  by_cases h1 : f = 1
  · subst h1; exact RecordIntel_any k a v d hd w h
  · by_cases h2 : f = 2
    · subst h2; exact RecordMotorola_any k a v d hd w h
    · by_cases h3 : f = 3
      · subst h3; exact RecordMos_any k a v d hd w h
      · exact RecordNo_any f k a v d (by omega) w
end Go.Proofs.YtpemajghaceegaaGreatDoor
