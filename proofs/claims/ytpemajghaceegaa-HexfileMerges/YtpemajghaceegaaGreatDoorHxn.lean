/- What splitMos answers. -/
import Derived.Test.YtpemajghaceegaaGreatDoorHxl
namespace Go.Proofs.YtpemajghaceegaaGreatDoor
open Go.RowKit
set_option linter.unusedVariables false

set_option maxRecDepth 100000 in
set_option maxHeartbeats 1600000 in
theorem splitMos_any (c : UInt8) (t : List UInt8) (ht : t.length ≤ 140737488355000) (w : World) :
    Calls Tryz.prog 76 #[.string (bA (c :: t))] w fun e w' => SpIs (match unS t with | none => .error 210 | some b => mosR b) e w w' := by
  have hex := ba_tail c t
  have hsz : (1 : Int) ≤ (bA (c :: t)).size := by rw [ba_size, List.length_cons]; omega
  have HBO := hidD (fun w => bytesOf_any t ht w)
  have HTT := hidD (fun (v : Value) (l : List UInt8) (hl : l.length ≤ 140737488355000) (w : World) (h : ByAt w v l) => total_any v l hl w h)
  have HNO := hidD (fun (v : Value) (l : List UInt8) (hl : 2 ≤ l.length) (w : World) (h : ByAt w v l) => numberOf_any v l hl w h)
  have HRO := hidD (fun n hn w => round_any n hn w)
  have HUL := hidD (fun b (h : unS t = some b) => un_len t b h)
  generalize bA (c :: t) = s at *
  obtain ⟨hz, hsz3⟩ := zero_of_info Tryz.zeroRec
  have HBX := hidD (heap_alloc_last w (.cells #[.int .i64 0, .int .i64 0, .slice none 0 0] (80 : TypeId)))
  have HB1 := hidD ((Below.refl w.heap.size w).alloc (Nat.le_refl _) (.cells #[.int .i64 0, .int .i64 0, .slice none 0 0] (80 : TypeId)))
  go_enter Tryz.func76, Tryz.ntmps76
  cases hu : unS t with
  | none =>
    go_wp2_with fail
    go_at_call 109
    refine (HBO.out _).mono ?_
    rintro e w2 ⟨a2, n2, c2, ok, rfl, h1, h2, hb⟩
    obtain rfl := h2 hu
    have HB2 := hidD (Below.next HB1.out hb)
    have HR2 := hidD ((hb.block _ (row_lt HBX.out)).trans HBX.out)
    obtain ⟨⟨d0, d1, d2⟩, f0, f1, f2⟩ := cells3 HR2.out
    clear h1 h2 hb HBO
    go_wp2_with fail
    refine bodyPost_ret (res_cell_tmp rfl _ _ w.heap.size _ _ _ (0, 0) rfl (set3 _ _ _ HR2.out)) rfl ?_
    exact ⟨below3 HB2.out (Nat.le_refl _) _ _ _, rfl⟩
  | some b =>
    obtain ⟨N, HN⟩ : ∃ N, Hid (b.length = N) := ⟨_, rfl⟩
    have HNT : Hid (N ≤ 140737488355000) := by have := HUL.out b hu; have := HN.out; show _ ≤ _; omega
    have hNT := HNT.out
    have HR := hidD (show mosR b = if b.length < 5 ∨ b.length ≠ (b.getD 0 0).toNat + 5 then .error 210 else if totS (b.take (b.length - 2)) % 65536 ≠ n2 b (b.length - 2) then .error 211 else .ok ((if (b.getD 0 0).toNat = 0 then 1 else 0), n2 b 1, (b.drop 3).take (b.length - 5)) from rfl)
    obtain ⟨x0, HX0⟩ : ∃ x0, Hid ((b.getD 0 0).toNat = x0) := ⟨_, rfl⟩
    have hx0 : x0 < 256 := by rw [← HX0.out]; exact (b.getD 0 0).toNat_lt
    rw [HN.out, HX0.out] at HR
    obtain ⟨T, HTE⟩ : ∃ T, Hid (totS (b.take (N - 2)) = T) := ⟨_, rfl⟩
    have HTL : Hid (T ≤ 72057594037927936) := by have := tot_le (b.take (N - 2)); rw [HTE.out, List.length_take, HN.out] at this; show _ ≤ _; omega
    have hTL := HTL.out
    have HT1 := hidD (fun v w h => HTT.out v (b.take (N - 2)) (by rw [List.length_take, HN.out]; have := HNT.out; omega) w h)
    rw [HTE.out] at HT1 HR
    clear HTT HUL
    by_cases c5 : N < 5
    · rw [if_pos (.inl c5)] at HR
      have c5i : (N : Int) < 5 := by omega
      have HC5 := hidD c5
      clear c5 HT1
      go_wp2_with fail
      go_at_call 109
      refine (HBO.out _).mono ?_
      rintro e w2 ⟨a2, n2, c2, ok, rfl, h1, h2, hb⟩
      obtain ⟨rfl, hown⟩ := h1 b hu
      have HB2 := hidD (Below.next HB1.out hb)
      have HR2 := hidD ((hb.block _ (row_lt HBX.out)).trans HBX.out)
      obtain ⟨⟨d0, d1, d2⟩, f0, f1, f2⟩ := cells3 HR2.out
      have HOG := hidD (fun g o (he : a2 = some ⟨g, o, none⟩) => own_ge (g := g) (o := o) (by rw [← he]; exact hown))
      obtain ⟨hn2, hnc, hc2, hcell⟩ := by_addr (by_of_own hown)
      rw [HN.out] at hn2
      subst hn2
      have HY2 : Hid (ByAt w2 (.slice a2 n2 c2) b) := by_of_own hown
      clear h1 h2 hb HBO hown hcell
      go_wp2_with fail
      refine bodyPost_ret (res_cell_tmp rfl _ _ w.heap.size _ _ _ (0, 0) rfl (set3 _ _ _ HR2.out)) rfl ?_
      rw [HR.out]
      exact ⟨below3 HB2.out (Nat.le_refl _) _ _ _, rfl⟩
    · have c5i : ¬ (N : Int) < 5 := by omega
      have c5d : decide ((N : Int) < 5) = false := decide_eq_false c5i
      have hn5 : (0 : Int) < N := by omega
      by_cases cn : N = x0 + 5
      · rw [if_neg (by omega)] at HR
        have cni : ((N : Int) != (x0 : Int) + 5) = false := by rw [int_neq, decide_eq_false]; omega
        have HCN := hidD cn
        clear cn
        go_wp2_with fail
        go_at_call 109
        refine (HBO.out _).mono ?_
        rintro e w2 ⟨a2, n2, c2, ok, rfl, h1, h2, hb⟩
        obtain ⟨rfl, hown⟩ := h1 b hu
        have HB2 := hidD (Below.next HB1.out hb)
        have HR2 := hidD ((hb.block _ (row_lt HBX.out)).trans HBX.out)
        obtain ⟨⟨d0, d1, d2⟩, f0, f1, f2⟩ := cells3 HR2.out
        have HOG := hidD (fun g o (he : a2 = some ⟨g, o, none⟩) => own_ge (g := g) (o := o) (by rw [← he]; exact hown))
        obtain ⟨hn2, hnc, hc2, hcell⟩ := by_addr (by_of_own hown)
        rw [HN.out] at hn2
        subst hn2
        have HY2 : Hid (ByAt w2 (.slice a2 n2 c2) b) := by_of_own hown
        obtain ⟨g, o, rfl, hg, hcc⟩ := hcell (by omega)
        have HGR : Hid (w.heap.size < g) := by have := HOG.out g o rfl; simp at this; show _ < _; omega
        have q0 := hcc 0 (by omega)
        rw [Nat.add_zero, HX0.out] at q0
        clear hcc
        clear h1 h2 hb HBO hown hcell
        go_wp2_with fail
        clear cni
        obtain ⟨E, HE⟩ : ∃ E, Hid (n2 = E + 2) := ⟨n2 - 2, by show _ = _; omega⟩
        have hE : (n2 : Int) - 2 = (E : Int) := by have := HE.out; omega
        have HEE : Hid (n2 - 2 = E) := by have := HE.out; show _ = _; omega
        rw [HEE.out] at HR HTE HT1
        have HS0 : Hid (ByAt w2 (.slice (some ⟨g, o, none⟩) E c2) (b.take E)) := by
          have h := by_sub HY2.out HN.out 0 E (by have := HE.out; omega) hnc hg
          show ByAt _ _ _
          simpa using h
        have HSE : Hid (ByAt w2 (.slice (some ⟨g, o + E, none⟩) 2 (c2 - E)) ((b.drop E).take 2)) := by_sub HY2.out HN.out E 2 (by have := HE.out; omega) hnc hg
        have HS1 := hidD (by_sub HY2.out HN.out 1 2 (by omega) hnc hg)
        have HS4 := hidD (by_sub HY2.out HN.out 3 (n2 - 5) (by omega) hnc hg)
        have HN1 := hidD (n2_sub b 1 1 (by rw [HN.out]; omega))
        have HNE := hidD (n2_sub b E 1 (by rw [HN.out]; have := HE.out; omega))
        have HNO1 := hidD (fun w3 (hb : Below w2.heap.size w2 w3) => HNO.out _ _ (by rw [List.length_take, List.length_drop, HN.out]; omega) w3 (HS1.out.next hb))
        have HNOE := hidD (fun w3 (hb : Below w2.heap.size w2 w3) => HNO.out _ _ (by rw [List.length_take, List.length_drop, HN.out]; have := HE.out; omega) w3 (HSE.out.next hb))
        rw [HN1.out] at HNO1
        rw [HNE.out] at HNOE
        generalize Go.Proofs.YtpemajghaceegaaGreatDoor.n2 b 1 = at1 at *
        generalize Go.Proofs.YtpemajghaceegaaGreatDoor.n2 b E = atE at *
        clear HNO
        have hE1 : (E : Int) ≤ n2 := by have := HE.out; omega
        have hE2 : (E : Int) ≤ c2 := by omega
        have HD0 : Hid (Below w2.heap.size w2 w2.drew) := below_drewN (Below.refl _ _) 1
        have HKK : Hid (∀ w', Below w2.heap.size w2 w' → ∃ i : KB w2 [g, w.heap.size], w' = i.v) := fun w' hb => ⟨⟨w', fun y hy => by
            simp only [List.mem_cons, List.not_mem_nil, or_false] at hy
            rcases hy with rfl | rfl
            · exact hb.block _ hg
            · exact hb.block _ (row_lt HR2.out)⟩, rfl⟩
        have hsub : n2 - E = 2 := by have := HE.out; omega
        have HQ0 := hidD q0
        have HRO1 := hidD (fun w => HRO.out T (by have := HTL.out; omega) w)
        obtain ⟨R, HRR⟩ : ∃ R, Hid (T % 65536 = R) := ⟨_, rfl⟩
        rw [HRR.out] at HR HRO1
        clear q0 d0 d1 d2 f0 f1 f2 HRO
        by_cases ct : R = atE
        · rw [if_neg (fun h => h ct)] at HR
          have cti : ((R : Int) != (atE : Int)) = false := by rw [int_neq, decide_eq_false]; omega
          clear ct
          by_cases cx : x0 = 0
          · rw [if_pos cx] at HR
            have cxi : ((x0 : Int) == 0) = true := by rw [beq_iff_eq]; omega
            clear cx
            refine wp_region_seg [0, 0, 0, 1, 3, 0, 0, 0, 5, 6] 3 10 [g, w.heap.size] (by kernel_rfl) (by kernel_rfl) (by kernel_rfl) (by kernel_rfl) (by kernel_rfl) (by kernel_rfl) (by kernel_rfl) (by kernel_rfl) (fun _ _ _ _ _ h => h) ?_
            simp only [SegW, pk, Nat.reduceMul, Nat.reduceAdd, Nat.reduceBEq, cond_true, cond_false]
            repeat (go_big_quiet_step (fail))
            refine wpQuiet_nil ?_
            go_wp2_with fail
            go_at_call 108
            refine (HT1.out _ _ (HS0.out.next HD0.out)).mono ?_
            rintro e w3 ⟨rfl, hw3⟩
            subst w3
            go_wp2_with fail
            refine ⟨HKK.out _ HD0.out, ?_⟩
            repeat (go_big_quiet_step (fail))
            refine wpQuiet_nil ?_
            go_wp2_with fail
            go_at_call 79
            refine (HRO1.out _).mono ?_
            rintro e w3 ⟨rfl, hw3⟩
            subst w3
            go_wp2_with fail
            refine ⟨HKK.out _ HD0.out, ?_⟩
            repeat (go_big_quiet_step (fail))
            refine wpQuiet_nil ?_
            go_wp2_with fail
            go_at_call 110
            refine (HNOE.out _ HD0.out).mono ?_
            rintro e w4 ⟨rfl, hb⟩
            have HB24 := hidD (Below.next HD0.out hb)
            clear hb HNOE HRO1 HT1
            have HR4 := hidD ((HB24.out.block _ (row_lt HR2.out)).trans HR2.out)
            obtain ⟨⟨d0, d1, d2⟩, f0, f1, f2⟩ := cells3 HR4.out
            have q0 := (HB24.out.cell (p := ⟨g, o, none⟩) hg).trans HQ0.out
            go_wp2_with fail
            refine ⟨HKK.out _ HB24.out, ?_⟩
            repeat (go_big_quiet_step (fail))
            refine wpQuiet_nil ?_
            clear d0 d1 d2 f0 f1 f2
            have HKK4 : Hid (∀ w', Below w4.heap.size w4 w' → ∃ i : KB w4 [g, w.heap.size], w' = i.v) := fun w' hb => ⟨⟨w', fun y hy => by
              simp only [List.mem_cons, List.not_mem_nil, or_false] at hy
              rcases hy with rfl | rfl
              · exact hb.block _ (Nat.lt_of_lt_of_le hg HB24.out.size)
              · exact hb.block _ (row_lt HR4.out)⟩, rfl⟩
            have HD4 : Hid (Below w4.heap.size w4 w4.drew) := below_drewN (Below.refl _ _) 1
            go_wp2_with fail
            clear q0
            refine wp_region_seg [0, 0, 0, 1, 0, 0, 0, 2, 99, 99] 1 8 [g, w.heap.size] (by kernel_rfl) (by kernel_rfl) (by kernel_rfl) (by kernel_rfl) (by kernel_rfl) (by kernel_rfl) (by kernel_rfl) (by kernel_rfl) (fun _ _ _ _ _ h => h) ?_
            simp only [SegW, pk, Nat.reduceMul, Nat.reduceAdd, Nat.reduceBEq, cond_true, cond_false]
            repeat (go_big_quiet_step (fail))
            refine wpQuiet_nil ?_
            go_wp2_with fail
            go_at_call 110
            refine (HNO1.out _ (Below.next HB24.out HD4.out)).mono ?_
            rintro e w5 ⟨rfl, hb⟩
            have HB45 := hidD (Below.next HD4.out hb)
            clear hb
            go_wp2_with fail
            refine ⟨HKK4.out _ HB45.out, ?_⟩
            have HR5 := hidD ((HB45.out.block _ (row_lt HR4.out)).trans HR4.out)
            obtain ⟨⟨d0, d1, d2⟩, f0, f1, f2⟩ := cells3 HR5.out
            repeat (go_big_quiet_step (fail))
            refine wpQuiet_nil ?_
            go_wp2_with fail
            refine bodyPost_ret (res_cell_tmp rfl _ _ w.heap.size _ _ _ (0, 0) rfl (set3 _ _ _ HR5.out)) rfl ?_
            rw [HR.out]
            have HB4 := Below.next HB2.out HB24.out
            exact ⟨below3 (Below.next HB4 HB45.out) (Nat.le_refl _) _ _ _, _, congrArg (fun z => Ending.returned (Value.tuple #[Value.agg #[.int .i64 ((1 : Nat) : Int), .int .i64 (at1 : Int), z], .int .i64 0])) (show Value.slice (some ⟨g, o + 3, none⟩) (E - 3) (c2 - 3) = .slice (some ⟨g, o + 3, none⟩) (n2 - 5) (c2 - 3) by rw [show E - 3 = n2 - 5 by have := HE.out; omega]), by_put3 ((HS4.out.next HB24.out).next HB45.out) (Nat.ne_of_gt HGR.out), fun g' o' n' c' he => by cases he; exact Nat.le_of_lt HGR.out⟩
          · rw [if_neg cx] at HR
            have cxi : ((x0 : Int) == 0) = false := by rw [beq_eq_false_iff_ne]; omega
            clear cx
            refine wp_region_seg [0, 0, 0, 1, 3, 0, 0, 0, 5, 6] 3 10 [g, w.heap.size] (by kernel_rfl) (by kernel_rfl) (by kernel_rfl) (by kernel_rfl) (by kernel_rfl) (by kernel_rfl) (by kernel_rfl) (by kernel_rfl) (fun _ _ _ _ _ h => h) ?_
            simp only [SegW, pk, Nat.reduceMul, Nat.reduceAdd, Nat.reduceBEq, cond_true, cond_false]
            repeat (go_big_quiet_step (fail))
            refine wpQuiet_nil ?_
            go_wp2_with fail
            go_at_call 108
            refine (HT1.out _ _ (HS0.out.next HD0.out)).mono ?_
            rintro e w3 ⟨rfl, hw3⟩
            subst w3
            go_wp2_with fail
            refine ⟨HKK.out _ HD0.out, ?_⟩
            repeat (go_big_quiet_step (fail))
            refine wpQuiet_nil ?_
            go_wp2_with fail
            go_at_call 79
            refine (HRO1.out _).mono ?_
            rintro e w3 ⟨rfl, hw3⟩
            subst w3
            go_wp2_with fail
            refine ⟨HKK.out _ HD0.out, ?_⟩
            repeat (go_big_quiet_step (fail))
            refine wpQuiet_nil ?_
            go_wp2_with fail
            go_at_call 110
            refine (HNOE.out _ HD0.out).mono ?_
            rintro e w4 ⟨rfl, hb⟩
            have HB24 := hidD (Below.next HD0.out hb)
            clear hb HNOE HRO1 HT1
            have HR4 := hidD ((HB24.out.block _ (row_lt HR2.out)).trans HR2.out)
            obtain ⟨⟨d0, d1, d2⟩, f0, f1, f2⟩ := cells3 HR4.out
            have q0 := (HB24.out.cell (p := ⟨g, o, none⟩) hg).trans HQ0.out
            go_wp2_with fail
            refine ⟨HKK.out _ HB24.out, ?_⟩
            repeat (go_big_quiet_step (fail))
            refine wpQuiet_nil ?_
            clear d0 d1 d2 f0 f1 f2
            have HKK4 : Hid (∀ w', Below w4.heap.size w4 w' → ∃ i : KB w4 [g, w.heap.size], w' = i.v) := fun w' hb => ⟨⟨w', fun y hy => by
              simp only [List.mem_cons, List.not_mem_nil, or_false] at hy
              rcases hy with rfl | rfl
              · exact hb.block _ (Nat.lt_of_lt_of_le hg HB24.out.size)
              · exact hb.block _ (row_lt HR4.out)⟩, rfl⟩
            have HD4 : Hid (Below w4.heap.size w4 w4.drew) := below_drewN (Below.refl _ _) 1
            go_wp2_with fail
            clear q0
            refine wp_region_seg [0, 0, 0, 1, 0, 0, 0, 2, 99, 99] 1 8 [g, w.heap.size] (by kernel_rfl) (by kernel_rfl) (by kernel_rfl) (by kernel_rfl) (by kernel_rfl) (by kernel_rfl) (by kernel_rfl) (by kernel_rfl) (fun _ _ _ _ _ h => h) ?_
            simp only [SegW, pk, Nat.reduceMul, Nat.reduceAdd, Nat.reduceBEq, cond_true, cond_false]
            repeat (go_big_quiet_step (fail))
            refine wpQuiet_nil ?_
            go_wp2_with fail
            go_at_call 110
            refine (HNO1.out _ (Below.next HB24.out HD4.out)).mono ?_
            rintro e w5 ⟨rfl, hb⟩
            have HB45 := hidD (Below.next HD4.out hb)
            clear hb
            go_wp2_with fail
            refine ⟨HKK4.out _ HB45.out, ?_⟩
            have HR5 := hidD ((HB45.out.block _ (row_lt HR4.out)).trans HR4.out)
            obtain ⟨⟨d0, d1, d2⟩, f0, f1, f2⟩ := cells3 HR5.out
            repeat (go_big_quiet_step (fail))
            refine wpQuiet_nil ?_
            go_wp2_with fail
            refine bodyPost_ret (res_cell_tmp rfl _ _ w.heap.size _ _ _ (0, 0) rfl (set3 _ _ _ HR5.out)) rfl ?_
            rw [HR.out]
            have HB4 := Below.next HB2.out HB24.out
            exact ⟨below3 (Below.next HB4 HB45.out) (Nat.le_refl _) _ _ _, _, congrArg (fun z => Ending.returned (Value.tuple #[Value.agg #[.int .i64 ((0 : Nat) : Int), .int .i64 (at1 : Int), z], .int .i64 0])) (show Value.slice (some ⟨g, o + 3, none⟩) (E - 3) (c2 - 3) = .slice (some ⟨g, o + 3, none⟩) (n2 - 5) (c2 - 3) by rw [show E - 3 = n2 - 5 by have := HE.out; omega]), by_put3 ((HS4.out.next HB24.out).next HB45.out) (Nat.ne_of_gt HGR.out), fun g' o' n' c' he => by cases he; exact Nat.le_of_lt HGR.out⟩
        · rw [if_pos ct] at HR
          have cti : ((R : Int) != (atE : Int)) = true := by rw [int_neq, decide_eq_true]; omega
          clear ct
          refine wp_region_seg [0, 0, 0, 1, 3, 0, 0, 0, 5, 6] 3 10 [g, w.heap.size] (by kernel_rfl) (by kernel_rfl) (by kernel_rfl) (by kernel_rfl) (by kernel_rfl) (by kernel_rfl) (by kernel_rfl) (by kernel_rfl) (fun _ _ _ _ _ h => h) ?_
          simp only [SegW, pk, Nat.reduceMul, Nat.reduceAdd, Nat.reduceBEq, cond_true, cond_false]
          repeat (go_big_quiet_step (fail))
          refine wpQuiet_nil ?_
          go_wp2_with fail
          go_at_call 108
          refine (HT1.out _ _ (HS0.out.next HD0.out)).mono ?_
          rintro e w3 ⟨rfl, hw3⟩
          subst w3
          go_wp2_with fail
          refine ⟨HKK.out _ HD0.out, ?_⟩
          repeat (go_big_quiet_step (fail))
          refine wpQuiet_nil ?_
          go_wp2_with fail
          go_at_call 79
          refine (HRO1.out _).mono ?_
          rintro e w3 ⟨rfl, hw3⟩
          subst w3
          go_wp2_with fail
          refine ⟨HKK.out _ HD0.out, ?_⟩
          repeat (go_big_quiet_step (fail))
          refine wpQuiet_nil ?_
          go_wp2_with fail
          go_at_call 110
          refine (HNOE.out _ HD0.out).mono ?_
          rintro e w4 ⟨rfl, hb⟩
          have HB24 := hidD (Below.next HD0.out hb)
          clear hb HNOE HRO1 HT1
          have HR4 := hidD ((HB24.out.block _ (row_lt HR2.out)).trans HR2.out)
          obtain ⟨⟨d0, d1, d2⟩, f0, f1, f2⟩ := cells3 HR4.out
          have q0 := (HB24.out.cell (p := ⟨g, o, none⟩) hg).trans HQ0.out
          go_wp2_with fail
          refine ⟨HKK.out _ HB24.out, ?_⟩
          repeat (go_big_quiet_step (fail))
          refine wpQuiet_nil ?_
          go_wp2_with fail
          refine bodyPost_ret (res_cell_tmp rfl _ _ w.heap.size _ _ _ (0, 0) rfl (set3 _ _ _ HR4.out)) rfl ?_
          rw [HR.out]
          exact ⟨below3 (Below.next HB2.out HB24.out) (Nat.le_refl _) _ _ _, rfl⟩
      · rw [if_pos (by omega)] at HR
        have cni : ((N : Int) != (x0 : Int) + 5) = true := by rw [int_neq, decide_eq_true]; omega
        have HCN := hidD cn
        clear cn HT1
        go_wp2_with fail
        go_at_call 109
        refine (HBO.out _).mono ?_
        rintro e w2 ⟨a2, n2, c2, ok, rfl, h1, h2, hb⟩
        obtain ⟨rfl, hown⟩ := h1 b hu
        have HB2 := hidD (Below.next HB1.out hb)
        have HR2 := hidD ((hb.block _ (row_lt HBX.out)).trans HBX.out)
        obtain ⟨⟨d0, d1, d2⟩, f0, f1, f2⟩ := cells3 HR2.out
        have HOG := hidD (fun g o (he : a2 = some ⟨g, o, none⟩) => own_ge (g := g) (o := o) (by rw [← he]; exact hown))
        obtain ⟨hn2, hnc, hc2, hcell⟩ := by_addr (by_of_own hown)
        rw [HN.out] at hn2
        subst hn2
        have HY2 : Hid (ByAt w2 (.slice a2 n2 c2) b) := by_of_own hown
        obtain ⟨g, o, rfl, hg, hcc⟩ := hcell (by omega)
        have HGR : Hid (w.heap.size < g) := by have := HOG.out g o rfl; simp at this; show _ < _; omega
        have q0 := hcc 0 (by omega)
        rw [Nat.add_zero, HX0.out] at q0
        clear hcc
        clear h1 h2 hb HBO hown hcell
        go_wp2_with fail
        refine bodyPost_ret (res_cell_tmp rfl _ _ w.heap.size _ _ _ (0, 0) rfl (set3 _ _ _ HR2.out)) rfl ?_
        rw [HR.out]
        exact ⟨below3 HB2.out (Nat.le_refl _) _ _ _, rfl⟩
end Go.Proofs.YtpemajghaceegaaGreatDoor
