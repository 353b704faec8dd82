/- What splitMotorola answers. -/
import Derived.Test.YtpemajghaceegaaGreatDoorHxl
namespace Go.Proofs.YtpemajghaceegaaGreatDoor
open Go.RowKit
set_option linter.unusedVariables false

theorem ba_tail2 (c k : UInt8) (u : List UInt8) : (bA (c :: k :: u)).extract 2 (bA (c :: k :: u)).size = bA u := by
  apply ByteArray.ext
  rw [ByteArray.data_extract, ba_size]
  apply Array.toList_inj.1
  simp [bA, List.extract_eq_take_drop]
/- what a line that begins with S is -/
def motL (t : List UInt8) : Raw := match t with
  | [] => .error 210
  | k :: u => if k = 48 ∨ k = 49 ∨ k = 53 ∨ k = 57 then (match unS u with | none => .error 210 | some b => motR (k.toNat - 48) b) else .error 210
set_option maxRecDepth 100000 in
set_option maxHeartbeats 1600000 in
theorem splitMotorola_any (c : UInt8) (t : List UInt8) (ht : t.length ≤ 140737488355000) (w : World) :
    Calls Tryz.prog 70 #[.string (bA (c :: t))] w fun e w' => SpIs (motL t) e w w' := by
  have HMK := hidD (fun w => motorolaKind_any (c :: t) (by simp; omega) w)
  obtain ⟨hz, hsz3⟩ := zero_of_info Tryz.zeroRec
  have HBX := hidD (heap_alloc_last w (.cells #[.int .i64 0, .int .i64 0, .slice none 0 0] (80 : TypeId)))
  have HB1 := hidD ((Below.refl w.heap.size w).alloc (Nat.le_refl _) (.cells #[.int .i64 0, .int .i64 0, .slice none 0 0] (80 : TypeId)))
  cases hmk : mkS (c :: t) with
  | none =>
    have HML : Hid (motL t = .error 210) := by
      show _ = _
      cases t with
      | nil => rfl
      | cons k u =>
        have e : mkS (c :: k :: u) = if k = 48 ∨ k = 49 ∨ k = 53 ∨ k = 57 then some (k.toNat - 48) else none := rfl
        rw [e] at hmk
        by_cases hk : k = 48 ∨ k = 49 ∨ k = 53 ∨ k = 57
        · rw [if_pos hk] at hmk; cases hmk
        · exact if_neg hk
    rw [hmk] at HMK
    rw [HML.out]
    have HR2 := HBX
    obtain ⟨⟨d0, d1, d2⟩, f0, f1, f2⟩ := cells3 HR2.out
    clear hmk
    generalize bA (c :: t) = s at *
    go_enter Tryz.func70, Tryz.ntmps70
    go_wp2_with fail
    go_at_call 115
    refine (HMK.out _).mono ?_
    rintro e w2 ⟨rfl, hw2⟩
    subst w2
    simp only [mkV]
    generalize w.alloc (.cells #[.int .i64 0, .int .i64 0, .slice none 0 0] (80 : TypeId)) = W1 at *
    go_wp2_with fail
    refine bodyPost_ret (res_cell_tmp rfl _ _ w.heap.size _ _ _ (0, 0) rfl (set3 _ _ _ HR2.out)) rfl ?_
    exact ⟨below3 HB1.out (Nat.le_refl _) _ _ _, rfl⟩
  | some kk =>
    obtain ⟨k, u, rfl, hk, hkk⟩ : ∃ k u, t = k :: u ∧ (k = 48 ∨ k = 49 ∨ k = 53 ∨ k = 57) ∧ kk = k.toNat - 48 := by
      cases t with
      | nil => cases hmk
      | cons k u =>
        have e : mkS (c :: k :: u) = if k = 48 ∨ k = 49 ∨ k = 53 ∨ k = 57 then some (k.toNat - 48) else none := rfl
        rw [e] at hmk
        by_cases hk : k = 48 ∨ k = 49 ∨ k = 53 ∨ k = 57
        · rw [if_pos hk] at hmk; cases hmk; exact ⟨k, u, rfl, hk, rfl⟩
        · rw [if_neg hk] at hmk; cases hmk
    have HML : Hid (motL (k :: u) = match unS u with | none => .error 210 | some b => motR kk b) := by
      show _ = _
      rw [hkk]
      exact if_pos hk
    have hkl : kk < 256 := by have := k.toNat_lt; omega
    rw [hmk] at HMK
    rw [HML.out]
    have ht2 : u.length ≤ 140737488355000 := by simp at ht; omega
    have hex := ba_tail2 c k u
    have hsz : (2 : Int) ≤ (bA (c :: k :: u)).size := by rw [ba_size, List.length_cons, List.length_cons]; omega
    have HBO := hidD (fun w => bytesOf_any u ht2 w)
    have HTT := hidD (fun (v : Value) (l : List UInt8) (hl : l.length ≤ 140737488355000) (w : World) (h : ByAt w v l) => total_any v l hl w h)
    have HNO := hidD (fun (v : Value) (l : List UInt8) (hl : 2 ≤ l.length) (w : World) (h : ByAt w v l) => numberOf_any v l hl w h)
    have HUL := hidD (fun b (h : unS u = some b) => un_len u b h)
    clear hmk hkk hk ht
    generalize bA (c :: k :: u) = s at *
    cases hu : unS u with
    | none =>
      go_enter Tryz.func70, Tryz.ntmps70
      go_wp2_with fail
      go_at_call 115
      refine (HMK.out _).mono ?_
      rintro e w2 ⟨rfl, hw2⟩
      subst w2
      simp only [mkV]
      go_wp2_with fail
      go_at_call 109
      refine (HBO.out _).mono ?_
      rintro e w2 ⟨a2, n2, c2, ok, rfl, h1, h2, hb⟩
      obtain rfl := h2 hu
      have HB2 := hidD (Below.next HB1.out hb)
      have HR2 := hidD ((hb.block _ (row_lt HBX.out)).trans HBX.out)
      obtain ⟨⟨d0, d1, d2⟩, f0, f1, f2⟩ := cells3 HR2.out
      clear h1 h2 hb HBO
      go_wp2_with fail
      refine bodyPost_ret (res_cell_tmp rfl _ _ w.heap.size _ _ _ (0, 0) rfl (set3 _ _ _ HR2.out)) rfl ?_
      exact ⟨below3 HB2.out (Nat.le_refl _) _ _ _, rfl⟩
    | some b =>
      go_enter Tryz.func70, Tryz.ntmps70
      go_wp2_with fail
      go_at_call 115
      refine (HMK.out _).mono ?_
      rintro e w2 ⟨rfl, hw2⟩
      subst w2
      simp only [mkV]
      obtain ⟨N, HN⟩ : ∃ N, Hid (b.length = N) := ⟨_, rfl⟩
      have HNT : Hid (N ≤ 140737488355000) := by have := HUL.out b hu; have := HN.out; show _ ≤ _; omega
      have hNT := HNT.out
      have HR := hidD (show motR kk b = if b.length < 4 ∨ b.length ≠ (b.getD 0 0).toNat + 1 then .error 210 else if totS b % 256 ≠ 255 then .error 211 else .ok (kk, n2 b 1, (b.drop 3).take (b.length - 4)) from rfl)
      obtain ⟨x0, HX0⟩ : ∃ x0, Hid ((b.getD 0 0).toNat = x0) := ⟨_, rfl⟩
      have hx0 : x0 < 256 := by rw [← HX0.out]; exact (b.getD 0 0).toNat_lt
      obtain ⟨T, HTE⟩ : ∃ T, Hid (totS b = T) := ⟨_, rfl⟩
      have HTL : Hid (T ≤ 72057594037927936) := by have := tot_le b; rw [HTE.out, HN.out] at this; show _ ≤ _; omega
      have hTL := HTL.out
      have HT1 := hidD (fun v w h => HTT.out v b (by rw [HN.out]; exact HNT.out) w h)
      rw [HTE.out] at HT1 HR
      rw [HN.out, HX0.out] at HR
      clear HTT HUL
      by_cases c5 : N < 4
      · rw [if_pos (.inl c5)] at HR
        have c5i : (N : Int) < 4 := by omega
        have HC5 := hidD c5
        clear c5 HT1
        go_wp2_with fail
        go_at_call 109
        refine (HBO.out _).mono ?_
        rintro e w2 ⟨a2, n2, c2, ok, rfl, h1, h2, hb⟩
        obtain ⟨rfl, hown⟩ := h1 b hu
        have HB2 := hidD (Below.next HB1.out hb)
        have HR2 := hidD ((hb.block _ (row_lt HBX.out)).trans HBX.out)
        obtain ⟨⟨d0, d1, d2⟩, f0, f1, f2⟩ := cells3 HR2.out
        have HOG := hidD (fun g o (he : a2 = some ⟨g, o, none⟩) => own_ge (g := g) (o := o) (by rw [← he]; exact hown))
        obtain ⟨hn2, hnc, hc2, hcell⟩ := by_addr (by_of_own hown)
        rw [HN.out] at hn2
        subst hn2
        have HY2 : Hid (ByAt w2 (.slice a2 n2 c2) b) := by_of_own hown
        clear h1 h2 hb HBO hown hcell
        go_wp2_with fail
        refine bodyPost_ret (res_cell_tmp rfl _ _ w.heap.size _ _ _ (0, 0) rfl (set3 _ _ _ HR2.out)) rfl ?_
        rw [HR.out]
        exact ⟨below3 HB2.out (Nat.le_refl _) _ _ _, rfl⟩
      · have c5i : ¬ (N : Int) < 4 := by omega
        have c5d : decide ((N : Int) < 4) = false := decide_eq_false c5i
        have hn5 : (0 : Int) < N := by omega
        by_cases cn : N = x0 + 1
        · rw [if_neg (by omega)] at HR
          have cni : ((N : Int) != 1 + (x0 : Int)) = false := by rw [int_neq, decide_eq_false]; omega
          have HCN := hidD cn
          clear cn
          by_cases ct : T % 256 = 255
          · rw [if_neg (by omega)] at HR
            have cti : ((T : Int) % 256 != 255) = false := by rw [int_neq, decide_eq_false]; omega
            clear ct
            go_wp2_with fail
            go_at_call 109
            refine (HBO.out _).mono ?_
            rintro e w2 ⟨a2, n2, c2, ok, rfl, h1, h2, hb⟩
            obtain ⟨rfl, hown⟩ := h1 b hu
            have HB2 := hidD (Below.next HB1.out hb)
            have HR2 := hidD ((hb.block _ (row_lt HBX.out)).trans HBX.out)
            obtain ⟨⟨d0, d1, d2⟩, f0, f1, f2⟩ := cells3 HR2.out
            have HOG := hidD (fun g o (he : a2 = some ⟨g, o, none⟩) => own_ge (g := g) (o := o) (by rw [← he]; exact hown))
            obtain ⟨hn2, hnc, hc2, hcell⟩ := by_addr (by_of_own hown)
            rw [HN.out] at hn2
            subst hn2
            have HY2 : Hid (ByAt w2 (.slice a2 n2 c2) b) := by_of_own hown
            obtain ⟨g, o, rfl, hg, hcc⟩ := hcell (by omega)
            have HGR : Hid (w.heap.size < g) := by have := HOG.out g o rfl; simp at this; show _ < _; omega
            have q0 := hcc 0 (by omega)
            rw [Nat.add_zero, HX0.out] at q0
            clear hcc
            clear h1 h2 hb HBO hown hcell
            go_wp2_with fail
            go_at_call 108
            refine (HT1.out _ _ HY2.out).mono ?_
            rintro e w3 ⟨rfl, hw3⟩
            subst w3
            clear HT1
            go_wp2_with fail
            clear cni cti
            have hkn : n2 ≤ c2 := hnc
            have HKK : Hid (∀ w', Below w2.heap.size w2 w' → ∃ i : KB w2 [g, w.heap.size], w' = i.v) := fun w' hb => ⟨⟨w', fun y hy => by
              simp only [List.mem_cons, List.not_mem_nil, or_false] at hy
              rcases hy with rfl | rfl
              · exact hb.block _ hg
              · exact hb.block _ (row_lt HR2.out)⟩, rfl⟩
            have HS1 := hidD (by_sub HY2.out HN.out 1 2 (by omega) hnc hg)
            have HS4 := hidD (by_sub HY2.out HN.out 3 (n2 - 4) (by omega) hnc hg)
            have HN2 := hidD (n2_sub b 1 1 (by rw [HN.out]; omega))
            have HD0 : Hid (Below w2.heap.size w2 w2.drew) := below_drewN (Below.refl _ _) 1
            have HNO1 := hidD (fun w3 (hb : Below w2.heap.size w2 w3) => HNO.out _ _ (by rw [List.length_take, List.length_drop, HN.out]; omega) w3 (HS1.out.next hb))
            rw [HN2.out] at HNO1
            generalize Go.Proofs.YtpemajghaceegaaGreatDoor.n2 b 1 = at1 at *
            clear q0 d0 d1 d2 f0 f1 f2 HNO
            refine wp_region_seg [0, 0, 0, 1, 0, 0, 0, 0, 0, 2, 99, 99] 1 10 [g, w.heap.size] (by kernel_rfl) (by kernel_rfl) (by kernel_rfl) (by kernel_rfl) (by kernel_rfl) (by kernel_rfl) (by kernel_rfl) (by kernel_rfl) (fun _ _ _ _ _ h => h) ?_
            simp only [SegW, pk, Nat.reduceMul, Nat.reduceAdd, Nat.reduceBEq, cond_true, cond_false]
            repeat (go_big_quiet_step (fail))
            refine wpQuiet_nil ?_
            go_wp2_with fail
            go_at_call 110
            refine (HNO1.out _ HD0.out).mono ?_
            rintro e w4 ⟨rfl, hb⟩
            have HB24 := hidD (Below.next HD0.out hb)
            clear hb
            go_wp2_with fail
            refine ⟨HKK.out _ HB24.out, ?_⟩
            have HR4 := hidD ((HB24.out.block _ (row_lt HR2.out)).trans HR2.out)
            obtain ⟨⟨d0, d1, d2⟩, f0, f1, f2⟩ := cells3 HR4.out
            repeat (go_big_quiet_step (fail))
            refine wpQuiet_nil ?_
            go_wp2_with fail
            refine bodyPost_ret (res_cell_tmp rfl _ _ w.heap.size _ _ _ (0, 0) rfl (set3 _ _ _ HR4.out)) rfl ?_
            rw [HR.out]
            have HB4 := Below.next HB2.out HB24.out
            exact ⟨below3 HB4 (Nat.le_refl _) _ _ _, _, congrArg (fun z => Ending.returned (Value.tuple #[Value.agg #[.int .i64 (kk : Int), .int .i64 (at1 : Int), z], .int .i64 0])) (show Value.slice (some ⟨g, o + 3, none⟩) (n2 - 1 - 3) (c2 - 3) = .slice (some ⟨g, o + 3, none⟩) (n2 - 4) (c2 - 3) by rw [Nat.sub_sub]), by_put3 (HS4.out.next HB24.out) (Nat.ne_of_gt HGR.out), fun g' o' n' c' he => by cases he; exact Nat.le_of_lt HGR.out⟩
          · rw [if_pos ct] at HR
            have cti : ((T : Int) % 256 != 255) = true := by rw [int_neq, decide_eq_true]; omega
            clear ct
            go_wp2_with fail
            go_at_call 109
            refine (HBO.out _).mono ?_
            rintro e w2 ⟨a2, n2, c2, ok, rfl, h1, h2, hb⟩
            obtain ⟨rfl, hown⟩ := h1 b hu
            have HB2 := hidD (Below.next HB1.out hb)
            have HR2 := hidD ((hb.block _ (row_lt HBX.out)).trans HBX.out)
            obtain ⟨⟨d0, d1, d2⟩, f0, f1, f2⟩ := cells3 HR2.out
            have HOG := hidD (fun g o (he : a2 = some ⟨g, o, none⟩) => own_ge (g := g) (o := o) (by rw [← he]; exact hown))
            obtain ⟨hn2, hnc, hc2, hcell⟩ := by_addr (by_of_own hown)
            rw [HN.out] at hn2
            subst hn2
            have HY2 : Hid (ByAt w2 (.slice a2 n2 c2) b) := by_of_own hown
            obtain ⟨g, o, rfl, hg, hcc⟩ := hcell (by omega)
            have HGR : Hid (w.heap.size < g) := by have := HOG.out g o rfl; simp at this; show _ < _; omega
            have q0 := hcc 0 (by omega)
            rw [Nat.add_zero, HX0.out] at q0
            clear hcc
            clear h1 h2 hb HBO hown hcell
            go_wp2_with fail
            go_at_call 108
            refine (HT1.out _ _ HY2.out).mono ?_
            rintro e w3 ⟨rfl, hw3⟩
            subst w3
            clear HT1
            go_wp2_with fail
            refine bodyPost_ret (res_cell_tmp rfl _ _ w.heap.size _ _ _ (0, 0) rfl (set3 _ _ _ HR2.out)) rfl ?_
            rw [HR.out]
            exact ⟨below3 HB2.out (Nat.le_refl _) _ _ _, rfl⟩
        · rw [if_pos (by omega)] at HR
          have cni : ((N : Int) != 1 + (x0 : Int)) = true := by rw [int_neq, decide_eq_true]; omega
          have HCN := hidD cn
          clear cn HT1
          go_wp2_with fail
          go_at_call 109
          refine (HBO.out _).mono ?_
          rintro e w2 ⟨a2, n2, c2, ok, rfl, h1, h2, hb⟩
          obtain ⟨rfl, hown⟩ := h1 b hu
          have HB2 := hidD (Below.next HB1.out hb)
          have HR2 := hidD ((hb.block _ (row_lt HBX.out)).trans HBX.out)
          obtain ⟨⟨d0, d1, d2⟩, f0, f1, f2⟩ := cells3 HR2.out
          have HOG := hidD (fun g o (he : a2 = some ⟨g, o, none⟩) => own_ge (g := g) (o := o) (by rw [← he]; exact hown))
          obtain ⟨hn2, hnc, hc2, hcell⟩ := by_addr (by_of_own hown)
          rw [HN.out] at hn2
          subst hn2
          have HY2 : Hid (ByAt w2 (.slice a2 n2 c2) b) := by_of_own hown
          obtain ⟨g, o, rfl, hg, hcc⟩ := hcell (by omega)
          have HGR : Hid (w.heap.size < g) := by have := HOG.out g o rfl; simp at this; show _ < _; omega
          have q0 := hcc 0 (by omega)
          rw [Nat.add_zero, HX0.out] at q0
          clear hcc
          clear h1 h2 hb HBO hown hcell
          go_wp2_with fail
          refine bodyPost_ret (res_cell_tmp rfl _ _ w.heap.size _ _ _ (0, 0) rfl (set3 _ _ _ HR2.out)) rfl ?_
          rw [HR.out]
          exact ⟨below3 HB2.out (Nat.le_refl _) _ _ _, rfl⟩
end Go.Proofs.YtpemajghaceegaaGreatDoor
