/- What Like and the document's Equal answer. -/
import Derived.Test.YtpemajghaceegaaGreatDoorHyp
namespace Go.Proofs.YtpemajghaceegaaGreatDoor
open Go.RowKit
set_option linter.unusedVariables false

set_option maxRecDepth 100000 in
set_option maxHeartbeats 6400000 in
theorem like_any (v u : Value) (P Q : List Pb) (hP : P.length ≤ 4398046510976) (hQ : Q.length ≤ 4398046510976) (w : World) (hv : PbAt w v P) (hu : PbAt w u Q) :
    Calls Tryz.prog 12 #[v, u] w fun e w' => e = .returned (.bool (decide (P = Q))) ∧ Below w.heap.size w w' := by
  obtain ⟨a, cap, rfl, hc⟩ := hv
  obtain ⟨a2, cap2, rfl, hc2⟩ := hu
  have HC := hidD hc
  have HC2 := hidD hc2
  obtain ⟨D, HD⟩ : ∃ D, Hid (decide (P = Q) = D) := ⟨_, rfl⟩
  rw [HD.out]
  clear hc hc2
  by_cases hlen : ¬ P.length = Q.length
  · have HDF : Hid (D = false) := by show _ = _; rw [← HD.out]; exact decide_eq_false (fun h => hlen (by rw [h]))
    have hni : ((P.length : Int) != (Q.length : Int)) = true := bne_iff_ne.2 (by omega)
    clear hlen
    go_enter Tryz.func12, Tryz.ntmps12
    go_wp2_with fail
    go_ret
    exact ⟨by first | rfl | (rw [HDF.out]; rfl), Below.refl _ _⟩
  have hlen := Decidable.not_not.1 hlen
  obtain ⟨N, HN⟩ : ∃ N, Hid (P.length = N) := ⟨_, rfl⟩
  have HN2 : Hid (Q.length = N) := by show _ = _; rw [← HN.out, hlen]
  have hN := hP
  rw [HN.out] at hN ⊢
  rw [HN2.out]
  clear hlen hP hQ
  have hnn : ((N : Int) != (N : Int)) = false := bne_self_eq_false _
  go_enter Tryz.func12, Tryz.ntmps12
  go_wp2_with fail
  go_loopw [5] (fun i wr => ∃ k : Nat, k ≤ N ∧ i = .int .i64 k ∧ (∀ j (h1 : j < P.length) (h2 : j < Q.length), j < k → P[j] = Q[j]) ∧ ∃ n, wr = w.drewN n) (fun i _ => N - (intOf i).toNat)
  case atStart => exact ⟨0, Nat.zero_le _, rfl, fun j _ _ h => absurd h (Nat.not_lt_zero _), 0, rfl⟩
  case round =>
    obtain ⟨k, hk, rfl, hall, n, rfl⟩ := hrel
    have HALL := hidD hall
    clear hall
    by_cases hlt : k < N
    · have hlti : (k : Int) < N := by omega
      have h1 : k < P.length := by rw [HN.out]; exact hlt
      have h2 : k < Q.length := by rw [HN2.out]; exact hlt
      obtain ⟨g, o, b1, n1, c1, rfl, hg, x0, x1, x2⟩ := HC.out k h1
      obtain ⟨g2, o2, b2, n2', c2, rfl, hg2, y0, y1, y2⟩ := HC2.out k h2
      have HNE : Hid (P[k] ≠ Q[k] → D = false) := fun hne => by
        rw [← HD.out]
        refine decide_eq_false (fun h => hne ?_)
        subst h; rfl
      have HEQ : Hid (P[k] = Q[k] → ∀ j (h1 : j < P.length) (h2 : j < Q.length), j < k + 1 → P[j] = Q[j]) := fun he j h1 h2 hj => by
        by_cases hjk : j = k
        · subst hjk; exact he
        · exact HALL.out j h1 h2 (by omega)
      obtain ⟨p, HPX⟩ : ∃ p, Hid (P[k] = p) := ⟨P[k], hidD rfl⟩
      obtain ⟨q, HQX⟩ : ∃ q, Hid (Q[k] = q) := ⟨Q[k], hidD rfl⟩
      rw [HPX.out] at x0 x2 HNE HEQ
      rw [HQX.out] at y0 y2 HNE HEQ
      obtain ⟨pa, pb⟩ := p
      obtain ⟨qa, qb⟩ := q
      have e0 : ∀ i : KB (w.drewN n) [g, g2, blkS b1, blkS b2], i.v.cell? ⟨g, o + k * 2, none⟩ = some (.int .i64 pa) := fun i => (i.cell (b := g) (by simp) _).trans x0
      have e1 : ∀ i : KB (w.drewN n) [g, g2, blkS b1, blkS b2], i.v.cell? ⟨g, o + k * 2 + 1, none⟩ = some (.slice b1 n1 c1) := fun i => (i.cell (b := g) (by simp) _).trans x1
      have e2 : ∀ i : KB (w.drewN n) [g, g2, blkS b1, blkS b2], i.v.cell? ⟨g2, o2 + k * 2, none⟩ = some (.int .i64 qa) := fun i => (i.cell (b := g2) (by simp) _).trans y0
      have e3 : ∀ i : KB (w.drewN n) [g, g2, blkS b1, blkS b2], i.v.cell? ⟨g2, o2 + k * 2 + 1, none⟩ = some (.slice b2 n2' c2) := fun i => (i.cell (b := g2) (by simp) _).trans y1
      have e4 : ∀ i : KB (w.drewN n) [g, g2, blkS b1, blkS b2], (convert 34 9 (.slice b1 n1 c1)).run Tryz.prog i.v = .ok (.string (bA pb)) i.v := fun i => kb_conv2 i (by simp) (x2.next (below_drewN (Below.refl _ _) n))
      have e5 : ∀ i : KB (w.drewN n) [g, g2, blkS b1, blkS b2], (convert 34 9 (.slice b2 n2' c2)).run Tryz.prog i.v = .ok (.string (bA qb)) i.v := fun i => kb_conv2 i (by simp) (y2.next (below_drewN (Below.refl _ _) n))
      have HBN := hidD (below_drewN (Below.refl w.heap.size w) (n + 1))
      clear x0 x1 x2 y0 y1 y2 HPX HQX HALL h1 h2
      by_cases ha : pa = qa
      · subst ha
        have d0 : (pa != pa) = false := bne_self_eq_false _
        by_cases hbb : pb = qb
        · subst hbb
          have HE2 := hidD (HEQ.out rfl)
          clear HNE HEQ
          generalize bA pb = s at *
          have d1 : (s.toList == s.toList) = true := beq_self_eq_true _
          go_wp2_with fail
          refine wp_region_seg [0, 0, 0, 0, 0, 0, 0, 0, 0, 0, 0, 0, 0, 0, 0, 0, 0, 0, 0, 0, 0, 0, 0, 0, 0, 99] 0 25 [g, g2, blkS b1, blkS b2] (by kernel_rfl) (by kernel_rfl) (by kernel_rfl) (by kernel_rfl) (by kernel_rfl) (by kernel_rfl) (by kernel_rfl) (by kernel_rfl) (fun _ _ _ _ _ h => h) ?_
          simp only [SegW, pk, Nat.reduceMul, Nat.reduceBEq, cond_true, cond_false]
          repeat (go_big_quiet_step (fail))
          refine wpQuiet_nil ?_
          go_wp2_with fail
          go_roundw
          case rel => exact ⟨k + 1, by omega, by go_num, HE2.out, n + 1, rfl⟩
          case measure => simp [intOf]; omega
        · have HDF := hidD (HNE.out (fun h => hbb (Prod.mk.inj h).2))
          have d1 : ((bA pb).toList == (bA qb).toList) = false := by rw [ba_list, ba_list]; exact beq_eq_false_iff_ne.2 hbb
          clear HNE HEQ hbb
          generalize bA pb = s at *
          generalize bA qb = s2 at *
          go_wp2_with fail
          refine wp_region_seg [0, 0, 0, 0, 0, 0, 0, 0, 0, 0, 0, 0, 0, 0, 0, 0, 0, 0, 0, 0, 0, 0, 0, 0, 0, 99] 0 25 [g, g2, blkS b1, blkS b2] (by kernel_rfl) (by kernel_rfl) (by kernel_rfl) (by kernel_rfl) (by kernel_rfl) (by kernel_rfl) (by kernel_rfl) (by kernel_rfl) (fun _ _ _ _ _ h => h) ?_
          simp only [SegW, pk, Nat.reduceMul, Nat.reduceBEq, cond_true, cond_false]
          repeat (go_big_quiet_step (fail))
          refine wpQuiet_nil ?_
          go_wp2_with fail
          go_ret
          exact ⟨by first | rfl | (rw [HDF.out]; rfl), HBN.out⟩
      · have HDF := hidD (HNE.out (fun h => ha (Prod.mk.inj h).1))
        have d0 : (pa != qa) = true := bne_iff_ne.2 ha
        clear HNE HEQ ha
        go_wp2_with fail
        refine wp_region_seg [0, 0, 0, 0, 0, 0, 0, 0, 0, 0, 0, 0, 0, 0, 0, 0, 0, 0, 0, 0, 0, 0, 0, 0, 0, 99] 0 25 [g, g2, blkS b1, blkS b2] (by kernel_rfl) (by kernel_rfl) (by kernel_rfl) (by kernel_rfl) (by kernel_rfl) (by kernel_rfl) (by kernel_rfl) (by kernel_rfl) (fun _ _ _ _ _ h => h) ?_
        simp only [SegW, pk, Nat.reduceMul, Nat.reduceBEq, cond_true, cond_false]
        repeat (go_big_quiet_step (fail))
        refine wpQuiet_nil ?_
        go_wp2_with fail
        go_ret
        exact ⟨by first | rfl | (rw [HDF.out]; rfl), HBN.out⟩
    · obtain rfl : k = N := by omega
      have HDT : Hid (D = true) := by
        show _ = _
        rw [← HD.out]
        exact decide_eq_true (List.ext_getElem (by rw [HN.out, HN2.out]) fun j h1 h2 => HALL.out j h1 h2 (by rw [← HN.out]; exact h1))
      have hlt' : ¬ (k : Int) < k := by omega
      clear hlt HALL
      go_wp2_with fail
      go_ret
      exact ⟨by first | rfl | (rw [HDT.out]; rfl), below_drewN (Below.refl _ _) n⟩
set_option maxRecDepth 100000 in
set_option maxHeartbeats 6400000 in
theorem refEqual_any (v u : Value) (P Q : List Pb) (hP : P.length ≤ 4398046510976) (hQ : Q.length ≤ 4398046510976) (w : World) (hv : PbAt w v P) (hu : PbAt w u Q) :
    Calls Tryz.prog 61 #[v, u] w fun e w' => e = .returned (.bool (decide (P = Q))) ∧ Below w.heap.size w w' := by
  obtain ⟨a, cap, rfl, hc⟩ := hv
  obtain ⟨a2, cap2, rfl, hc2⟩ := hu
  have HC := hidD hc
  have HC2 := hidD hc2
  obtain ⟨D, HD⟩ : ∃ D, Hid (decide (P = Q) = D) := ⟨_, rfl⟩
  rw [HD.out]
  clear hc hc2
  by_cases hlen : ¬ P.length = Q.length
  · have HDF : Hid (D = false) := by show _ = _; rw [← HD.out]; exact decide_eq_false (fun h => hlen (by rw [h]))
    have hni : ((P.length : Int) != (Q.length : Int)) = true := bne_iff_ne.2 (by omega)
    clear hlen
    go_enter Tryz.func61, Tryz.ntmps61
    go_wp2_with fail
    go_ret
    exact ⟨by first | rfl | (rw [HDF.out]; rfl), Below.refl _ _⟩
  have hlen := Decidable.not_not.1 hlen
  obtain ⟨N, HN⟩ : ∃ N, Hid (P.length = N) := ⟨_, rfl⟩
  have HN2 : Hid (Q.length = N) := by show _ = _; rw [← HN.out, hlen]
  have hN := hP
  rw [HN.out] at hN ⊢
  rw [HN2.out]
  clear hlen hP hQ
  have hnn : ((N : Int) != (N : Int)) = false := bne_self_eq_false _
  go_enter Tryz.func61, Tryz.ntmps61
  go_wp2_with fail
  go_loopw [5] (fun i wr => ∃ k : Nat, k ≤ N ∧ i = .int .i64 k ∧ (∀ j (h1 : j < P.length) (h2 : j < Q.length), j < k → P[j] = Q[j]) ∧ ∃ n, wr = w.drewN n) (fun i _ => N - (intOf i).toNat)
  case atStart => exact ⟨0, Nat.zero_le _, rfl, fun j _ _ h => absurd h (Nat.not_lt_zero _), 0, rfl⟩
  case round =>
    obtain ⟨k, hk, rfl, hall, n, rfl⟩ := hrel
    have HALL := hidD hall
    clear hall
    by_cases hlt : k < N
    · have hlti : (k : Int) < N := by omega
      have h1 : k < P.length := by rw [HN.out]; exact hlt
      have h2 : k < Q.length := by rw [HN2.out]; exact hlt
      obtain ⟨g, o, b1, n1, c1, rfl, hg, x0, x1, x2⟩ := HC.out k h1
      obtain ⟨g2, o2, b2, n2', c2, rfl, hg2, y0, y1, y2⟩ := HC2.out k h2
      have HNE : Hid (P[k] ≠ Q[k] → D = false) := fun hne => by
        rw [← HD.out]
        refine decide_eq_false (fun h => hne ?_)
        subst h; rfl
      have HEQ : Hid (P[k] = Q[k] → ∀ j (h1 : j < P.length) (h2 : j < Q.length), j < k + 1 → P[j] = Q[j]) := fun he j h1 h2 hj => by
        by_cases hjk : j = k
        · subst hjk; exact he
        · exact HALL.out j h1 h2 (by omega)
      obtain ⟨p, HPX⟩ : ∃ p, Hid (P[k] = p) := ⟨P[k], hidD rfl⟩
      obtain ⟨q, HQX⟩ : ∃ q, Hid (Q[k] = q) := ⟨Q[k], hidD rfl⟩
      rw [HPX.out] at x0 x2 HNE HEQ
      rw [HQX.out] at y0 y2 HNE HEQ
      obtain ⟨pa, pb⟩ := p
      obtain ⟨qa, qb⟩ := q
      have e0 : ∀ i : KB (w.drewN n) [g, g2, blkS b1, blkS b2], i.v.cell? ⟨g, o + k * 2, none⟩ = some (.int .i64 pa) := fun i => (i.cell (b := g) (by simp) _).trans x0
      have e1 : ∀ i : KB (w.drewN n) [g, g2, blkS b1, blkS b2], i.v.cell? ⟨g, o + k * 2 + 1, none⟩ = some (.slice b1 n1 c1) := fun i => (i.cell (b := g) (by simp) _).trans x1
      have e2 : ∀ i : KB (w.drewN n) [g, g2, blkS b1, blkS b2], i.v.cell? ⟨g2, o2 + k * 2, none⟩ = some (.int .i64 qa) := fun i => (i.cell (b := g2) (by simp) _).trans y0
      have e3 : ∀ i : KB (w.drewN n) [g, g2, blkS b1, blkS b2], i.v.cell? ⟨g2, o2 + k * 2 + 1, none⟩ = some (.slice b2 n2' c2) := fun i => (i.cell (b := g2) (by simp) _).trans y1
      have e4 : ∀ i : KB (w.drewN n) [g, g2, blkS b1, blkS b2], (convert 34 9 (.slice b1 n1 c1)).run Tryz.prog i.v = .ok (.string (bA pb)) i.v := fun i => kb_conv2 i (by simp) (x2.next (below_drewN (Below.refl _ _) n))
      have e5 : ∀ i : KB (w.drewN n) [g, g2, blkS b1, blkS b2], (convert 34 9 (.slice b2 n2' c2)).run Tryz.prog i.v = .ok (.string (bA qb)) i.v := fun i => kb_conv2 i (by simp) (y2.next (below_drewN (Below.refl _ _) n))
      have HBN := hidD (below_drewN (Below.refl w.heap.size w) (n + 1))
      clear x0 x1 x2 y0 y1 y2 HPX HQX HALL h1 h2
      by_cases ha : pa = qa
      · subst ha
        have d0 : (pa != pa) = false := bne_self_eq_false _
        by_cases hbb : pb = qb
        · subst hbb
          have HE2 := hidD (HEQ.out rfl)
          clear HNE HEQ
          generalize bA pb = s at *
          have d1 : (s.toList == s.toList) = true := beq_self_eq_true _
          go_wp2_with fail
          refine wp_region_seg [0, 0, 0, 0, 0, 0, 0, 0, 0, 0, 0, 0, 0, 0, 0, 0, 0, 0, 0, 0, 0, 0, 0, 0, 0, 99] 0 25 [g, g2, blkS b1, blkS b2] (by kernel_rfl) (by kernel_rfl) (by kernel_rfl) (by kernel_rfl) (by kernel_rfl) (by kernel_rfl) (by kernel_rfl) (by kernel_rfl) (fun _ _ _ _ _ h => h) ?_
          simp only [SegW, pk, Nat.reduceMul, Nat.reduceBEq, cond_true, cond_false]
          repeat (go_big_quiet_step (fail))
          refine wpQuiet_nil ?_
          go_wp2_with fail
          go_roundw
          case rel => exact ⟨k + 1, by omega, by go_num, HE2.out, n + 1, rfl⟩
          case measure => simp [intOf]; omega
        · have HDF := hidD (HNE.out (fun h => hbb (Prod.mk.inj h).2))
          have d1 : ((bA pb).toList == (bA qb).toList) = false := by rw [ba_list, ba_list]; exact beq_eq_false_iff_ne.2 hbb
          clear HNE HEQ hbb
          generalize bA pb = s at *
          generalize bA qb = s2 at *
          go_wp2_with fail
          refine wp_region_seg [0, 0, 0, 0, 0, 0, 0, 0, 0, 0, 0, 0, 0, 0, 0, 0, 0, 0, 0, 0, 0, 0, 0, 0, 0, 99] 0 25 [g, g2, blkS b1, blkS b2] (by kernel_rfl) (by kernel_rfl) (by kernel_rfl) (by kernel_rfl) (by kernel_rfl) (by kernel_rfl) (by kernel_rfl) (by kernel_rfl) (fun _ _ _ _ _ h => h) ?_
          simp only [SegW, pk, Nat.reduceMul, Nat.reduceBEq, cond_true, cond_false]
          repeat (go_big_quiet_step (fail))
          refine wpQuiet_nil ?_
          go_wp2_with fail
          go_ret
          exact ⟨by first | rfl | (rw [HDF.out]; rfl), HBN.out⟩
      · have HDF := hidD (HNE.out (fun h => ha (Prod.mk.inj h).1))
        have d0 : (pa != qa) = true := bne_iff_ne.2 ha
        clear HNE HEQ ha
        go_wp2_with fail
        refine wp_region_seg [0, 0, 0, 0, 0, 0, 0, 0, 0, 0, 0, 0, 0, 0, 0, 0, 0, 0, 0, 0, 0, 0, 0, 0, 0, 99] 0 25 [g, g2, blkS b1, blkS b2] (by kernel_rfl) (by kernel_rfl) (by kernel_rfl) (by kernel_rfl) (by kernel_rfl) (by kernel_rfl) (by kernel_rfl) (by kernel_rfl) (fun _ _ _ _ _ h => h) ?_
        simp only [SegW, pk, Nat.reduceMul, Nat.reduceBEq, cond_true, cond_false]
        repeat (go_big_quiet_step (fail))
        refine wpQuiet_nil ?_
        go_wp2_with fail
        go_ret
        exact ⟨by first | rfl | (rw [HDF.out]; rfl), HBN.out⟩
    · obtain rfl : k = N := by omega
      have HDT : Hid (D = true) := by
        show _ = _
        rw [← HD.out]
        exact decide_eq_true (List.ext_getElem (by rw [HN.out, HN2.out]) fun j h1 h2 => HALL.out j h1 h2 (by rw [← HN.out]; exact h1))
      have hlt' : ¬ (k : Int) < k := by omega
      clear hlt HALL
      go_wp2_with fail
      go_ret
      exact ⟨by first | rfl | (rw [HDT.out]; rfl), below_drewN (Below.refl _ _) n⟩
end Go.Proofs.YtpemajghaceegaaGreatDoor
