/- What EqualFunc, Same and the document's Same answer. -/
import Derived.Test.YtpemajghaceegaaGreatDoorHyr
namespace Go.Proofs.YtpemajghaceegaaGreatDoor
open Go.RowKit
set_option linter.unusedVariables false

set_option maxRecDepth 100000 in
set_option maxHeartbeats 6400000 in
theorem equalFunc_any (v u : Value) (P Q : List Pb) (hP : P.length ≤ 4398046510976) (hpl : ∀ x ∈ P, x.2.length ≤ 140737488355328) (hql : ∀ x ∈ Q, x.2.length ≤ 140737488355328) (w : World) (hv : PbAt w v P) (hu : PbAt w u Q) :
    Calls Tryz.prog 32 #[v, u, .func (.func 33) #[] #[]] w fun e w' => e = .returned (.bool (decide (P = Q))) ∧ Below w.heap.size w w' := by
  obtain ⟨a, cap, rfl, hc⟩ := hv
  obtain ⟨a2, cap2, rfl, hc2⟩ := hu
  have HC := hidD hc
  have HC2 := hidD hc2
  have HPL := hidD hpl
  have HQL := hidD hql
  have HES := hidD (fun x y b1 b2 n1 n2' c1 c2 l m hl hm w hv hu => equalSeg_any x y b1 b2 n1 n2' c1 c2 l m hl hm w hv hu)
  obtain ⟨D, HD⟩ : ∃ D, Hid (decide (P = Q) = D) := ⟨_, rfl⟩
  rw [HD.out]
  clear hc hc2 hpl hql
  by_cases hlen : ¬ P.length = Q.length
  · have HDF : Hid (D = false) := by show _ = _; rw [← HD.out]; exact decide_eq_false (fun h => hlen (by rw [h]))
    have hni : ((P.length : Int) != (Q.length : Int)) = true := bne_iff_ne.2 (by omega)
    clear hlen
    go_enter Tryz.func32, Tryz.ntmps32
    go_wp2_with fail
    go_ret
    exact ⟨by first | rfl | (rw [HDF.out]; rfl), Below.refl _ _⟩
  have hlen := Decidable.not_not.1 hlen
  obtain ⟨N, HN⟩ : ∃ N, Hid (P.length = N) := ⟨_, rfl⟩
  have HN2 : Hid (Q.length = N) := by show _ = _; rw [← HN.out, hlen]
  have hN := hP
  rw [HN.out] at hN ⊢
  rw [HN2.out]
  clear hlen hP
  have hnn : ((N : Int) != (N : Int)) = false := bne_self_eq_false _
  go_enter Tryz.func32, Tryz.ntmps32
  go_wp2_with fail
  go_loopw [17] (fun i wr => ∃ k : Nat, k ≤ N ∧ i = .int .i64 k ∧ (∀ j (h1 : j < P.length) (h2 : j < Q.length), j < k → P[j] = Q[j]) ∧ Below w.heap.size w wr) (fun i _ => N - (intOf i).toNat)
  case atStart => exact ⟨0, Nat.zero_le _, rfl, fun j _ _ h => absurd h (Nat.not_lt_zero _), Below.refl _ _⟩
  case round =>
    obtain ⟨k, hk, rfl, hall, hbel⟩ := hrel
    have HALL := hidD hall
    have HBW := hidD hbel
    clear hall hbel
    by_cases hlt : k < N
    · have hlti : (k : Int) < N := by omega
      have h1 : k < P.length := by rw [HN.out]; exact hlt
      have h2 : k < Q.length := by rw [HN2.out]; exact hlt
      obtain ⟨g, o, b1, n1, c1, rfl, hg, x0, x1, x2⟩ := HC.out k h1
      obtain ⟨g2, o2, b2, n2', c2, rfl, hg2, y0, y1, y2⟩ := HC2.out k h2
      have hl1 := HPL.out P[k] (List.getElem_mem h1)
      have hl2 := HQL.out Q[k] (List.getElem_mem h2)
      have HNE : Hid (P[k] ≠ Q[k] → D = false) := fun hne => by
        rw [← HD.out]
        refine decide_eq_false (fun h => hne ?_)
        subst h; rfl
      have HEQ : Hid (P[k] = Q[k] → ∀ j (h1 : j < P.length) (h2 : j < Q.length), j < k + 1 → P[j] = Q[j]) := fun he j h1 h2 hj => by
        by_cases hjk : j = k
        · subst hjk; exact he
        · exact HALL.out j h1 h2 (by omega)
      obtain ⟨p, HPX⟩ : ∃ p, Hid (P[k] = p) := ⟨P[k], hidD rfl⟩
      obtain ⟨q, HQX⟩ : ∃ q, Hid (Q[k] = q) := ⟨Q[k], hidD rfl⟩
      rw [HPX.out] at x0 x2 HNE HEQ hl1
      rw [HQX.out] at y0 y2 HNE HEQ hl2
      obtain ⟨pa, pb⟩ := p
      obtain ⟨qa, qb⟩ := q
      have k0 := (HBW.out.cell (p := ⟨g, o + k * 2, none⟩) hg).trans x0
      have k1 := (HBW.out.cell (p := ⟨g, o + k * 2 + 1, none⟩) hg).trans x1
      have HAL := hidD ((Below.refl wr.heap.size wr).alloc (Nat.le_refl _) (.cells #[.int .i64 pa, .slice b1 n1 c1] (36 : TypeId)))
      have r0 := (HAL.out.cell (p := ⟨g2, o2 + k * 2, none⟩) (Nat.lt_of_lt_of_le hg2 HBW.out.size)).trans ((HBW.out.cell (p := ⟨g2, o2 + k * 2, none⟩) hg2).trans y0)
      have r1 := (HAL.out.cell (p := ⟨g2, o2 + k * 2 + 1, none⟩) (Nat.lt_of_lt_of_le hg2 HBW.out.size)).trans ((HBW.out.cell (p := ⟨g2, o2 + k * 2 + 1, none⟩) hg2).trans y1)
      have HY1 := hidD x2
      have HY2 := hidD y2
      have HSG := hidD (fun w hv hu => HES.out pa qa b1 b2 n1 n2' c1 c2 pb qb hl1 hl2 w hv hu)
      have HBB : Hid (Below w.heap.size w ((wr.alloc (.cells #[.int .i64 pa, .slice b1 n1 c1] (36 : TypeId))).alloc (.cells #[.int .i64 qa, .slice b2 n2' c2] (36 : TypeId)))) := (HBW.out.alloc HBW.out.size _).alloc (by have := HBW.out.size; simp; omega) _
      clear x0 x1 x2 y0 y1 y2 HPX HQX HALL h1 h2 hl1 hl2 HES
      by_cases hpq : pa = qa ∧ pb = qb
      · have HE2 := hidD (HEQ.out (by rw [hpq.1, hpq.2]))
        have HSX : Hid (∀ w hv hu, Calls Tryz.prog 33 #[.agg #[.int .i64 pa, .slice b1 n1 c1], .agg #[.int .i64 qa, .slice b2 n2' c2]] w fun e w' => e = .returned (.bool true) ∧ Below w.heap.size w w') := fun w hv hu => by
          have := HSG.out w hv hu
          rwa [decide_eq_true hpq] at this
        clear HNE HEQ hpq HSG
        go_wp2_with (go_at_call 33
                     refine (HSX.out _ (HY1.out.next HBB.out) (HY2.out.next HBB.out)).mono ?_
                     rintro e w2 ⟨rfl, hb⟩
                     have HB2 := hidD (HBB.out.trans (hb.mono HBB.out.size))
                     clear hb HSX)
        go_roundw
        case rel => exact ⟨k + 1, by omega, by go_num, HE2.out, HB2.out⟩
        case measure => simp [intOf]; omega
      · have HDF := hidD (HNE.out (fun h => hpq ⟨(Prod.mk.inj h).1, (Prod.mk.inj h).2⟩))
        have HSX : Hid (∀ w hv hu, Calls Tryz.prog 33 #[.agg #[.int .i64 pa, .slice b1 n1 c1], .agg #[.int .i64 qa, .slice b2 n2' c2]] w fun e w' => e = .returned (.bool false) ∧ Below w.heap.size w w') := fun w hv hu => by
          have := HSG.out w hv hu
          rwa [decide_eq_false hpq] at this
        clear HNE HEQ hpq HSG
        go_wp2_with (go_at_call 33
                     refine (HSX.out _ (HY1.out.next HBB.out) (HY2.out.next HBB.out)).mono ?_
                     rintro e w2 ⟨rfl, hb⟩
                     have HB2 := hidD (HBB.out.trans (hb.mono HBB.out.size))
                     clear hb HSX)
        go_ret
        exact ⟨by first | rfl | (rw [HDF.out]; rfl), HB2.out⟩
    · obtain rfl : k = N := by omega
      have HDT : Hid (D = true) := by
        show _ = _
        rw [← HD.out]
        exact decide_eq_true (List.ext_getElem (by rw [HN.out, HN2.out]) fun j h1 h2 => HALL.out j h1 h2 (by rw [← HN.out]; exact h1))
      have hlt' : ¬ (k : Int) < k := by omega
      clear hlt HALL
      go_wp2_with fail
      go_ret
      exact ⟨by first | rfl | (rw [HDT.out]; rfl), HBW.out⟩
/- are both merged, to the same? -/
noncomputable def sameP (P Q : List Pb) : Bool := match mergeP P, mergeP Q with
  | .ok M, .ok N => decide (M = N)
  | _, _ => false
/- how long what Merge answers is -/
theorem runs_len (f : Int → Option UInt8) : ∀ n : Nat, (runsTo f n).length ≤ n ∧ ∀ x ∈ runsTo f n, x.2.length ≤ n
  | 0 => ⟨Nat.le_refl _, fun x hx => by simp [runsTo] at hx⟩
  | n + 1 => by
    obtain ⟨h1, h2⟩ := runs_len f n
    rw [runsTo]
    cases f (n : Int) with
    | none => exact ⟨by dsimp only; omega, fun x hx => Nat.le_succ_of_le (h2 x hx)⟩
    | some b =>
      dsimp only
      by_cases hc : n = 0 ∨ f ((n : Int) - 1) = none
      · rw [if_pos hc]
        refine ⟨by rw [List.length_append, List.length_singleton]; omega, fun x hx => ?_⟩
        rcases List.mem_append.1 hx with hx | hx
        · exact Nat.le_succ_of_le (h2 x hx)
        · rw [List.mem_singleton] at hx; subst hx; show [b].length ≤ n + 1; simp
      · rw [if_neg hc]
        rcases List.eq_nil_or_concat (runsTo f n) with h0 | ⟨R, m, h0⟩
        · rw [h0]; exact ⟨by show 0 ≤ _; omega, fun x hx => by cases hx⟩
        · rw [h0, List.concat_eq_append, addL_snoc]
          rw [h0, List.concat_eq_append, List.length_append, List.length_singleton] at h1
          refine ⟨by rw [List.length_append, List.length_singleton]; omega, fun x hx => ?_⟩
          rcases List.mem_append.1 hx with hx | hx
          · exact Nat.le_succ_of_le (h2 x (by rw [h0, List.concat_eq_append]; exact List.mem_append_left _ hx))
          · rw [List.mem_singleton] at hx; subst hx
            have := h2 m (by rw [h0, List.concat_eq_append]; simp)
            show (m.2 ++ [b]).length ≤ n + 1
            rw [List.length_append, List.length_singleton]; omega
theorem merge_len {P M : List Pb} (h : mergeP P = .ok M) : M.length ≤ 65536 ∧ ∀ x ∈ M, x.2.length ≤ 65536 := by
  unfold mergeP at h
  split at h
  · cases h
  · split at h
    · cases h; exact runs_len _ _
    · cases h
theorem merge_err {P : List Pb} {n : Int} (h : mergeP P = .error n) : n = 1 ∨ n = 194 := by
  unfold mergeP at h
  split at h
  · cases h; exact .inl rfl
  · split at h
    · cases h
    · cases h; exact .inr rfl
/- what Merge tells, in one form: its list and its error -/
theorem mg_tell {et : TypeId} {R : Except Int (List Pb)} {e : Ending} {w w' : World} (h : MgIs et R e w w') : Below w.heap.size w w' ∧ ((∃ n, R = .error n ∧ e = .returned (.tuple #[.slice none 0 0, .int .i64 n])) ∨ ∃ M l, R = .ok M ∧ e = .returned (.tuple #[l, .int .i64 0]) ∧ PbAt w' l M) := by
  obtain ⟨hb, h⟩ := h
  refine ⟨hb, ?_⟩
  cases R with
  | error n => exact .inl ⟨n, rfl, h⟩
  | ok M =>
    obtain ⟨l, T, he, hT, hS⟩ := h
    exact .inr ⟨M, l, rfl, he, by rw [← hT]; exact pb_of_segs hS⟩
set_option maxRecDepth 100000 in
set_option maxHeartbeats 3200000 in
theorem Same_any (v u : Value) (P Q : List Pb) (hP : P.length ≤ 4398046510976) (hQ : Q.length ≤ 4398046510976) (hpl : ∀ x ∈ P, x.2.length ≤ 140737488355328) (hql : ∀ x ∈ Q, x.2.length ≤ 140737488355328) (w : World) (hv : PbAt w v P) (hu : PbAt w u Q) :
    Calls Tryz.prog 13 #[v, u] w fun e w' => e = .returned (.bool (sameP P Q)) ∧ Below w.heap.size w w' := by
  have HM1 := hidD ((Merge_pb v P hP hpl w hv).mono fun e w' h => mg_tell h)
  have HM2 := hidD (fun w hu => (Merge_pb u Q hQ hql w hu).mono fun e w' h => mg_tell h)
  have HEF := hidD (fun v u P Q hP hpl hql w hv hu => equalFunc_any v u P Q hP hpl hql w hv hu)
  have HU := hidD hu
  obtain ⟨D, HD⟩ : ∃ D, Hid (sameP P Q = D) := ⟨_, rfl⟩
  rw [HD.out]
  obtain ⟨la, lc, rfl⟩ := hv.len
  obtain ⟨la2, lc2, rfl⟩ := hu.len
  clear hv hu hP hQ hpl hql
  go_enter Tryz.func13, Tryz.ntmps13
  go_wp2_with fail
  go_at_call 10
  refine HM1.out.mono ?_
  rintro e w2 ⟨hb, ⟨n, hR, rfl⟩ | ⟨M, l, hR, rfl, hl⟩⟩
  · have HB2 := hidD hb
    have hn := merge_err hR
    have HDF : Hid (D = false) := by show _ = _; rw [← HD.out]; unfold sameP; rw [hR]
    have hni : (n != 0) = true := by rw [bne_iff_ne]; omega
    clear hb hR hn HM1
    go_wp2_with fail
    go_ret
    exact ⟨by first | rfl | (rw [HDF.out]; rfl), HB2.out⟩
  · have HB2 := hidD hb
    have HR := hidD hR
    have HL := hidD hl
    obtain ⟨lb, ld, rfl⟩ := hl.len
    clear hb hR hl HM1
    go_wp2_with fail
    go_at_call 10
    refine (HM2.out _ (HU.out.next HB2.out)).mono ?_
    rintro e w3 ⟨hb, ⟨n, hR, rfl⟩ | ⟨M', l', hR, rfl, hl⟩⟩
    · have HB3 := hidD (Below.next HB2.out hb)
      have hn := merge_err hR
      have HDF : Hid (D = false) := by show _ = _; rw [← HD.out]; unfold sameP; rw [HR.out, hR]
      have hni : (n != 0) = true := by rw [bne_iff_ne]; omega
      clear hb hR hn HM2
      go_wp2_with fail
      go_ret
      exact ⟨by first | rfl | (rw [HDF.out]; rfl), HB3.out⟩
    · have HB3 := hidD (Below.next HB2.out hb)
      have HL3 := hidD (HL.out.next hb)
      have HR3 := hidD hR
      have HL' := hidD hl
      obtain ⟨lb', ld', rfl⟩ := hl.len
      have HDT : Hid (D = decide (M = M')) := by show _ = _; rw [← HD.out]; unfold sameP; rw [HR.out, HR3.out]
      have HCA := hidD (HEF.out _ _ M M' (by have := (merge_len HR.out).1; omega) (fun x hx => by have := (merge_len HR.out).2 x hx; omega) (fun x hx => by have := (merge_len HR3.out).2 x hx; omega) w3 HL3.out HL'.out)
      rw [← HDT.out] at HCA
      clear hb hR hl HM2 HEF HDT
      go_wp2_with (go_at_call 32
                   refine HCA.out.mono ?_
                   rintro e w4 ⟨rfl, hb⟩
                   have HB4 := hidD (Below.next HB3.out hb)
                   clear hb HCA)
      go_ret
      exact ⟨rfl, HB4.out⟩
end Go.Proofs.YtpemajghaceegaaGreatDoor
