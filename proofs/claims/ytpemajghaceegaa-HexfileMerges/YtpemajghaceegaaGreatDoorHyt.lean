/- What the document's Same and the law's Own answer. -/
import Derived.Test.YtpemajghaceegaaGreatDoorHys
namespace Go.Proofs.YtpemajghaceegaaGreatDoor
open Go.RowKit
set_option linter.unusedVariables false

set_option maxRecDepth 100000 in
set_option maxHeartbeats 3200000 in
theorem refSame19_any (v u : Value) (P Q : List Pb) (hP : P.length ≤ 4398046510976) (hQ : Q.length ≤ 4398046510976) (hpl : ∀ x ∈ P, x.2.length ≤ 140737488355328) (hql : ∀ x ∈ Q, x.2.length ≤ 140737488355328) (w : World) (hv : PbAt w v P) (hu : PbAt w u Q) :
    Calls Tryz.prog 35 #[v, u] w fun e w' => e = .returned (.bool (sameP P Q)) ∧ Below w.heap.size w w' := by
  have HM1 := hidD ((refMerge_pb v P hP hpl w hv).mono fun e w' h => mg_tell h)
  have HM2 := hidD (fun w hu => (refMerge_pb u Q hQ hql w hu).mono fun e w' h => mg_tell h)
  have HEF := hidD (fun v u P Q hP hQ w hv hu => refEqual_any v u P Q hP hQ w hv hu)
  have HU := hidD hu
  obtain ⟨D, HD⟩ : ∃ D, Hid (sameP P Q = D) := ⟨_, rfl⟩
  rw [HD.out]
  obtain ⟨la, lc, rfl⟩ := hv.len
  obtain ⟨la2, lc2, rfl⟩ := hu.len
  clear hv hu hP hQ hpl hql
  go_enter Tryz.func35, Tryz.ntmps35
  go_wp2_with fail
  go_at_call 31
  refine HM1.out.mono ?_
  rintro e w2 ⟨hb, ⟨n, hR, rfl⟩ | ⟨M, l, hR, rfl, hl⟩⟩
  · have HB2 := hidD hb
    have hn := merge_err hR
    have HDF : Hid (D = false) := by show _ = _; rw [← HD.out]; unfold sameP; rw [hR]
    have hni : (n == 0) = false := by rw [beq_eq_false_iff_ne]; omega
    clear hb hR hn HM1
    go_wp2_with fail
    go_at_call 31
    refine (HM2.out _ (HU.out.next HB2.out)).mono ?_
    rintro e w3 ⟨hb, ⟨n', hR, rfl⟩ | ⟨M', l', hR, rfl, hl⟩⟩
    · have HB3 := hidD (Below.next HB2.out hb)
      clear hb hR HM2
      go_wp2_with fail
      go_ret
      exact ⟨by first | rfl | (rw [HDF.out]; rfl), HB3.out⟩
    · have HB3 := hidD (Below.next HB2.out hb)
      obtain ⟨lb', ld', rfl⟩ := hl.len
      clear hb hR HM2 hl
      go_wp2_with fail
      go_ret
      exact ⟨by first | rfl | (rw [HDF.out]; rfl), HB3.out⟩
  · have HB2 := hidD hb
    have HR := hidD hR
    have HL := hidD hl
    obtain ⟨lb, ld, rfl⟩ := hl.len
    clear hb hR hl HM1
    go_wp2_with fail
    go_at_call 31
    refine (HM2.out _ (HU.out.next HB2.out)).mono ?_
    rintro e w3 ⟨hb, ⟨n, hR, rfl⟩ | ⟨M', l', hR, rfl, hl⟩⟩
    · have HB3 := hidD (Below.next HB2.out hb)
      have hn := merge_err hR
      have HDF : Hid (D = false) := by show _ = _; rw [← HD.out]; unfold sameP; rw [HR.out, hR]
      have hni : (n == 0) = false := by rw [beq_eq_false_iff_ne]; omega
      clear hb hR hn HM2
      go_wp2_with fail
      go_ret
      exact ⟨by first | rfl | (rw [HDF.out]; rfl), HB3.out⟩
    · have HB3 := hidD (Below.next HB2.out hb)
      have HL3 := hidD (HL.out.next hb)
      have HR3 := hidD hR
      have HL' := hidD hl
      obtain ⟨lb', ld', rfl⟩ := hl.len
      have HDT : Hid (D = decide (M = M')) := by show _ = _; rw [← HD.out]; unfold sameP; rw [HR.out, HR3.out]
      have HCA := hidD (HEF.out _ _ M M' (by have := (merge_len HR.out).1; omega) (by have := (merge_len HR3.out).1; omega) w3 HL3.out HL'.out)
      rw [← HDT.out] at HCA
      clear hb hR hl HM2 HEF HDT
      go_wp2_with (go_at_call 61
                   refine HCA.out.mono ?_
                   rintro e w4 ⟨rfl, hb⟩
                   have HB4 := hidD (Below.next HB3.out hb)
                   clear hb HCA)
      go_ret
      exact ⟨rfl, HB4.out⟩
set_option maxRecDepth 100000 in
theorem refSame_any (v u : Value) (P Q : List Pb) (hP : P.length ≤ 4398046510976) (hQ : Q.length ≤ 4398046510976) (hpl : ∀ x ∈ P, x.2.length ≤ 140737488355328) (hql : ∀ x ∈ Q, x.2.length ≤ 140737488355328) (w : World) (hv : PbAt w v P) (hu : PbAt w u Q) :
    Calls Tryz.prog 14 #[v, u] w fun e w' => e = .returned (.bool (sameP P Q)) ∧ Below w.heap.size w w' := by
  have HC := hidD (refSame19_any v u P Q hP hQ hpl hql w hv hu)
  obtain ⟨la, lc, rfl⟩ := hv.len
  obtain ⟨la2, lc2, rfl⟩ := hu.len
  generalize sameP P Q = D at *
  clear hv hu hP hQ hpl hql
  go_enter Tryz.func14, Tryz.ntmps14
  go_wp2_with (go_at_call 35
               refine HC.out.mono ?_
               rintro e w4 ⟨rfl, hb⟩
               have HB4 := hidD hb
               clear hb HC)
  go_ret
  exact ⟨rfl, HB4.out⟩
set_option maxRecDepth 100000 in
theorem refMerge21_any (v : Value) (P : List Pb) (hl : P.length ≤ 4398046510976) (hn : ∀ x ∈ P, x.2.length ≤ 140737488355328) (w : World) (h : PbAt w v P) :
    Calls Tryz.prog 11 #[v] w fun e w' => MgIs 60 (mergeP P) e w w' := by
  have HC := hidD (refMerge_pb v P hl hn w h)
  obtain ⟨la, lc, rfl⟩ := h.len
  generalize mergeP P = R at *
  clear h hl hn
  go_enter Tryz.func11, Tryz.ntmps11
  go_wp2_with fail
  go_at_call 31
  refine HC.out.mono ?_
  rintro e w2 ⟨hb, hm⟩
  have HB2 := hidD hb
  clear hb HC
  cases R with
  | error n =>
    have hm2 : e = .returned (.tuple #[.slice none 0 0, .int .i64 n]) := hm
    clear hm
    subst hm2
    go_wp2_with fail
    go_ret2
    exact ⟨HB2.out, rfl⟩
  | ok M =>
    obtain ⟨l, T, rfl, hT, hS⟩ := hm
    have HT := hidD hT
    have HS := hidD hS
    clear hT hS
    go_wp2_with fail
    go_ret2
    exact ⟨HB2.out, l, T, rfl, HT.out, HS.out⟩
/- segments of one's own, empty ones too -/
def OwnAt (B : Nat) (w : World) (l : Value) (T : List Sgb) : Prop := w.ownsRow B 36 2 l T.length (flatB T) ∧ ∀ t ∈ T, w.ownsRow B 5 1 t.2.1 t.2.2.length (t.2.2.map encB)
set_option maxRecDepth 100000 in
set_option maxHeartbeats 3200000 in
theorem own_any (v : Value) (P : List Pb) (hP : P.length ≤ 4398046510976) (hpl : ∀ x ∈ P, x.2.length ≤ 140737488355000) (w : World) (hv : PbAt w v P) :
    Calls Tryz.prog 9 #[v] w fun e w' => ∃ l T, e = .returned l ∧ T.map pbT = P ∧ OwnAt w.heap.size w' l T ∧ Below w.heap.size w w' := by
  obtain ⟨a, cap, rfl, hc⟩ := hv
  have HC := hidD hc
  have HPL := hidD hpl
  clear hc hpl
  go_enter Tryz.func9, Tryz.ntmps9
  go_wp2_with fail
  go_loopw [3, 4] (fun l i wr => ∃ (k : Nat) (T : List Sgb), k ≤ P.length ∧ i = .int .i64 k ∧ T.map pbT = P.take k ∧ OwnAt w.heap.size wr l T ∧ Below w.heap.size w wr) (fun _ i _ => P.length - (intOf i).toNat)
  case atStart => exact ⟨0, [], Nat.zero_le _, rfl, rfl, ⟨World.ownsRow_nil _ _ _ _, fun t ht => absurd ht (by simp)⟩, Below.refl _ _⟩
  case round =>
    obtain ⟨k, T, hk, rfl, hT, hO, hbel⟩ := hrel
    have HT := hidD hT
    have HO := hidD hO
    have HBW := hidD hbel
    have htl : T.length = k := by have := congrArg List.length hT; rw [List.length_map, List.length_take] at this; omega
    obtain ⟨la, lc, rfl⟩ := row_shape hO.1
    clear hT hO hbel
    by_cases hlt : k < P.length
    · have hlti : (k : Int) < P.length := by omega
      obtain ⟨g, o, b, n, c, rfl, hg, x0, x1, x2⟩ := HC.out k hlt
      have HTK : Hid (P.take (k + 1) = P.take k ++ [P[k]]) := by show _ = _; rw [List.take_add_one, List.getElem?_eq_getElem hlt]; rfl
      have HPN := hidD (HPL.out P[k] (List.getElem_mem hlt))
      obtain ⟨p, HPX⟩ : ∃ p, Hid (P[k] = p) := ⟨P[k], hidD rfl⟩
      rw [HPX.out] at x0 x2 HTK HPN
      obtain ⟨pa, pb⟩ := p
      have HY := hidD x2
      have hgw : g < wr.heap.size := Nat.lt_of_lt_of_le hg HBW.out.size
      have k0 := (HBW.out.cell (p := ⟨g, o + k * 2, none⟩) hg).trans x0
      have k1 := (HBW.out.cell (p := ⟨g, o + k * 2 + 1, none⟩) hg).trans x1
      have HGG := hidD hg
      have hbw : w.heap.size ≤ wr.heap.size := HBW.out.size
      clear x0 x1 x2 HPX
      have HKK : Hid (∀ w', Below wr.heap.size wr w' → ∃ i : KB wr [g], w' = i.v) := fun w' hb => ⟨⟨w', fun y hy => by rw [List.mem_singleton] at hy; subst hy; exact hb.block _ hgw⟩, rfl⟩
      have e0 : ∀ i : KB wr [g], i.v.cell? ⟨g, o + k * 2, none⟩ = some (.int .i64 pa) := fun i => (i.cell (b := g) (by simp) _).trans k0
      have e1 : ∀ i : KB wr [g], i.v.cell? ⟨g, o + k * 2 + 1, none⟩ = some (.slice b n c) := fun i => (i.cell (b := g) (by simp) _).trans k1
      clear k0 k1
      rw [htl]
      go_wp2_with fail
      refine wp_region_seg [0, 0, 0, 0, 0, 0, 1, 0, 0, 0, 0, 0, 3, 4, 5, 99, 99] 3 15 [g] (by kernel_rfl) (by kernel_rfl) (by kernel_rfl) (by kernel_rfl) (by kernel_rfl) (by kernel_rfl) (by kernel_rfl) (by kernel_rfl) (fun _ _ _ _ _ h => h) ?_
      simp only [SegW, pk, Nat.reduceMul, Nat.reduceAdd, Nat.reduceBEq, cond_true, cond_false]
      repeat (go_big_quiet_step (fail))
      refine wpQuiet_nil ?_
      go_wp2_with fail
      change (∃ i : KB wr [g], (wr.alloc (.cells #[] (5 : TypeId))).drew = i.v) ∧ _
      have HB1 : Hid (Below wr.heap.size wr (wr.alloc (.cells #[] (5 : TypeId))).drew) := below_drewN ((Below.refl _ _).alloc (Nat.le_refl _) _) 1
      have HW0 : Hid ((wr.alloc (.cells #[] (5 : TypeId))).drew.ownsRow wr.heap.size 5 1 (.slice (some ⟨wr.heap.size, 0, none⟩) 0 0) 0 []) := full_row (Nat.le_refl _) rfl (by decide) (heap_alloc_last _ _)
      generalize (wr.alloc (.cells #[] (5 : TypeId))).drew = w1 at *
      refine ⟨HKK.out _ HB1.out, ?_⟩
      repeat (go_big_quiet_step (fail))
      refine wpQuiet_nil ?_
      refine wpList_append_by rfl _ _ rfl wr.heap.size (.slice (some ⟨wr.heap.size, 0, none⟩) 0 0) 0 [] rfl HW0.out (.slice b n c) pb rfl (HY.out.next (HBW.out.trans (HB1.out.mono hbw))) (by have h1 : pb.length ≤ 140737488355000 := HPN.out; omega) HB1.out.size ?_
      intro v2 w2 ho2 hg2
      rw [Nat.zero_add, List.nil_append] at ho2
      have HB2 : Hid (Below wr.heap.size wr w2) := row_grown HW0.out HB1.out hg2 HB1.out.size
      have HO2 := hidD ho2
      obtain ⟨va, vc, rfl⟩ := row_shape ho2
      clear ho2 hg2
      go_wp2_with fail
      refine ⟨HKK.out _ HB2.out, ?_⟩
      repeat (go_big_quiet_step (fail))
      refine wpQuiet_nil ?_
      go_wp2_with fail
      change (∃ i : KB wr [g], w2.alloc (.cells #[.int .i64 pa, .slice va pb.length vc] (36 : TypeId)) = i.v) ∧ _
      have HAL := hidD ((Below.refl w2.heap.size w2).alloc (Nat.le_refl _) (.cells #[.int .i64 pa, .slice va pb.length vc] (36 : TypeId)))
      have HL3 := hidD (heap_alloc_last w2 (.cells #[.int .i64 pa, .slice va pb.length vc] (36 : TypeId)))
      have HO3 := hidD (row_below HO2.out HAL.out)
      have HB3 := hidD (HB2.out.trans (HAL.out.mono HB2.out.size))
      generalize w2.alloc (.cells #[.int .i64 pa, .slice va pb.length vc] (36 : TypeId)) = w3 at *
      refine ⟨HKK.out _ HB3.out, ?_⟩
      repeat (go_big_quiet_step (fail))
      refine wpQuiet_nil ?_
      have HLI := hidD (row_below HO.out.1 HB3.out)
      rw [htl] at HLI
      refine wpList_append_sg rfl _ _ rfl w.heap.size (.slice la k lc) k (flatB T) rfl HLI.out w2.heap.size (.int .i64 pa) (.slice va pb.length vc) rfl HL3.out rfl rfl (by omega) (Nat.le_trans hbw HB3.out.size) ?_
      intro v4 w4 ho4 hg4
      have HO4 := hidD ho4
      have HG4 := hidD hg4
      have HB4 : Hid (Below w.heap.size w w4) := row_grown HLI.out (HBW.out.trans (HB3.out.mono hbw)) hg4 (Nat.le_trans hbw HB3.out.size)
      have HR4 : Hid (∀ t ∈ T, w4.ownsRow w.heap.size 5 1 t.2.1 t.2.2.length (t.2.2.map encB)) := fun t ht => row_keep (HO.out.2 t ht) fun x hx => by
        have h1 := row_block (HO.out.2 t ht) hx
        exact (hg4.block x (Nat.lt_of_lt_of_le h1.2.1 HB3.out.size) (fun hh => blocks_apart (row_below (HO.out.2 t ht) HB3.out) HLI.out hx hh.symm rfl)).trans (HB3.out.block x h1.2.1)
      have HX4 : Hid (w4.ownsRow w.heap.size 5 1 (.slice va pb.length vc) pb.length (pb.map encB)) := row_mono (row_keep HO3.out fun x hx => hg4.block x (row_block HO3.out hx).2.1 (fun hh => blocks_apart HO3.out HLI.out hx hh.symm rfl)) hbw
      clear ho4 hg4
      go_wp2_with fail
      go_roundw
      case rel =>
        refine ⟨k + 1, T ++ [(pa, .slice va pb.length vc, pb)], by omega, by go_num, ?_, ⟨?_, ?_⟩, HB4.out⟩
        · rw [List.map_append, HT.out, HTK.out]; rfl
        · rw [List.length_append, List.length_singleton, htl, flatB_app]; exact HO4.out
        · intro t ht
          rcases List.mem_append.1 ht with ht | ht
          · exact HR4.out t ht
          · rw [List.mem_singleton] at ht
            subst ht
            exact HX4.out
      case measure => simp [intOf]; omega
    · obtain rfl : k = P.length := by omega
      rw [List.take_length] at HT
      have hlt' : ¬ (P.length : Int) < P.length := by omega
      clear hlt HC
      go_wp2_with fail
      go_ret
      exact ⟨_, rfl, T, HT.out, by have h := HO.out; unfold OwnAt at h ⊢; rw [htl] at h ⊢; exact h, HBW.out⟩
end Go.Proofs.YtpemajghaceegaaGreatDoor
