/- What joined answers of every list of rising segments: the walk. -/
import Derived.Test.YtpemajghaceegaaGreatDoorHyj
namespace Go.Proofs.YtpemajghaceegaaGreatDoor
open Go.RowKit
set_option linter.unusedVariables false

/- how far it was joined -/
def JnInv (B : Nat) (R : Option (List Pb)) (P : List Pb) (wr : World) (l : Value) (e : Int) (k : Nat) : Prop :=
  ∃ T : List Sgb, SegsAt 36 B wr l T ∧ LastAt wr T ∧ joinG (T.map pbT) e (P.drop k) = R ∧ T.length ≤ k ∧
    ((T = [] ∧ e = -1) ∨ ∃ T0 t, T = T0 ++ [t] ∧ e = t.1 + t.2.2.length ∧ 0 ≤ t.1 ∧ e ≤ 65536)
set_option maxRecDepth 100000 in
set_option maxHeartbeats 6400000 in
theorem joined_any (v : Value) (L : List Sgc) (Bf : Sgc → List UInt8) (hl : L.length ≤ 4398046510976) (w : World) (h : SgAt w v L)
    (hb : ∀ x ∈ L, ByAt w (slS x) (Bf x)) (hf : ∀ x ∈ L, 0 ≤ x.1 ∧ x.1 ≤ 65536 - x.2.2.1 ∧ 0 < x.2.2.1) :
    Calls Tryz.prog 30 #[v] w fun e w' => Below w.heap.size w w' ∧ match joinG [] (-1) (L.map fun x => (x.1, Bf x)) with
      | none => e = .returned (.tuple #[.slice none 0 0, .int .i64 194])
      | some M => ∃ l T, e = .returned (.tuple #[l, .int .i64 0]) ∧ T.map pbT = M ∧ SegsAt 36 w.heap.size w' l T := by
  obtain ⟨a, cap, rfl, hc⟩ := h
  have HC := hidD hc
  have HBY := hidD hb
  have HFT := hidD hf
  obtain ⟨P, HP⟩ : ∃ P, Hid ((L.map fun x => (x.1, Bf x)) = P) := ⟨_, rfl⟩
  rw [HP.out]
  have HPD : Hid (∀ k (hk : k < L.length), P.drop k = (L[k].1, Bf L[k]) :: P.drop (k + 1)) := fun k hk => by
    rw [← HP.out, List.drop_eq_getElem_cons (by simpa using hk)]
    simp
  have HPE : Hid (P.drop L.length = []) := by show _ = _; rw [← HP.out]; simp
  obtain ⟨R, HR⟩ : ∃ R, Hid (joinG [] (-1) P = R) := ⟨_, rfl⟩
  rw [HR.out]
  clear hc hb hf
  go_enter Tryz.func30, Tryz.ntmps30
  go_wp2_with fail
  go_loopw [4, 5, 11] (fun l en i wr => ∃ (k : Nat) (e : Int), k ≤ L.length ∧ i = .int .i64 k ∧ en = .int .i64 e ∧ Below w.heap.size w wr ∧ JnInv w.heap.size R P wr l e k) (fun _ _ i _ => L.length - (intOf i).toNat)
  case atStart => exact ⟨0, -1, Nat.zero_le _, rfl, rfl, Below.refl _ _, [], ⟨World.ownsRow_nil _ _ _ _, fun t ht => absurd ht (by simp)⟩, fun T0 t ht => absurd ht (by simp), HR.out, Nat.le_refl _, .inl ⟨rfl, rfl⟩⟩
  case round =>
    obtain ⟨k, e, hk, rfl, rfl, hbel, T, hsg, hla, hjn, htk, hte⟩ := hrel
    have HBW := hidD hbel
    have HSG := hidD hsg
    have HLA := hidD hla
    have HTE := hidD hte
    have he0 : -1 ≤ e ∧ e ≤ 65536 := by
      rcases hte with ⟨_, rfl⟩ | ⟨_, t, _, rfl, h0, h1⟩
      · omega
      · omega
    obtain ⟨la, lc, rfl⟩ := row_shape hsg.1
    clear hbel hsg hla hte
    by_cases hlt : k < L.length
    · have hlti : (k : Int) < L.length := by omega
      obtain ⟨g, o, rfl, hg, hc0, hc1⟩ := HC.out k hlt
      have k0 := (HBW.out.cell (p := ⟨g, o + k * 2, none⟩) hg).trans hc0
      have k1 := (HBW.out.cell (p := ⟨g, o + k * 2 + 1, none⟩) hg).trans hc1
      have hjn2 := hjn
      rw [HPD.out k hlt] at hjn2
      have hfx := HFT.out L[k] (List.getElem_mem hlt)
      have HBX := hidD (HBY.out L[k] (List.getElem_mem hlt))
      generalize Bf L[k] = bs at *
      generalize L[k] = x at *
      obtain ⟨sa, sp, sn, sc⟩ := x
      obtain ⟨hf0, hf1, hf2⟩ := hfx
      have HLEN : Hid (bs.length = sn) := by
        obtain ⟨ea, ec, ee⟩ := HBX.out.len
        have e2 : Value.slice sp sn sc = .slice ea bs.length ec := ee
        cases e2; rfl
      change 0 ≤ sa at hf0
      change sa ≤ 65536 - (sn : Int) at hf1
      change 0 < sn at hf2
      have hsn : sn ≤ 65536 := by omega
      have HJ := hidD (show (if sa < e then none else if e < sa then joinG (T.map pbT ++ [(sa, bs)]) (sa + bs.length) (P.drop (k + 1)) else joinG (addL (T.map pbT) bs) (sa + bs.length) (P.drop (k + 1))) = R from hjn2)
      clear hjn hjn2 hc0 hc1 HPD HPE
      have HAL := hidD ((Below.refl wr.heap.size wr).alloc (Nat.le_refl _) (.cells #[.int .i64 sa, .slice sp sn sc] (36 : TypeId)))
      by_cases c1 : sa < e
      · have HRN : Hid (R = none) := by show _ = _; rw [← HJ.out, if_pos c1]
        have HBA := hidD (HBW.out.trans (HAL.out.mono HBW.out.size))
        clear HJ HSG HLA HTE HBX
        go_wp2_with fail
        go_ret2
        first | rw [HRN.out] | skip
        exact ⟨HBA.out, rfl⟩
      · have HJ2 : Hid ((if e < sa then joinG (T.map pbT ++ [(sa, bs)]) (sa + bs.length) (P.drop (k + 1)) else joinG (addL (T.map pbT) bs) (sa + bs.length) (P.drop (k + 1))) = R) := by show _ = _; rw [← HJ.out, if_neg c1]
        clear HJ
        by_cases c2 : e < sa
        · have c2i : sa > e := c2
          have HJ3 : Hid (joinG (T.map pbT ++ [(sa, bs)]) (sa + bs.length) (P.drop (k + 1)) = R) := by show _ = _; rw [← HJ2.out, if_pos c2]
          have HL1 := hidD (last1 wr (.cells #[.int .i64 sa, .slice sp sn sc] (36 : TypeId)) (.cells #[.int .i64 sa, .slice none 0 0] (36 : TypeId)))
          have HL0 := hidD (last0 wr (.cells #[.int .i64 sa, .slice sp sn sc] (36 : TypeId)) (.cells #[.int .i64 sa, .slice none 0 0] (36 : TypeId)))
          have HBA := hidD (HBW.out.trans (HAL.out.mono HBW.out.size))
          have HBB := hidD (HBA.out.alloc (by have := HBW.out.size; simp; omega) (.cells #[.int .i64 sa, .slice none 0 0] (36 : TypeId)))
          clear HJ2 c1 c2
          have HLE : Hid (T.length + 1 ≤ 4398046511104) := by show _ ≤ _; omega
          go_wp2_with (at_builtin; go_loud (refine wpList_append_sg rfl _ _ rfl w.heap.size (.slice la T.length lc) T.length (flatB T) rfl (row_below (row_below HSG.out.1 HAL.out) ((Below.refl _ _).alloc (Nat.le_refl _) _)) (wr.heap.size + 1) (.int .i64 sa) (.slice none 0 0) rfl HL1.out rfl rfl HLE.out HBB.out.size ?_; intro v4 w4 ho4 hg4; have HO4 := hidD ho4; have HG4 := hidD hg4; obtain ⟨g4, c4, rfl, hgb4, hgl4, hgc4⟩ := row_shapeC ho4 (by omega); clear ho4 hg4))
          have HB4 := hidD (row_grown (row_below (row_below HSG.out.1 HAL.out) ((Below.refl _ _).alloc (Nat.le_refl _) (.cells #[.int .i64 sa, .slice none 0 0] (36 : TypeId)))) HBB.out HG4.out HBB.out.size)
          have hla : ∀ b, Value.ownBlock (.slice la T.length lc) = some b → b < wr.heap.size := fun b hb => (row_block HSG.out.1 hb).2.1
          have HA4 : Hid (w4.heap[wr.heap.size]? = some (.cells #[.int .i64 sa, .slice sp sn sc] (36 : TypeId) (0, 0))) := (HG4.out.block _ (row_lt HL0.out) (fun hh => Nat.lt_irrefl _ (hla _ hh.symm))).trans HL0.out
          have HR4 : Hid (∀ t ∈ T, RowB w4 w.heap.size t) := fun t ht => rowB_keep (HSG.out.2 t ht) fun b hb => by
            have h1 := row_block (HSG.out.2 t ht).1 hb
            refine (HG4.out.block b (by simp; omega) (fun hh => blocks_apart (HSG.out.2 t ht).1 HSG.out.1 hb hh.symm rfl)).trans ?_
            exact (((Below.refl _ _).alloc (Nat.le_refl _) (.cells #[.int .i64 sa, .slice none 0 0] (36 : TypeId))).block b (by simp; omega)).trans (HAL.out.block b h1.2.1)
          have HO4' : Hid (w4.ownsRow w.heap.size 36 2 (.slice (some ⟨g4, 0, none⟩) (T.length + 1) c4) (T.length + 1) (flatB (T ++ [(sa, .slice none 0 0, [])]))) := by show World.ownsRow _ _ _ _ _ _ _; rw [flatB_app]; exact HO4.out
          have hne : g4 ≠ wr.heap.size := temp_apart HO4'.out HA4.out (fun hh => by cases hh; omega)
          obtain ⟨d1, -, hgl4, hgb4⟩ := segs_last HO4'.out rfl
          have hal : wr.heap.size < w4.heap.size := row_lt HA4.out
          have d2 : w4.cell? ⟨wr.heap.size, 1, none⟩ = some (.slice sp sn sc) := by rw [cell_of_row _ _ _ _ _ _ HA4.out]; rfl
          obtain ⟨a, HAE⟩ : ∃ a, Hid (wr.heap.size = a) := ⟨_, rfl⟩
          rw [HAE.out] at HA4 hne hal d2 ⊢
          clear HL1 HL0 HAL HBA HBB k0 k1 hla HO4 HG4 hgc4
          have HKK : Hid (∀ w', Below w4.heap.size w4 w' → ∃ i : KB w4 [g4, a], w' = i.v) := fun w' hb => ⟨⟨w', fun y hy => by
            simp only [List.mem_cons, List.not_mem_nil, or_false] at hy
            rcases hy with rfl | rfl
            · exact hb.block _ hgl4
            · exact hb.block _ hal⟩, rfl⟩
          have e1 : ∀ i : KB w4 [g4, a], i.v.cell? ⟨g4, T.length * 2 + 1, none⟩ = some (.slice none 0 0) := fun i => (i.cell (b := g4) (by simp) _).trans d1
          have e2 : ∀ i : KB w4 [g4, a], i.v.cell? ⟨a, 1, none⟩ = some (.slice sp sn sc) := fun i => (i.cell (b := a) (by simp) _).trans d2
          clear d1 d2
          refine wp_region_seg [0, 0, 0, 0, 0, 0, 0, 1, 2, 2, 99] 1 10 [g4, a] (by kernel_rfl) (by kernel_rfl) (by kernel_rfl) (by kernel_rfl) (by kernel_rfl) (by kernel_rfl) (by kernel_rfl) (by kernel_rfl) (fun _ _ _ _ _ h => h) ?_
          simp only [SegW, pk, Nat.reduceMul, Nat.reduceAdd, Nat.reduceBEq, cond_true, cond_false]
          repeat (go_big_quiet_step (fail))
          refine wpQuiet_nil ?_
          have HD0 : Hid (Below w4.heap.size w4 w4.drew) := below_drewN (Below.refl _ _) 1
          have HSRC : Hid (ByAt w4.drew (.slice sp sn sc) bs) := HBX.out.next (HB4.out.trans (HD0.out.mono HB4.out.size))
          refine wpList_append_by rfl _ _ rfl w4.heap.size (.slice none 0 0) 0 [] rfl (World.ownsRow_nil _ _ _ _) (.slice sp sn sc) bs rfl HSRC.out (by have := HLEN.out; omega) (Nat.le_refl _) ?_
          intro v5 w5 ho5 hg5
          rw [Nat.zero_add, List.nil_append] at ho5
          obtain ⟨gx, cx, rfl, hgx, _, _⟩ := row_shapeC ho5 (by have := HLEN.out; omega)
          have HO5 := hidD ho5
          have HG5 := hidD hg5
          clear ho5 hg5
          go_wp2_with fail
          have HB5 : Hid (Below w4.heap.size w4 w5) := nil_below HD0.out HG5.out (Nat.le_refl _)
          refine ⟨HKK.out _ HB5.out, ?_⟩
          repeat (go_big_quiet_step (fail))
          refine wpQuiet_nil ?_
          have HL5 := hidD (row_keep HO4'.out (fun b hb => HB5.out.block b (row_block HO4'.out hb).2.1))
          have HA5 := hidD ((HB5.out.block _ hal).trans HA4.out)
          obtain ⟨d1, f1, -, -⟩ := segs_last HL5.out rfl
          rw [HLEN.out] at HO5 ⊢
          have HP := hidD (segs_put HL5.out rfl (.slice (some ⟨gx, 0, none⟩) sn cx) bs)
          have HQ := hidD ((heap_setCell_other w5 ⟨g4, T.length * 2 + 1, none⟩ a (.slice (some ⟨gx, 0, none⟩) sn cx) (Ne.symm hne)).trans HA5.out)
          have HX5 := hidD (row_set (g := g4) (o := T.length * 2 + 1) HO5.out (fun b hb => by have h1 := (row_block HO5.out hb).1; omega) (.slice (some ⟨gx, 0, none⟩) sn cx))
          have HR5 : Hid (∀ t ∈ T, RowB (w5.setCell ⟨g4, T.length * 2 + 1, none⟩ (.slice (some ⟨gx, 0, none⟩) sn cx)) w.heap.size t) := fun t ht => rowB_keep (HR4.out t ht) fun b hb => by
            have h1 := row_block (HR4.out t ht).1 hb
            exact (heap_setCell_other w5 ⟨g4, T.length * 2 + 1, none⟩ b _ (blocks_apart (HR4.out t ht).1 HO4'.out hb rfl)).trans (HB5.out.block b h1.2.1)
          have HBL : Hid (∀ t ∈ T, ∀ b, t.2.1.ownBlock = some b → b < w4.heap.size) := fun t ht b hb => (row_block (HR4.out t ht).1 hb).2.1
          have d2 : (w5.setCell ⟨g4, T.length * 2 + 1, none⟩ (.slice (some ⟨gx, 0, none⟩) sn cx)).cell? ⟨a, 0, none⟩ = some (.int .i64 sa) := by rw [cell_of_row _ _ _ _ _ _ HQ.out]; rfl
          have d3 : (w5.setCell ⟨g4, T.length * 2 + 1, none⟩ (.slice (some ⟨gx, 0, none⟩) sn cx)).cell? ⟨a, 1, none⟩ = some (.slice sp sn sc) := by rw [cell_of_row _ _ _ _ _ _ HQ.out]; rfl
          have HB6 := hidD (HB4.out.trans (HB5.out.mono HB4.out.size))
          go_wp2_with fail
          go_roundw
          case rel =>
            refine ⟨k + 1, sa + sn, by omega, by go_num, by go_num, HB6.out.setCell (p := ⟨g4, T.length * 2 + 1, none⟩) hgb4 (.slice (some ⟨gx, 0, none⟩) sn cx), T ++ [(sa, .slice (some ⟨gx, 0, none⟩) sn cx, bs)], ⟨?_, ?_⟩, ?_, ?_, ?_, ?_⟩
            · rw [List.length_append, List.length_singleton]; exact HP.out
            · intro t ht
              rcases List.mem_append.1 ht with ht | ht
              · exact HR5.out t ht
              · rw [List.mem_singleton] at ht
                subst ht
                refine ⟨?_, by show 0 < bs.length; rw [HLEN.out]; exact hf2⟩
                show World.ownsRow _ _ _ _ _ bs.length _
                rw [HLEN.out]
                exact row_mono HX5.out HB4.out.size
            · intro T0 t ht
              obtain ⟨h1, h2⟩ := List.append_inj' ht rfl
              cases h2
              subst h1
              refine ⟨w4.heap.size, ?_, HBL.out⟩
              show World.ownsRow _ _ _ _ _ bs.length _
              rw [HLEN.out]
              exact HX5.out
            · have := HJ3.out
              rw [HLEN.out] at this
              rw [List.map_append]
              exact this
            · rw [List.length_append, List.length_singleton]; omega
            · refine .inr ⟨T, _, rfl, ?_, hf0, by omega⟩
              show _ = sa + (bs.length : Int)
              rw [HLEN.out]
          case measure => simp [intOf]; omega
        · have c2i : ¬ sa > e := c2
          have hee : e = sa := by omega
          obtain ⟨T0, t, HT, hte1, hte2, hte3⟩ : ∃ T0 t, Hid (T = T0 ++ [t]) ∧ e = t.1 + t.2.2.length ∧ 0 ≤ t.1 ∧ e ≤ 65536 := by
            rcases HTE.out with ⟨_, h1⟩ | ⟨T0, t, h1, h2, h3, h4⟩
            · omega
            · exact ⟨T0, t, h1, h2, h3, h4⟩
          have hTl : T.length = T0.length + 1 := by rw [HT.out, List.length_append]; rfl
          have HJ3 : Hid (joinG (T0.map pbT ++ [(t.1, t.2.2 ++ bs)]) (sa + bs.length) (P.drop (k + 1)) = R) := by
            show _ = _
            rw [← HJ2.out, if_neg c2, HT.out, List.map_append]
            show _ = joinG (addL (T0.map pbT ++ [(t.1, t.2.2)]) bs) _ _
            rw [addL_snoc]
          obtain ⟨b0', hb0', hoth'⟩ := HLA.out T0 t HT.out
          have HRT := hidD (HSG.out.2 t (by rw [HT.out]; simp))
          have HRO : Hid (∀ s ∈ T0, RowB wr w.heap.size s) := fun s hs => HSG.out.2 s (by rw [HT.out]; exact List.mem_append_left _ hs)
          obtain ⟨gt, tc, htv, hgt, hgtl, htc⟩ := row_shapeC HRT.out.1 HRT.out.2
          have hgb : b0' ≤ gt := (row_block hb0' (by rw [htv]; rfl)).1
          obtain ⟨b0, HB0, hb0t, hb0w⟩ : ∃ b0, Hid (∀ s ∈ T0, ∀ b, s.2.1.ownBlock = some b → b < b0) ∧ b0 ≤ gt ∧ w.heap.size ≤ b0 := ⟨max b0' w.heap.size, fun s hs b hb => Nat.lt_of_lt_of_le (hoth' s hs b hb) (Nat.le_max_left _ _), Nat.max_le.2 ⟨hgb, hgt⟩, Nat.le_max_right _ _⟩
          clear hb0' hoth' hgb
          have HLR : Hid (wr.ownsRow w.heap.size 36 2 (.slice la (T0.length + 1) lc) (T0.length + 1) (flatB (T0 ++ [t]))) := by have := HSG.out.1; rw [hTl, HT.out] at this; exact this
          obtain ⟨gl, lc', hlv, -, -, -⟩ := row_shapeC HLR.out (by omega)
          cases hlv
          rw [hTl]
          obtain ⟨t1, t2, tb⟩ := t
          change t2 = .slice (some ⟨gt, 0, none⟩) tb.length tc at htv
          subst htv
          change e = t1 + tb.length at hte1
          change 0 ≤ t1 at hte2
          obtain ⟨tn, HTN⟩ : ∃ tn, Hid (tb.length = tn) := ⟨_, rfl⟩
          have htn : tn ≤ 65536 := by have := HTN.out; omega
          rw [HTN.out] at hte1
          have HOT : Hid (wr.ownsRow b0 5 1 (.slice (some ⟨gt, 0, none⟩) tb.length tc) tb.length (tb.map encB)) := row_at HRT.out.1 HRT.out.2 (fun b hb => by cases hb; exact hb0t)
          rw [HTN.out] at HLR HOT
          have HA4 := hidD (heap_alloc_last wr (.cells #[.int .i64 sa, .slice sp sn sc] (36 : TypeId)))
          have HL4 := hidD (row_below HLR.out HAL.out)
          have HOT4 := hidD (row_below HOT.out HAL.out)
          have HB4 := hidD (HBW.out.trans (HAL.out.mono HBW.out.size))
          have HT0 := hidD hb0t
          have hgla : gl ≠ gt := fun hh => blocks_apart HOT.out HLR.out rfl rfl hh.symm
          have hk3 : T.length ≤ k := htk
          clear HJ2 c1 c2 HTE HLA HSG
          go_wp2_with fail
          clear k0 k1
          have hal : wr.heap.size < (wr.alloc (.cells #[.int .i64 sa, .slice sp sn sc] (36 : TypeId))).heap.size := row_lt HA4.out
          have hagt : wr.heap.size ≠ gt := Nat.ne_of_gt hgtl
          have hb0s : b0 ≤ wr.heap.size := Nat.le_trans hb0t (Nat.le_of_lt hgtl)
          have HO4 : Hid (∀ s ∈ T0, ∀ b, s.2.1.ownBlock = some b → (wr.alloc (.cells #[.int .i64 sa, .slice sp sn sc] (36 : TypeId))).heap[b]? = wr.heap[b]?) := fun s hs b hb => HAL.out.block b (row_block (HRO.out s hs).1 hb).2.1
          obtain ⟨a, HAE⟩ : ∃ a, Hid (wr.heap.size = a) := ⟨_, rfl⟩
          rw [HAE.out] at HA4 hal hgtl hagt hb0s ⊢
          have HRA : Hid (∀ s ∈ T0, ∀ b, s.2.1.ownBlock = some b → b < a) := fun s hs b hb => by rw [← HAE.out]; exact (row_block (HRO.out s hs).1 hb).2.1
          clear HAL
          generalize wr.alloc (.cells #[.int .i64 sa, .slice sp sn sc] (36 : TypeId)) = w4 at *
          obtain ⟨d1, -, hgl4, hgb4⟩ := segs_last HL4.out rfl
          have hne : gl ≠ a := by
            have h1 := (row_block HLR.out rfl).2.1
            rw [HAE.out] at h1
            exact Nat.ne_of_lt h1
          have d2 : w4.cell? ⟨a, 1, none⟩ = some (.slice sp sn sc) := by rw [cell_of_row _ _ _ _ _ _ HA4.out]; rfl
          have e1 : ∀ i : KB w4 [gl, a], i.v.cell? ⟨gl, T0.length * 2 + 1, none⟩ = some (.slice (some ⟨gt, 0, none⟩) tn tc) := fun i => (i.cell (b := gl) (by simp) _).trans d1
          have e2 : ∀ i : KB w4 [gl, a], i.v.cell? ⟨a, 1, none⟩ = some (.slice sp sn sc) := fun i => (i.cell (b := a) (by simp) _).trans d2
          clear d1 d2
          refine wp_region_seg [0, 0, 0, 0, 0, 0, 0, 1, 2, 2, 99] 1 10 [gl, a] (by kernel_rfl) (by kernel_rfl) (by kernel_rfl) (by kernel_rfl) (by kernel_rfl) (by kernel_rfl) (by kernel_rfl) (by kernel_rfl) (fun _ _ _ _ _ h => h) ?_
          simp only [SegW, pk, Nat.reduceMul, Nat.reduceAdd, Nat.reduceBEq, cond_true, cond_false]
          repeat (go_big_quiet_step (fail))
          refine wpQuiet_nil ?_
          have HD0 : Hid (Below w4.heap.size w4 w4.drew) := below_drewN (Below.refl _ _) 1
          have HSRC : Hid (ByAt w4.drew (.slice sp sn sc) bs) := HBX.out.next (HB4.out.trans (HD0.out.mono HB4.out.size))
          have HOD := hidD (row_below HOT4.out HD0.out)
          refine wpList_append_by rfl _ _ rfl b0 (.slice (some ⟨gt, 0, none⟩) tn tc) tn (tb.map encB) rfl HOD.out (.slice sp sn sc) bs rfl HSRC.out (by have := HLEN.out; omega) (Nat.le_trans hb0s (Nat.le_of_lt hal)) ?_
          intro v5 w5 ho5 hg5
          rw [← List.map_append] at ho5
          have HNN : Hid (tn + bs.length = (tb ++ bs).length) := by show _ = _; rw [List.length_append, HTN.out]
          obtain ⟨gx, cx, rfl, hgx, _, _⟩ := row_shapeC ho5 (by have := HLEN.out; omega)
          rw [HLEN.out] at ho5
          have HO5 := hidD ho5
          have HG5 := hidD hg5
          clear ho5 hg5
          rw [HLEN.out]
          go_wp2_with fail
          have HB5 : Hid (Below w.heap.size w w5) := row_grown (row_mono HOD.out hb0w) (HB4.out.trans (HD0.out.mono HB4.out.size)) HG5.out (Nat.le_trans HB4.out.size (Nat.le_refl _))
          have b1 : w5.heap[gl]? = w4.heap[gl]? := HG5.out.block gl hgl4 (fun hh => hgla (Option.some.inj hh))
          have b2 : w5.heap[a]? = w4.heap[a]? := HG5.out.block a hal (fun hh => hagt (Option.some.inj hh))
          have HOB : Hid (∀ s ∈ T0, ∀ b, s.2.1.ownBlock = some b → w5.heap[b]? = wr.heap[b]?) := fun s hs b hb => by
            have h1 := HB0.out s hs b hb
            have h2 := HRA.out s hs b hb
            exact (HG5.out.block b (by show b < w4.heap.size; omega) (fun hh => by have h3 : b = gt := Option.some.inj hh; have h4 := HT0.out; omega)).trans (HO4.out s hs b hb)
          refine ⟨⟨⟨w5, fun y hy => by
            simp only [List.mem_cons, List.not_mem_nil, or_false] at hy
            rcases hy with rfl | rfl
            · exact b1
            · exact b2⟩, rfl⟩, ?_⟩
          repeat (go_big_quiet_step (fail))
          refine wpQuiet_nil ?_
          have HL5 := hidD (row_keep HL4.out (fun b hb => by cases hb; exact b1))
          have HA5 := hidD (b2.trans HA4.out)
          obtain ⟨d1, f1, -, -⟩ := segs_last HL5.out rfl
          have HP := hidD (segs_put HL5.out rfl (.slice (some ⟨gx, 0, none⟩) (tn + sn) cx) (tb ++ bs))
          have HQ := hidD ((heap_setCell_other w5 ⟨gl, T0.length * 2 + 1, none⟩ a (.slice (some ⟨gx, 0, none⟩) (tn + sn) cx) (Ne.symm hne)).trans HA5.out)
          have HX5 := hidD (row_set (g := gl) (o := T0.length * 2 + 1) HO5.out (fun b hb => blocks_apart HO5.out HL5.out hb rfl) (.slice (some ⟨gx, 0, none⟩) (tn + sn) cx))
          have HR5 : Hid (∀ s ∈ T0, RowB (w5.setCell ⟨gl, T0.length * 2 + 1, none⟩ (.slice (some ⟨gx, 0, none⟩) (tn + sn) cx)) w.heap.size s) := fun s hs => rowB_keep (HRO.out s hs) fun b hb =>
            (heap_setCell_other w5 ⟨gl, T0.length * 2 + 1, none⟩ b _ (blocks_apart (HRO.out s hs).1 HLR.out hb rfl)).trans (HOB.out s hs b hb)
          have d2 : (w5.setCell ⟨gl, T0.length * 2 + 1, none⟩ (.slice (some ⟨gx, 0, none⟩) (tn + sn) cx)).cell? ⟨a, 0, none⟩ = some (.int .i64 sa) := by rw [cell_of_row _ _ _ _ _ _ HQ.out]; rfl
          have d3 : (w5.setCell ⟨gl, T0.length * 2 + 1, none⟩ (.slice (some ⟨gx, 0, none⟩) (tn + sn) cx)).cell? ⟨a, 1, none⟩ = some (.slice sp sn sc) := by rw [cell_of_row _ _ _ _ _ _ HQ.out]; rfl
          clear b1 b2
          go_wp2_with fail
          go_roundw
          case rel =>
            refine ⟨k + 1, sa + sn, by omega, by go_num, by go_num, HB5.out.setCell (p := ⟨gl, T0.length * 2 + 1, none⟩) hgb4 (.slice (some ⟨gx, 0, none⟩) (tn + sn) cx), T0 ++ [(t1, .slice (some ⟨gx, 0, none⟩) (tn + sn) cx, tb ++ bs)], ⟨?_, ?_⟩, ?_, ?_, ?_, ?_⟩
            · rw [List.length_append, List.length_singleton]; exact HP.out
            · intro s hs
              rcases List.mem_append.1 hs with hs | hs
              · exact HR5.out s hs
              · rw [List.mem_singleton] at hs
                subst hs
                refine ⟨?_, by show 0 < (tb ++ bs).length; rw [List.length_append, HLEN.out]; omega⟩
                show World.ownsRow _ _ _ _ _ (tb ++ bs).length _
                rw [← HNN.out, HLEN.out]
                exact row_mono HX5.out hb0w
            · intro T1 s hs
              obtain ⟨h1, h2⟩ := List.append_inj' hs rfl
              cases h2
              subst h1
              refine ⟨b0, ?_, HB0.out⟩
              show World.ownsRow _ _ _ _ _ (tb ++ bs).length _
              rw [← HNN.out, HLEN.out]
              exact HX5.out
            · have := HJ3.out
              rw [HLEN.out] at this
              rw [List.map_append]
              exact this
            · rw [List.length_append, List.length_singleton]; omega
            · refine .inr ⟨T0, _, rfl, ?_, hte2, by omega⟩
              show _ = t1 + ((tb ++ bs).length : Int)
              rw [← HNN.out, HLEN.out]
              omega
          case measure => simp [intOf]; omega
    · obtain rfl : k = L.length := by omega
      have HRS : Hid (R = some (T.map pbT)) := by show _ = _; rw [← hjn, HPE.out]; rfl
      have hlt' : ¬ (L.length : Int) < L.length := by omega
      clear hjn HPD HPE HC HBY HFT HLA HTE hlt
      go_wp2_with fail
      go_ret2
      have hrs := HRS.out
      simp only [Option.some.injEq] at hrs
      exact ⟨HBW.out, _, rfl, T, hrs.symm, HSG.out⟩
end Go.Proofs.YtpemajghaceegaaGreatDoor
