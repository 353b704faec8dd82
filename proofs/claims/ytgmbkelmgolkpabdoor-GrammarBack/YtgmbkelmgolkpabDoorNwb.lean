/- What New answers. -/
import Derived.Test.YtgmbkelmgolkpabDoorNwa
namespace Go.Proofs.YtgmbkelmgolkpabDoor
open Go.RowKit Go.Maps
set_option linter.unusedVariables false

def newE (T O : List Tx) (s : Tx) (L : List (List Tx)) : Int :=
  if gdF T O && decide ((T.length : Int) < vaF (nuF T O) s) then
    if L.all (roF (nuF T O) T.length) && decide (1 ≤ L.length) then
      if decide (L.length ≤ 128) && decide ((allN T O).length ≤ 128) then 0 else 3
    else 130
  else 130
theorem IrAt.mapped {w w' : World} {B b : Nat} {v : Value} {ss : List Int} (h : IrAt w B v ss) (hb : ∃ es clock, w.heap[b]? = some (.map es clock)) (hg : w.grownBy w' (some b)) : IrAt w' B v ss := h.kept fun g _ _ ⟨cs, hc⟩ => kept_mapped hb hg hc
theorem RuB.mapped {w w' : World} {B b : Nat} {xs : List Value} {R : List (Nat × List Int)} (h : RuB w B xs R) (hb : ∃ es clock, w.heap[b]? = some (.map es clock)) (hg : w.grownBy w' (some b)) : RuB w' B xs R := ⟨h.1, fun k hk' => by
  obtain ⟨u, h1, h2, h3⟩ := h.2 k hk'
  exact ⟨u, h1, h2, h3.mapped hb hg⟩⟩
theorem kept_of_but {w w' : World} {g : Nat} {cs : Array Value} {t : TypeId} (hc : CsAt w g cs t) (hb : But g w w') : Kept t w w' := fun b hl hne => hb.rest b hl fun e => by
  subst e
  exact hne cs hc
theorem below_but {B g : Nat} {a w w' : World} (h : Below B a w) (hb : But g w w') (hg : B ≤ g) : Below B a w' := h.trans (hb.bel.mono hg)
theorem one_two (a b : Int) : (#[Value.int .u64 a, Value.int .u64 b] : Array Value).all (·.oneCell') = true := all_oneCell_toArray (cs := [Value.int .u64 a, Value.int .u64 b]) (by intro v hv; simp only [List.mem_cons, List.not_mem_nil, or_false] at hv; rcases hv with rfl | rfl <;> rfl)
theorem ret_pair {v : Value} {a b : Int} (h : a = b) : Ending.returned (.tuple #[v, .int .i64 a]) = .returned (.tuple #[v, .int .i64 b]) := by rw [h]
set_option maxRecDepth 100000 in
set_option maxHeartbeats 3200000 in
theorem new_any (T O : List Tx) (hT : TxOk T) (hO : TxOk O) (hl : T.length + O.length ≤ 4398046510000) (s : Tx) (hsl : s.length ≤ maxLen) (L : List (List Tx)) (hok : LxOk L) (hll : L.length ≤ 4398046511000) (hrl : ∀ r ∈ L, r.length ≤ 1048576) (Bt Bo : Nat) (t o v : Value) (w : World) (ht : SrAt w Bt t T) (ho : SrAt w Bo o O) (hv : RlAt w v L) : Calls Tryd.prog 30 #[t, o, encT s, v] w fun e w' =>
    Below w.heap.size w w' ∧ (newE T O s L ≠ 0 → e = .returned (.tuple #[.pointer none, .int .i64 (newE T O s L)])) ∧ (newE T O s L = 0 → ∃ p nul bg fo, e = .returned (.tuple #[.pointer (some ⟨p, 0, none⟩), .int .i64 0]) ∧ w.heap.size ≤ p ∧ GfAt w' p T O (vaF (nuF T O) s).toNat (L.map (rnF (nuF T O))) nul bg fo) := by
  have HNE : Hid (newE T O s L = if gdF T O && decide ((T.length : Int) < vaF (nuF T O) s) then (if L.all (roF (nuF T O) T.length) && decide (1 ≤ L.length) then (if decide (L.length ≤ 128) && decide ((allN T O).length ≤ 128) then 0 else 3) else 130) else 130) := rfl
  have hlen := allN_len T O
  have HNUM := hidD (numbered_any T O hT hO (by omega) Bt Bo t o w ht ho)
  have HRUL := hidD (fun w' (hb : Below w.heap.size w w') b nb (hm : MpAt w' b nb (nuF T O)) => rulesOf_any L hok hll (fun r hr => by have := hrl r hr; omega) (nuF T O) (va_nn T O) (fun x => by have := va_le T O x; omega) T.length (by omega) b nb v w' (hv.next hb) hm)
  have HVA : Hid (∀ x, (nuF T O x).getD 0 = vaF (nuF T O) x) := fun _ => rfl
  have HT := hidD ht
  have HO := hidD ho
  have hvn := va_nn T O s
  have hvl := va_le T O s
  obtain ⟨at1, ct1, rfl⟩ := ht.shape
  obtain ⟨ao1, co1, rfl⟩ := ho.shape
  have HMX := hidD (fun f : Nat => (rfl : f = f))
  obtain ⟨av, cv, rfl, _⟩ := hv
  have HROK := hidD (fun h => ru_ok (T := T) (O := O) (L := L) h hrl)
  have HTE : Hid (tEnd.length ≤ maxLen) := by show _ ≤ _; decide
  have hsl2 := hsl
  have HCC : Hid (∀ w', Below w.heap.size w w' → Calls Tryd.prog 48 #[.slice (some ⟨w'.heap.size + 1, 0, none⟩) 3 3] ((w'.alloc (.cells #[.string ⟨#[36]⟩] (9 : TypeId))).alloc (.cells #[.slice at1 T.length ct1, .slice (some ⟨w'.heap.size, 0, none⟩) 1 1, .slice ao1 O.length co1] (48 : TypeId))) fun e w'' => ∃ u, e = .returned u ∧ w''.ownsRow w.heap.size 9 1 u (allN T O).length ((allN T O).map encT) ∧ Below w'.heap.size w' w'') := fun w' hb => by
    have hr3 := rl_three (ht.next hb) (ho.next hb)
    have hfl : ([T, [tEnd], O] : List (List Tx)).flatten = allN T O := rfl
    refine (concatT_any [T, [tEnd], O] (by simp) (by rw [hfl]; omega) (by rw [hfl]; omega) _ _ hr3).mono fun e w'' hx => ?_
    obtain ⟨u, h1, h2, h3⟩ := hx
    have hB : Below w'.heap.size w' ((w'.alloc (.cells #[.string ⟨#[36]⟩] (9 : TypeId))).alloc (.cells #[.slice at1 T.length ct1, .slice (some ⟨w'.heap.size, 0, none⟩) 1 1, .slice ao1 O.length co1] (48 : TypeId))) := ((Below.refl _ _).alloc (Nat.le_refl _) _).alloc (by simp) _
    exact ⟨u, h1, row_mono h2 (by have := hb.size; have := hB.size; omega), hB.trans (h3.mono hB.size)⟩
  clear hT hO hok ht ho
  generalize hf : nuF T O = f at *
  generalize hvs : vaF f s = vs at *
  have HVS := hidD hvs
  clear hvs
  generalize hA : allN T O = A at *
  generalize hAn : A.length = n at *
  generalize hTn : T.length = tl at *
  generalize hOn : O.length = ol at *
  generalize hLn : L.length = ln at *
  have HF := hidD hf
  have HA := hidD hA
  have HAN := hidD hAn
  have HTN := hidD hTn
  have HON := hidD hOn
  have HLN := hidD hLn
  have HLE := hidD hlen
  clear hf hA hAn hTn hOn hLn hlen
  unfold encT
  have hln64 : ln ≤ 4398046511000 := hll
  cases hg : gdF T O with
  | false =>
    rw [hg] at HNE HNUM
    rw [Bool.false_and, if_neg (by decide)] at HNE
    clear hg
    go_enter Tryd.func30, Tryd.ntmps30
    go_wp2_with (go_at_call 46; refine HNUM.out.mono ?_; rintro e w2 ⟨h1, h2, hb2⟩; have h3 := h2 (by first | rfl | trivial); subst h3; have HB2 := hidD hb2; clear h1 h2 hb2)
    refine bodyPost_ret (v := .tuple #[.pointer none, .int .i64 130]) (by simp [results, Tryd.results30, go_sem]) rfl ?_
    exact ⟨HB2.out, fun _ => by rw [HNE.out], fun h => by rw [HNE.out] at h; cases h⟩
  | true =>
    rw [hg] at HNE HNUM
    rw [Bool.true_and] at HNE
    clear hg
    by_cases hv0 : (tl : Int) < vs
    · rw [decide_eq_true hv0, if_pos rfl] at HNE
      have hle : ¬ vs ≤ (tl : Int) := by omega
      have hled : decide (vs ≤ (tl : Int)) = false := decide_eq_false hle
      cases hall : L.all (roF f tl) with
      | false =>
        rw [hall] at HNE HRUL
        rw [Bool.false_and, if_neg (by decide)] at HNE
        clear hall
        go_enter Tryd.func30, Tryd.ntmps30
        go_wp2_with (first
          | (go_at_call 46; refine HNUM.out.mono ?_; rintro e w2 ⟨h1, h2, hb2⟩; obtain ⟨b, nb, h3, hnb, hmp, hbb⟩ := h1 (by first | rfl | trivial); subst h3; have hlk := hmp.look hsl; rw [HVA.out, HVS.out] at hlk; have HB2 := hidD hb2; have HM2 := hidD hmp; clear h1 h2 hb2 hmp)
          | (go_at_call 47; refine (HRUL.out _ HB2.out _ _ HM2.out).mono ?_; rintro e w3 ⟨h1, h2, hb3⟩; have h3 := h2 (by first | rfl | trivial); subst h3; have HB3 := hidD (Below.next HB2.out hb3); clear h1 h2 hb3))
        refine bodyPost_ret (v := .tuple #[.pointer none, .int .i64 130]) (by simp [results, Tryd.results30, go_sem]) rfl ?_
        exact ⟨HB3.out, fun _ => by rw [HNE.out], fun h => by rw [HNE.out] at h; cases h⟩
      | true =>
        have HOKR := hidD (HROK.out hall)
        rw [hall] at HNE HRUL
        rw [Bool.true_and] at HNE
        clear hall
        by_cases h0 : 1 ≤ ln
        · rw [decide_eq_true h0, if_pos rfl] at HNE
          have h0i : ((ln : Int) == 0) = false := beq_eq_false_iff_ne.2 (by omega)
          have h0d : decide ((ln : Int) = 0) = false := decide_eq_false (by omega)
          have h0n : ¬ (ln : Int) = 0 := by omega
          by_cases h128 : ln ≤ 128 ∧ n ≤ 128
          · rw [decide_eq_true h128.1, decide_eq_true h128.2] at HNE
            have c1 : ¬ (128 : Int) < (ln : Int) := by omega
            have c2 : ¬ (128 : Int) < (tl : Int) + 1 + (ol : Int) := by have := HLE.out; omega
            have c1d : decide ((128 : Int) < (ln : Int)) = false := decide_eq_false c1
            have c2d : decide ((128 : Int) < (tl : Int) + 1 + (ol : Int)) = false := decide_eq_false c2
            go_enter Tryd.func30, Tryd.ntmps30
            go_wp2_with (first
              | (go_at_call 46; refine HNUM.out.mono ?_; rintro e w2 ⟨h1, h2, hb2⟩; obtain ⟨b, nb, h3, hnb, hmp, hbb⟩ := h1 (by first | rfl | trivial); subst h3; have hlk := hmp.look hsl; rw [HVA.out, HVS.out] at hlk; have HB2 := hidD hb2; have HM2 := hidD hmp; have HBB := hidD hbb; have HNB := hidD hnb; clear h1 h2 hb2 hmp hbb hnb)
              | (go_at_call 47; refine (HRUL.out _ HB2.out _ _ HM2.out).mono ?_; rintro e w3 ⟨h1, h2, hb3⟩; obtain ⟨u, B, xs, h3, hown, hrub⟩ := h1 (by first | rfl | trivial); subst h3; obtain ⟨a4, c4, h4⟩ := row_shape hown; subst h4; have HB3 := hidD (Below.next HB2.out hb3); have HM3 := hidD (HM2.out.next hb3); have HOW3 := hidD (row_mono hown HB2.out.size); have HRB3 := hidD hrub; clear h1 h2 hb3 hown hrub))
            have HKK : Hid (∀ w', Below w3.heap.size w3 w' → ∃ i : KB w3 [b], w' = i.v) := fun w' hb => ⟨⟨w', fun x hx => by rw [List.mem_singleton] at hx; subst hx; exact hb.block x HM3.out.lt⟩, rfl⟩
            have k0 : ∀ i : KB w3 [b], (Instr.lookup 64 (.map (some b)) (.string (bA s)) false).run Tryd.prog i.v = .ok (.int .i64 vs) i.v := fun i => by
              have := (HM3.out.kept (i.keep b (by simp))).look hsl2
              rw [HVA.out, HVS.out] at this
              exact this
            obtain ⟨e1, he1⟩ : ∃ e1 : Nat, e1 = tl + 1 := ⟨_, rfl⟩
            have hwE : IntKind.i64.wrap ((tl : Int) + 1) = (e1 : Int) := by rw [IntKind.wrap_i64]; omega
            have HE1 := hidD he1
            clear he1
            have HDR : Hid (Below w3.heap.size w3 w3.drew) := (Below.refl _ _).drew
            have HA1 : Hid (∀ o, Below w3.heap.size w3 (w3.drew.alloc o)) := fun o => HDR.out.alloc (Nat.le_refl _) o
            have HA2 : Hid (∀ o o2, Below w3.heap.size w3 ((w3.drew.alloc o).alloc o2)) := fun o o2 => (HA1.out o).alloc (HA1.out o).size o2
            have HCD := hidD (HCC.out w3.drew (HB3.out.trans (HDR.out.mono HB3.out.size)))
            have HDS : Hid (w3.drew.heap.size = w3.heap.size) := rfl
            rw [HDS.out] at HCD
            refine wp_region_seg [0, 1, 0, 3, 5, 0, 0, 0, 0, 0, 0, 0, 99, 99, 99] 3 12 [b] (by kernel_rfl) (by kernel_rfl) (by kernel_rfl) (by kernel_rfl) (by kernel_rfl) (by kernel_rfl) (by kernel_rfl) (by kernel_rfl) (fun _ _ _ _ _ h => h) ?_
            simp only [SegW, pk, Nat.reduceMul, Nat.reduceAdd, Nat.reduceBEq, cond_true, cond_false]
            repeat (go_big_quiet_step (fail))
            refine wpQuiet_nil ?_
            go_wp2_with fail
            refine ⟨HKK.out _ (HA1.out _), ?_⟩
            repeat (go_big_quiet_step (fail))
            refine wpQuiet_nil ?_
            go_wp2_with fail
            refine ⟨HKK.out _ (HA2.out _ _), ?_⟩
            repeat (go_big_quiet_step (fail))
            refine wpQuiet_nil ?_
            go_wp2_with (go_at_call 48; refine HCD.out.mono ?_; rintro e w5 ⟨u5, rfl, ho5, hb5⟩; obtain ⟨a5, c5, h5⟩ := row_shape ho5; subst h5; have HS5 := hidD (sr_of_own ho5 HAN.out.symm); have HB5 : Hid (Below w3.heap.size w3 w5) := HDR.out.trans hb5; clear ho5 hb5)
            refine ⟨HKK.out _ HB5.out, ?_⟩
            repeat (go_big_quiet_step (fail))
            refine wpQuiet_nil ?_
            obtain ⟨sn, hsn⟩ : ∃ sn : Nat, (sn : Int) = vs := ⟨vs.toNat, Int.toNat_of_nonneg hvn⟩
            have hsn2 : sn = vs.toNat := by omega
            have hsnl : sn < n := by
              have h1 := va_lt (T := T) (O := O) (x := s) (by rw [HF.out, HVS.out]; omega)
              rw [HF.out, HVS.out, HA.out, HAN.out] at h1
              omega
            have HSN := hidD hsn2
            have HSNL := hidD hsnl
            have HSNT : Hid (tl < sn) := by show _ < _; omega
            have HT1 : Hid (1 ≤ e1 ∧ e1 ≤ 128) := by have := HE1.out; have := HLE.out; have := h128.2; exact ⟨by omega, by omega⟩
            have HN128 : Hid (n ≤ 128) := h128.2
            have HRLN : Hid ((L.map (rnF f)).length = ln) := by show _ = _; rw [List.length_map]; exact HLN.out
            have HL128 : Hid (ln ≤ 128) := h128.1
            generalize hRR : L.map (rnF f) = R at *
            have HRRE := hidD hRR
            clear hRR k0 hwE hlk hsn2 hsnl
            subst hsn
            obtain ⟨hz61, hsz61⟩ := zero_of_info Tryd.zero61
            obtain ⟨hz66, hsz66⟩ := zero_of_info Tryd.zero66
            have HI66 : Hid (∀ S, (Tryd.prog.info? 66).map (·.size) = some (ssC S).size) := fun S => by rw [hsz66, ss_size]
            have HI61 : Hid (∀ a b : Value, (Tryd.prog.info? 61).map (·.size) = some (#[a, b] : Array Value).size) := fun a b => by rw [hsz61]; rfl
            have HBLD := hidD (build68 a5 a4 n c5 ln c4 b (e1 : Int) (sn : Int))
            have HBW5 := hidD (Below.next HB3.out HB5.out)
            have HM5 := hidD (HM3.out.next HB5.out)
            have HOW5 := hidD (row_below HOW3.out HB5.out)
            have HRB5 := hidD (HRB3.out.next HB5.out)
            have HGT : Hid (∀ i, i < 519 → (g68 (.slice a5 n c5) (.map (some b)) (.int .i64 (e1 : Int)) (.int .i64 (sn : Int)) (.slice a4 ln c4))[i]? = some (if i = 0 then .slice a5 n c5 else if i = 1 then .map (some b) else if i = 2 then .int .i64 (e1 : Int) else if i = 3 then .int .i64 (sn : Int) else if i = 4 then .slice a4 ln c4 else Value.int .u64 0)) := fun i hi => g68_get _ _ _ _ _ hi
            have HGS : Hid ((g68 (.slice a5 n c5) (.map (some b)) (.int .i64 (e1 : Int)) (.int .i64 (sn : Int)) (.slice a4 ln c4)).size = 519) := g68_size _ _ _ _ _
            generalize hG : g68 (.slice a5 n c5) (.map (some b)) (.int .i64 (e1 : Int)) (.int .i64 (sn : Int)) (.slice a4 ln c4) = G at *
            clear hG
            have HAL : Hid (∀ o, Below w5.heap.size w5 (w5.alloc o)) := fun o => (Below.refl _ _).alloc (Nat.le_refl _) o
            have HP6 : Hid (CsAt (w5.alloc (.cells G (68 : TypeId))) w5.heap.size G 68) := heap_alloc_new _ _
            have HM6 := hidD (HM5.out.next (HAL.out (.cells G (68 : TypeId))))
            have HBW6 := hidD (Below.next HBW5.out (HAL.out (.cells G (68 : TypeId))))
            have HOW6 := hidD (row_below HOW5.out (HAL.out (.cells G (68 : TypeId))))
            have HRB6 := hidD (HRB5.out.next (HAL.out (.cells G (68 : TypeId))))
            have HS6 := hidD (HS5.out.next (HAL.out (.cells G (68 : TypeId))))
            have HPL : Hid (w.heap.size ≤ w5.heap.size) := HBW5.out.size
            clear HAL HM5 HOW5 HRB5 HS5 HBW5
            go_upto_region 11 with (refine wpList_build5 rfl 68 0 1 2 3 4 _ _ _ _ _ rfl (.slice a5 n c5) (.map (some b)) (.int .i64 (e1 : Int)) (.int .i64 (sn : Int)) (.slice a4 ln c4) (.agg G) rfl rfl rfl rfl rfl (HBLD.out _) ?_)
            generalize hw6 : w5.alloc (.cells G (68 : TypeId)) = w6 at *
            clear hw6
            generalize hpp : w5.heap.size = p at *
            clear hpp
            have HGRW : Hid (∀ w', CsAt w' p G 68 → w'.ownsRow w.heap.size 76 2 (.slice a4 ln c4) ln xs → RuB w' B xs R → Calls Tryd.prog 31 #[.pointer (some ⟨p, 0, none⟩), .agg #[.int .u64 0, .int .u64 0]] w' fun e w'' => ∃ X, e = .returned (.agg #[.int .u64 (lw X : Int), .int .u64 (hw X : Int)]) ∧ X < Top ∧ GrIs R 0 X ∧ Below w'.heap.size w' w'') := fun w' hc ho hr => grown_any R n HOKR.out HN128.out (by rw [HRLN.out]; have := HL128.out; omega) 0 (by decide) _ w' hc.lt ((hc.cell 4).trans (HGT.out 4 (by decide))) (ru_of_own ho HRLN.out.symm hr)
            have HBGN : Hid (∀ w' cs X, CsAt w' p cs 68 → cs[2]? = some (.int .i64 (e1 : Int)) → cs[4]? = some (.slice a4 ln c4) → SetIn cs 5 X → w'.ownsRow w.heap.size 76 2 (.slice a4 ln c4) ln xs → RuB w' B xs R → Calls Tryd.prog 49 #[.pointer (some ⟨p, 0, none⟩)] w' fun e w'' => ∃ Z, e = .returned (.agg (ssC Z)) ∧ (∀ x, Z x < Top) ∧ BgIs R X e1 Z ∧ Below w'.heap.size w' w'') := fun w' cs X hc h2 h4 h5 ho hr => beginnings_any R n HOKR.out HN128.out (by rw [HRLN.out]; have := HL128.out; omega) e1 HT1.out.2 X _ w' hc.lt ((hc.cell 2).trans h2) ((hc.cell 4).trans h4) (ru_of_own ho HRLN.out.symm hr) (h5.at hc)
            have HFOL : Hid (∀ w' cs X Z, CsAt w' p cs 68 → cs[0]? = some (.slice a5 n c5) → cs[2]? = some (.int .i64 (e1 : Int)) → cs[3]? = some (.int .i64 (sn : Int)) → cs[4]? = some (.slice a4 ln c4) → SetIn cs 5 X → (∀ x, Z x < Top) → (∀ x, x < 128 → SetIn cs (7 + x * 2) (Z x)) → w'.ownsRow w.heap.size 76 2 (.slice a4 ln c4) ln xs → RuB w' B xs R → Calls Tryd.prog 50 #[.pointer (some ⟨p, 0, none⟩)] w' fun e w'' => ∃ Y, e = .returned (.agg (ssC Y)) ∧ (∀ x, Y x < Top) ∧ FoIs R n e1 sn X Z Y ∧ Below w'.heap.size w' w'') := fun w' cs X Z hc h0 h2 h3 h4 h5 hz hb ho hr => followers_any R n HOKR.out HN128.out (by rw [HRLN.out]; have := HL128.out; omega) e1 HT1.out.2 HT1.out.1 sn (by have := HSNL.out; have := HN128.out; omega) X Z _ a5 c5 w' hc.lt ((hc.cell 0).trans h0) ((hc.cell 2).trans h2) ((hc.cell 3).trans h3) ((hc.cell 4).trans h4) (ru_of_own ho HRLN.out.symm hr) (h5.at hc) hz (fun x hx => (hb x hx).at hc)
            go_upto_region 13 with (first
              | (at_mapUpdate; refine wpList_map_put rfl _ _ _ rfl b nb f rfl HM6.out (by have := HNB.out; omega) tEnd (tl : Int) HTE.out (by omega) (by omega) rfl rfl ?_; intro w7 hm7 hg7; have HIS6 := hidD HM6.out.is; have HM7 := hidD hm7; have HP7 : Hid (CsAt w7 p G 68) := (kept_mapped HIS6.out hg7 HP6.out).trans HP6.out; have HBW7 := hidD (below_map HBW6.out hg7 HBB.out HBW6.out.size); have HOW7 := hidD (row_mapped HOW6.out HIS6.out hg7); have HRB7 := hidD (HRB6.out.mapped HIS6.out hg7); have HS7 := hidD (HS6.out.mapped HIS6.out hg7); clear hm7 hg7)
              | (go_at_call 31; refine (HGRW.out _ HP7.out HOW7.out HRB7.out).mono ?_; rintro e w8 ⟨X, rfl, hxt, hgr, hb8⟩; have HXT := hidD hxt; have HXG := hidD hgr; have HP8 := hidD (HP7.out.next hb8); have HM8 := hidD (HM7.out.next hb8); have HBW8 := hidD (Below.next HBW7.out hb8); have HOW8 := hidD (row_below HOW7.out hb8); have HRB8 := hidD (HRB7.out.next hb8); have HS8 := hidD (HS7.out.next hb8); have z0 : w8.cell? ⟨p, 5, none⟩ = some (.int .u64 0) := (HP8.out.cell 5).trans (HGT.out 5 (by decide)); have z1 : w8.cell? ⟨p, 6, none⟩ = some (.int .u64 0) := (HP8.out.cell 6).trans (HGT.out 6 (by decide)); have z2 := HP8.out.frz 5; have z3 := HP8.out.frz 6; clear hxt hgr hb8))
            have hq9 : But p w8 ((w8.setCell ⟨p, 5, none⟩ (.int .u64 (lw X : Int))).setCell ⟨p, 6, none⟩ (.int .u64 (hw X : Int))) := ((But.refl p w8).put 5 _).put 6 _
            have hk9 := kept_of_but HP8.out hq9
            have HP9 : Hid (CsAt ((w8.setCell ⟨p, 5, none⟩ (.int .u64 (lw X : Int))).setCell ⟨p, 6, none⟩ (.int .u64 (hw X : Int))) p (setC G 5 X) 68) := (HP8.out.put 5 _).put 6 _
            have HM9 := hidD (HM8.out.stay hk9)
            have HBW9 := hidD (below_but HBW8.out hq9 HPL.out)
            have HOW9 := hidD (Kept.row HOW8.out hk9 (by decide))
            have HRB9 := hidD (HRB8.out.stay hk9 (by decide))
            have HS9 := hidD (HS8.out.stay hk9 (by decide))
            clear hq9 hk9 z0 z1 z2 z3
            generalize hw9 : ((w8.setCell ⟨p, 5, none⟩ (.int .u64 (lw X : Int))).setCell ⟨p, 6, none⟩ (.int .u64 (hw X : Int))) = w9 at *
            clear hw9
            have HX5 : Hid (SetIn (setC G 5 X) 5 X) := setC_same (by rw [HGS.out]; decide) HXT.out
            have HCS9 : Hid ((setC G 5 X).size = 519) := by show _ = _; rw [setC_size]; exact HGS.out
            have HC9 : Hid (∀ i, i < 519 → i ≠ 5 → i ≠ 6 → (setC G 5 X)[i]? = some (if i = 0 then .slice a5 n c5 else if i = 1 then .map (some b) else if i = 2 then .int .i64 (e1 : Int) else if i = 3 then .int .i64 (sn : Int) else if i = 4 then .slice a4 ln c4 else Value.int .u64 0)) := fun i hi h5 h6 => by rw [setC_other _ _ _ _ h5 h6]; exact HGT.out i hi
            have HBC := hidD (HBGN.out w9 _ X HP9.out (HC9.out 2 (by decide) (by decide) (by decide)) (HC9.out 4 (by decide) (by decide) (by decide)) HX5.out HOW9.out HRB9.out)
            generalize hC9 : setC G 5 X = C9 at *
            clear hC9
            go_upto_region 14 with (first
              | (go_at_call 49; refine HBC.out.mono ?_; rintro e w10 ⟨Z, rfl, hzt, hzb, hb10⟩; have HZT := hidD hzt; have HZB := hidD hzb; have HP10 := hidD (HP9.out.next hb10); have HM10 := hidD (HM9.out.next hb10); have HBW10 := hidD (Below.next HBW9.out hb10); have HOW10 := hidD (row_below HOW9.out hb10); have HRB10 := hidD (HRB9.out.next hb10); have HS10 := hidD (HS9.out.next hb10); clear hzt hzb hb10)
              | (refine wpList_store_mid rfl 66 _ _ rfl p 7 (ssC Z) rfl rfl (HP10.out.there (by rw [ss_size, HCS9.out]; decide)) (HI66.out Z) (ss_one Z) ?_))
            simp only [Act.put]
            have hq11 : But p w10 (w10.setCells p 7 (ssC Z).toList) := But.puts _ 7 (But.refl _ _)
            have hk11 := kept_of_but HP10.out hq11
            have HP11 : Hid (CsAt (w10.setCells p 7 (ssC Z).toList) p (putC C9 7 (ssC Z).toList) 68) := HP10.out.puts (ssC Z).toList 7
            have HM11 := hidD (HM10.out.stay hk11)
            have HBW11 := hidD (below_but HBW10.out hq11 HPL.out)
            have HOW11 := hidD (Kept.row HOW10.out hk11 (by decide))
            have HRB11 := hidD (HRB10.out.stay hk11 (by decide))
            have HS11 := hidD (HS10.out.stay hk11 (by decide))
            clear hq11 hk11
            generalize hw11 : (w10.setCells p 7 (ssC Z).toList) = w11 at *
            clear hw11
            have HLZ : Hid ((ssC Z).toList.length = 256) := by show _ = _; rw [Array.length_toList, ss_size]
            have HX7 : Hid (SetIn (putC C9 7 (ssC Z).toList) 5 X) := HX5.out.puts (.inl (by decide))
            have HZ7 : Hid (∀ x, x < 128 → SetIn (putC C9 7 (ssC Z).toList) (7 + x * 2) (Z x)) := fun x hx => put_set (by rw [HCS9.out]; decide) HZT.out hx
            have HCS11 : Hid ((putC C9 7 (ssC Z).toList).size = 519) := by show _ = _; rw [putC_size]; exact HCS9.out
            have HC11 : Hid (∀ i, i < 5 → (putC C9 7 (ssC Z).toList)[i]? = some (if i = 0 then .slice a5 n c5 else if i = 1 then .map (some b) else if i = 2 then .int .i64 (e1 : Int) else if i = 3 then .int .i64 (sn : Int) else if i = 4 then .slice a4 ln c4 else Value.int .u64 0)) := fun i hi => by rw [putC_out _ _ _ _ (.inl (by omega))]; exact HC9.out i (by omega) (by omega) (by omega)
            have HFC := hidD (HFOL.out w11 _ X Z HP11.out (HC11.out 0 (by decide)) (HC11.out 2 (by decide)) (HC11.out 3 (by decide)) (HC11.out 4 (by decide)) HX7.out HZT.out HZ7.out HOW11.out HRB11.out)
            generalize hC11 : putC C9 7 (ssC Z).toList = C11 at *
            clear hC11
            go_wp2_with (first
              | (go_at_call 50; refine HFC.out.mono ?_; rintro e w12 ⟨Y, rfl, hyt, hyb, hb12⟩; have HYT := hidD hyt; have HYB := hidD hyb; have HP12 := hidD (HP11.out.next hb12); have HM12 := hidD (HM11.out.next hb12); have HBW12 := hidD (Below.next HBW11.out hb12); have HOW12 := hidD (row_below HOW11.out hb12); have HRB12 := hidD (HRB11.out.next hb12); have HS12 := hidD (HS11.out.next hb12); clear hyt hyb hb12)
              | (refine wpList_store_mid rfl 66 _ _ rfl p 263 (ssC Y) rfl rfl (HP12.out.there (by rw [ss_size, HCS11.out]; decide)) (HI66.out Y) (ss_one Y) ?_))
            refine bodyPost_ret (v := .tuple #[.pointer (some ⟨p, 0, none⟩), .int .i64 0]) (by simp [results, Tryd.results30, go_sem]) rfl ?_
            have HNE0 : Hid (newE T O s L = 0) := by show _ = _; rw [HNE.out]; rfl
            have hq13 : But p w12 (w12.setCells p 263 (ssC Y).toList) := But.puts _ 263 (But.refl _ _)
            have hk13 := kept_of_but HP12.out hq13
            have HP13 : CsAt (w12.setCells p 263 (ssC Y).toList) p (putC C11 263 (ssC Y).toList) 68 := HP12.out.puts (ssC Y).toList 263
            have hbw13 := below_but HBW12.out hq13 HPL.out
            refine ⟨hbw13, fun h => absurd HNE0.out h, fun _ => ⟨p, X, Z, Y, rfl, HPL.out, ?_⟩⟩
            have HC13 : ∀ i, i < 5 → (putC C11 263 (ssC Y).toList)[i]? = _ := fun i hi => (putC_out _ _ _ _ (.inl (by omega))).trans (HC11.out i hi)
            rw [← HSN.out, HRRE.out]
            refine ⟨⟨_, HP13, ⟨_, _, HC13 0 (by decide), by rw [HA.out]; exact HS12.out.stay hk13 (by decide)⟩, ⟨b, nb + 1, HC13 1 (by decide), ?_⟩, ?_, HC13 3 (by decide), ⟨_, HC13 4 (by decide), ru_of_own (Kept.row HOW12.out hk13 (by decide)) HRLN.out.symm (HRB12.out.stay hk13 (by decide))⟩, HX7.out.puts (.inl (by decide)), fun x hx => (HZ7.out x hx).puts (.inl (by omega)), fun x hx => put_set (by rw [HCS11.out]; decide) HYT.out hx⟩, ?_, ?_, ?_, ?_, ?_, HXG.out, ?_, ?_, HZT.out, HYT.out⟩
            · refine (HM12.out.stay hk13).same fun x => ?_
              unfold nuE
              rw [HF.out, HTN.out]
            · refine (HC13 2 (by decide)).trans ?_
              rw [HTN.out, HE1.out]
              rfl
            · rw [HA.out, HAN.out]; exact HN128.out
            · rw [HA.out, HAN.out]; exact HOKR.out
            · rw [HRLN.out]; exact HL128.out
            · rw [HRLN.out]; exact h0
            · rw [HA.out, HAN.out, HTN.out]; exact ⟨HSNT.out, HSNL.out⟩
            · rw [HTN.out, ← HE1.out]; exact HZB.out
            · rw [HA.out, HAN.out, HTN.out, ← HE1.out]; exact HYB.out
          · have HF3 : Hid (newE T O s L = 3) := by
              show _ = _
              rw [HNE.out, if_neg]
              rw [Bool.and_eq_true, decide_eq_true_eq, decide_eq_true_eq]
              exact h128
            by_cases c1 : (128 : Int) < (ln : Int)
            · have c1d : decide ((128 : Int) < (ln : Int)) = true := decide_eq_true c1
              go_enter Tryd.func30, Tryd.ntmps30
              go_wp2_with (first
                | (go_at_call 46; refine HNUM.out.mono ?_; rintro e w2 ⟨h1, h2, hb2⟩; obtain ⟨b, nb, h3, hnb, hmp, hbb⟩ := h1 (by first | rfl | trivial); subst h3; have hlk := hmp.look hsl; rw [HVA.out, HVS.out] at hlk; have HB2 := hidD hb2; have HM2 := hidD hmp; clear h1 h2 hb2 hmp)
                | (go_at_call 47; refine (HRUL.out _ HB2.out _ _ HM2.out).mono ?_; rintro e w3 ⟨h1, h2, hb3⟩; obtain ⟨u, B, xs, h3, hown, hrub⟩ := h1 (by first | rfl | trivial); subst h3; obtain ⟨a4, c4, h4⟩ := row_shape hown; subst h4; have HB3 := hidD (Below.next HB2.out hb3); clear h1 h2 hb3 hown hrub))
              refine bodyPost_ret (v := .tuple #[.pointer none, .int .i64 3]) (by simp [results, Tryd.results30, go_sem]) rfl ?_
              exact ⟨HB3.out, fun _ => by rw [HF3.out], fun h => by rw [HF3.out] at h; cases h⟩
            · have c1d : decide ((128 : Int) < (ln : Int)) = false := decide_eq_false c1
              have c2 : (128 : Int) < (tl : Int) + 1 + (ol : Int) := by have := HLE.out; omega
              have c2d : decide ((128 : Int) < (tl : Int) + 1 + (ol : Int)) = true := decide_eq_true c2
              go_enter Tryd.func30, Tryd.ntmps30
              go_wp2_with (first
                | (go_at_call 46; refine HNUM.out.mono ?_; rintro e w2 ⟨h1, h2, hb2⟩; obtain ⟨b, nb, h3, hnb, hmp, hbb⟩ := h1 (by first | rfl | trivial); subst h3; have hlk := hmp.look hsl; rw [HVA.out, HVS.out] at hlk; have HB2 := hidD hb2; have HM2 := hidD hmp; clear h1 h2 hb2 hmp)
                | (go_at_call 47; refine (HRUL.out _ HB2.out _ _ HM2.out).mono ?_; rintro e w3 ⟨h1, h2, hb3⟩; obtain ⟨u, B, xs, h3, hown, hrub⟩ := h1 (by first | rfl | trivial); subst h3; obtain ⟨a4, c4, h4⟩ := row_shape hown; subst h4; have HB3 := hidD (Below.next HB2.out hb3); clear h1 h2 hb3 hown hrub))
              refine bodyPost_ret (v := .tuple #[.pointer none, .int .i64 3]) (by simp [results, Tryd.results30, go_sem]) rfl ?_
              exact ⟨HB3.out, fun _ => by rw [HF3.out], fun h => by rw [HF3.out] at h; cases h⟩
        · obtain rfl : ln = 0 := by omega
          rw [decide_eq_false h0, if_neg (by decide)] at HNE
          clear h0
          go_enter Tryd.func30, Tryd.ntmps30
          go_wp2_with (first
            | (go_at_call 46; refine HNUM.out.mono ?_; rintro e w2 ⟨h1, h2, hb2⟩; obtain ⟨b, nb, h3, hnb, hmp, hbb⟩ := h1 (by first | rfl | trivial); subst h3; have hlk := hmp.look hsl; rw [HVA.out, HVS.out] at hlk; have HB2 := hidD hb2; have HM2 := hidD hmp; clear h1 h2 hb2 hmp)
            | (go_at_call 47; refine (HRUL.out _ HB2.out _ _ HM2.out).mono ?_; rintro e w3 ⟨h1, h2, hb3⟩; obtain ⟨u, B, xs, h3, hown, hrub⟩ := h1 (by first | rfl | trivial); subst h3; obtain ⟨a4, c4, h4⟩ := row_shape hown; subst h4; have HB3 := hidD (Below.next HB2.out hb3); clear h1 h2 hb3 hown hrub))
          refine bodyPost_ret (v := .tuple #[.pointer none, .int .i64 130]) (by simp [results, Tryd.results30, go_sem]) rfl ?_
          exact ⟨HB3.out, fun _ => by rw [HNE.out], fun h => by rw [HNE.out] at h; cases h⟩
    · rw [decide_eq_false hv0, if_neg (by decide)] at HNE
      have hle : vs ≤ (tl : Int) := by omega
      have hled : decide (vs ≤ (tl : Int)) = true := decide_eq_true hle
      clear hv0
      go_enter Tryd.func30, Tryd.ntmps30
      go_wp2_with (go_at_call 46; refine HNUM.out.mono ?_; rintro e w2 ⟨h1, h2, hb2⟩; obtain ⟨b, nb, h3, hnb, hmp, hbb⟩ := h1 (by first | rfl | trivial); subst h3; have hlk := hmp.look hsl; rw [HVA.out, HVS.out] at hlk; have HB2 := hidD hb2; clear h1 h2 hb2 hmp)
      refine bodyPost_ret (v := .tuple #[.pointer none, .int .i64 130]) (by simp [results, Tryd.results30, go_sem]) rfl ?_
      exact ⟨HB2.out, fun _ => by rw [HNE.out], fun h => by rw [HNE.out] at h; cases h⟩
end Go.Proofs.YtgmbkelmgolkpabDoor
