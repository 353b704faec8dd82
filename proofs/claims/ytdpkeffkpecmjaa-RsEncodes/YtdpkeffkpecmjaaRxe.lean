/- What the document's Trim and Divide hand out is new memory. -/
import Derived.Test.YtdpkeffkpecmjaaRxd
namespace Go.Proofs.Ytdpkeffkpecmjaa
open Go.RowKit
set_option linter.unusedVariables false

set_option maxRecDepth 100000 in
set_option maxHeartbeats 800000 in
theorem refTrim_own (bs : List UInt8) (hbl : bs.length ≤ 65536) (vb : Value) (w : World) (hs : SlAt w vb bs) : Calls Try.prog 46 #[vb] w fun e w' => ∃ v, e = .returned v ∧ w'.ownsRow w.heap.size 5 1 v (trimS bs).length ((trimS bs).map encB) ∧ Below w.heap.size w w' := by
  obtain ⟨⟨a, cap, rfl, hcap, hl⟩, hby⟩ := hs
  have HSH := hidD hby.shape'.2
  have HT := hidD (fun n h1 h2 h3 => trim_at (l := bs) (n := n) h1 h2 h3)
  have HBY := hidD (fun (w' : World) (h : Below w.heap.size w w') n (hn : n ≤ bs.length) => (hby.next h).take (n := n) hn)
  have HAL : Hid (∀ o, Below w.heap.size w (w.alloc o)) := fun o => (Below.refl _ _).alloc (Nat.le_refl _) o
  clear hby
  generalize hn : bs.length = n at *
  have HN := hidD hn
  generalize hTT : trimS bs = T at *
  have HTT := hidD hTT
  clear hn hTT
  go_enter Try.func46, Try.ntmps46
  go_wp2_with fail
  go_loopw [3] (fun i wr => ∃ k : Nat, k ≤ n ∧ i = .int .i64 k ∧ (∀ j, k ≤ j → cf bs j = 0) ∧ wr = w) (fun i _ => (intOf i).toNat)
  case atStart => exact ⟨n, Nat.le_refl _, rfl, fun j hj => cf_ge (by have := HN.out; omega), rfl⟩
  case round =>
    obtain ⟨k, hk, rfl, hall, rfl⟩ := hrel
    have HA := hidD hall
    clear hall
    by_cases h0 : k = 0
    · subst h0
      have HE : Hid (T = []) := by
        show _ = _
        rw [HT.out 0 (Nat.zero_le _) HA.out (.inl rfl)]; simp
      have hcapi : (0 : Int) ≤ cap := by omega
      have HOW : Hid ((wr.alloc (.cells #[] (5 : TypeId))).ownsRow wr.heap.size 5 1 (.slice (some ⟨wr.heap.size, 0, none⟩) 0 0) 0 []) := full_row (Nat.le_refl _) rfl (by unfold maxLen; omega) (heap_alloc_last _ _)
      have HBY0 : Hid (ByAt (wr.alloc (.cells #[] (5 : TypeId))) (.slice a 0 cap) []) := by
        have := HBY.out _ (HAL.out (.cells #[] (5 : TypeId))) 0 (Nat.zero_le _)
        rw [List.take_zero] at this; exact this
      clear HT HA HBY
      go_wp2_with (at_builtin; refine wpList_append_by rfl _ _ rfl wr.heap.size (.slice (some ⟨wr.heap.size, 0, none⟩) 0 0) 0 [] rfl HOW.out (.slice a 0 cap) [] rfl HBY0.out (by simp) (by simp) ?_; intro v8 w8 hown8 hg8; have HO8 := hidD hown8; have HB8 : Hid (Below wr.heap.size wr w8) := (row_grown HOW.out (HAL.out _) hg8 (by simp)); clear hown8 hg8)
      go_ret
      exact ⟨_, rfl, by rw [HE.out]; exact HO8.out, HB8.out⟩
    · obtain ⟨m, rfl⟩ : ∃ m, k = m + 1 := ⟨k - 1, by omega⟩
      obtain ⟨g, off, rfl, hg, hc⟩ := HSH.out m (by omega)
      have hm1 : (((m + 1 : Nat) : Int)) - 1 = (m : Int) := by omega
      have hpos : (0 : Int) < ((m + 1 : Nat) : Int) := by omega
      have hml : (m : Int) < n := by omega
      have hkc : ((m + 1 : Nat) : Int) ≤ cap := by omega
      by_cases hz : cf bs m = 0
      · have HA2 : Hid (∀ j, m ≤ j → cf bs j = 0) := fun j hj => by
          by_cases he : j = m
          · subst he; exact hz
          · exact HA.out j (by omega)
        have hv : ((cf bs m).toNat : Int) = 0 := by rw [hz]; rfl
        rw [hv] at hc
        clear hz HA hv
        go_wp2_with fail
        go_roundw
        case rel => exact ⟨m, by omega, by congr 1, HA2.out, trivial⟩
        case measure => simp [intOf]
      · have hv := u8_ne hz
        have hvb := u8_bne hz
        have HE : Hid (T = bs.take (m + 1)) := by
          show _ = _
          rw [HT.out (m + 1) (by omega) HA.out (.inr (by simpa using hz))]
        have HEL : Hid (T.length = m + 1) := by
          have hn := HN.out
          show _ = _
          rw [HE.out, List.length_take]; omega
        have HBY1 : Hid (∀ o, ByAt (wr.alloc o) (.slice (some ⟨g, off, none⟩) (m + 1) cap) T) := fun o => by
          have := HBY.out _ (HAL.out o) (m + 1) (by have := HN.out; omega)
          rw [← HE.out] at this; exact this
        clear hz HA HT HBY
        generalize ((cf bs m).toNat : Int) = v at *
        have HOW : Hid ((wr.alloc (.cells #[] (5 : TypeId))).ownsRow wr.heap.size 5 1 (.slice (some ⟨wr.heap.size, 0, none⟩) 0 0) 0 []) := full_row (Nat.le_refl _) rfl (by unfold maxLen; omega) (heap_alloc_last _ _)
        go_wp2_with (at_builtin; refine wpList_append_by rfl _ _ rfl wr.heap.size (.slice (some ⟨wr.heap.size, 0, none⟩) 0 0) 0 [] rfl HOW.out (.slice (some ⟨g, off, none⟩) (m + 1) cap) T rfl (HBY1.out _) (by rw [HEL.out]; omega) (by simp) ?_; intro v8 w8 hown8 hg8; rw [Nat.zero_add, List.nil_append] at hown8; have HO8 := hidD hown8; have HB8 : Hid (Below wr.heap.size wr w8) := (row_grown HOW.out (HAL.out _) hg8 (by simp)); clear hown8 hg8)
        go_ret
        exact ⟨_, rfl, HO8.out, HB8.out⟩
set_option maxRecDepth 100000 in
set_option maxHeartbeats 800000 in
theorem refDivide_short_own {b : Nat} (p q : List UInt8) (hpl : p.length ≤ 65536) (hql : q.length ≤ 281474976710656) (hlt : (trimS p).length < (trimS q).length) (vp vq : Value) (w : World) (hp : SlAt w vp p) (hq : SlAt w vq q) : Calls Try.prog 38 #[.pointer (some ⟨b, 0, none⟩), vp, vq] w fun e w' => ∃ v B, e = .returned (.tuple #[.slice none 0 0, v, .int .i64 0]) ∧ w.heap.size ≤ B ∧ B ≤ w'.heap.size ∧ w'.ownsRow B 5 1 v (trimS p).length ((trimS p).map encB) ∧ Below w.heap.size w w' := by
  have HT := hidD (refTrim_any q hql vq w hq)
  have HTP := hidD (fun w' (h : Below w.heap.size w w') => refTrim_own p hpl vp w' (hp.next h))
  clear hq hp hpl hql
  generalize trimS p = T at *
  generalize trimS q = Tq at *
  have hlti : (T.length : Int) < (Tq.length : Int) := by omega
  have hq0 : ¬ (Tq.length : Int) = 0 := by omega
  have hqb : ((Tq.length : Int) == 0) = false := by simpa using hq0
  go_enter Try.func38, Try.ntmps38
  go_wp2_with (first
    | (go_at_call 46; refine HT.out.mono ?_; rintro e w2 ⟨v, rfl, hs2, hb2⟩; obtain ⟨⟨a5, c5, rfl, hc51, hc52⟩, hs5b⟩ := hs2; have HB2 := hidD hb2; clear hs5b hc51 hc52 hb2 HT)
    | (go_at_call 46; refine (HTP.out _ HB2.out).mono ?_; rintro e w3 ⟨v3, rfl, hs3, hb3⟩; obtain ⟨a6, c6, hv6⟩ := row_shape hs3; subst hv6; have HS3 := hidD hs3; have HZ3 := hidD hb3.size; have HB3 := hidD (Below.next HB2.out hb3); clear hs3 hb3 HTP))
  refine bodyPost_ret (v := .tuple #[.slice none 0 0, .slice a6 T.length c6, .int .i64 0]) (by simp [results, Try.results38, go_sem]) rfl ?_
  exact ⟨_, _, rfl, HB2.out.size, HZ3.out, HS3.out, HB3.out⟩
set_option maxRecDepth 100000 in
set_option maxHeartbeats 4000000 in
theorem refDivide_long_own {P G : UInt8} {b : Nat} (p q : List UInt8) (hq0 : trimS q ≠ []) (hge : (trimS q).length ≤ (trimS p).length) (hpl : p.length ≤ 65535) (hql0 : q.length ≤ 281474976710655) (vp vq : Value) (w : World) (hf : RfAt w b P G) (hp : SlAt w vp p) (hq : SlAt w vq q) :
    Calls Try.prog 38 #[.pointer (some ⟨b, 0, none⟩), vp, vq] w fun e w' => ∃ v1 v2 B, e = .returned (.tuple #[v1, v2, .int .i64 0]) ∧ w.heap.size ≤ B ∧ B ≤ w'.heap.size ∧ w'.ownsRow B 5 1 v2 (trimS (divS P (trimS p) (trimS q)).1).length ((trimS (divS P (trimS p) (trimS q)).1).map encB) ∧ Below w.heap.size w w' := by
  have hp0 : trimS p ≠ [] := fun h => by
    have := List.length_pos_iff.2 hq0
    rw [h] at hge; simp at hge; exact hq0 hge
  have HT := hidD (refTrim_some q hq0 (by omega) vq w hq)
  have HTP := hidD (fun w' (h : Below w.heap.size w w') => refTrim_some p hp0 (by omega) vp w' (hp.next h))
  have hml : (trimS p).length ≤ 65535 := Nat.le_trans (trim_len p) hpl
  have hmq : (trimS q).length ≤ 281474976710655 := Nat.le_trans (trim_len q) hql0
  have hql : 0 < (trimS q).length := List.length_pos_iff.2 hq0
  have hlast := trim_last q hq0
  have HDIV := hidD (fun (x : UInt8) w' (h : RfAt w' b P G) => calls_below (refDiv_some x (cf (trimS q) ((trimS q).length - 1)) hlast w' h))
  have HMUL := hidD (fun (x y : UInt8) w' (h : RfAt w' b P G) => calls_below (refMul_any x y w' h))
  have HST := hidD (fun (L : List UInt8) i c k (hk : k < (trimS q).length) (h : i + (trimS q).length ≤ L.length) => addL_step P L i (trimS q) c k hk h)
  have HA0 := hidD (fun (L : List UInt8) i c => addL_nil P L i c)
  have HAL := hidD (fun (L : List UInt8) i c k => addL_length P L i ((trimS q).take k) c)
  have HQT : Hid ((trimS q).take (trimS q).length = trimS q) := List.take_length
  have HDV : Hid (divGo P (trimS q) (inv P (cf (trimS q) ((trimS q).length - 1))) ((trimS p).length - (trimS q).length + 1) (trimS p) (List.replicate ((trimS p).length - (trimS q).length + 1) 0) = divS P (trimS p) (trimS q)) := rfl
  have HSTP : Hid (∀ m r a', divGo P (trimS q) (inv P (cf (trimS q) ((trimS q).length - 1))) (m + 1) r a' = divGo P (trimS q) (inv P (cf (trimS q) ((trimS q).length - 1))) m (addL P r m (trimS q) (bm P (cf r (m + (trimS q).length - 1)) (inv P (cf (trimS q) ((trimS q).length - 1))))) (a'.set m (bm P (cf r (m + (trimS q).length - 1)) (inv P (cf (trimS q) ((trimS q).length - 1)))))) := fun m r a' => rfl
  have HEND : Hid (∀ r a', divGo P (trimS q) (inv P (cf (trimS q) ((trimS q).length - 1))) 0 r a' = (r, a')) := fun r a' => rfl
  have HL2 : Hid ((divS P (trimS p) (trimS q)).2.length = (trimS p).length - (trimS q).length + 1) := (divS_len P _ _).2
  have HL1 : Hid ((divS P (trimS p) (trimS q)).1.length = (trimS p).length) := (divS_len P _ _).1
  have HTR := hidD (fun (l : List UInt8) (hl : l.length ≤ 65536) w' v (h : SlAt w' v l) => refTrim_own l hl v w' h)
  generalize hF : divS P (trimS p) (trimS q) = F at *
  have HFD := hidD hf
  clear hp hq hpl hql0 hq0 hp0 hF hf
  have HQL : Hid (((cf (trimS q) ((trimS q).length - 1)).toNat : Int) = ((cf (trimS q) ((trimS q).length - 1)).toNat : Int)) := rfl
  generalize hiv : inv P (cf (trimS q) ((trimS q).length - 1)) = iv at *
  clear hiv HQL
  generalize hq' : trimS q = q' at *
  generalize hT : trimS p = T at *
  generalize htl : T.length = tp at *
  generalize htq : q'.length = tq at *
  have HTL := hidD htl
  have HTLQ := hidD htq
  clear hT htl hq' htq
  generalize hm0 : tp - tq + 1 = m0 at *
  have hm0i : (tp : Int) - tq + 1 = (m0 : Int) := by omega
  have hlti : ¬ (tp : Int) < tq := by omega
  have hq0 : ¬ (tq : Int) = 0 := by omega
  have hqb : ((tq : Int) == 0) = false := by simpa using hq0
  have HM0 := hidD hm0
  have HTQ0 := hidD hql
  have hm0l : m0 ≤ 65536 := by omega
  have HTQ1 : Hid (tq - 1 + 1 = tq) := by show _ = _; omega
  generalize tq - 1 = t1 at *
  clear hm0 hql hge hlast
  obtain ⟨i0, hi, hz0, hz1, hz2⟩ := info_parts Try.info5
  go_enter Try.func38, Try.ntmps38
  go_wp2_with (first
    | (go_at_call 46; refine HT.out.mono ?_; rintro e w1 ⟨gq, cq, rfl, hge1, hcq1, hcq2, hx1, hb1⟩; have HX1 := hidD hx1; have HB1 := hidD hb1; have HE1 := hidD hge1; clear hx1 hb1 hge1 hcq1 hcq2 HT)
    | (go_at_call 46; refine (HTP.out _ HB1.out).mono ?_; rintro e w2 ⟨gr, cr, rfl, hge2, hcr1, hcr2, hx2, hb2⟩; have HX2 := hidD hx2; have HB2 := hidD (Below.next HB1.out hb2); have HX12 := hidD (HX1.out.next hb2); have HE2 := hidD (Nat.le_trans HB1.out.size hge2); have HQR := hidD (Nat.lt_of_lt_of_le HX1.out.lt hge2); have hcr := hcr1; have hcrm := hcr2; clear hx2 hb2 hge2 hcr1 hcr2 HTP)
    | (at_make; refine wpList_make_full _ rfl _ _ 22 rfl w2.heap.size 5 i0 (.int .u8 0) 1 Try.underlying22 hi hz0 hz1 _ _ _ _ m0 rfl rfl (by omega) (by omega) (by rw [hz2]; omega) (by unfold maxLen; omega) (Nat.le_refl _) ?_; intro w3 hown3 hg3; have HR3 := hidD (row_of_made hown3); have hb3 : Below w2.heap.size w2 w3 := ((Below.refl w2.heap.size w2).grown hg3 (Nat.le_refl _) (fun k hk => by cases hk)); have HB3 := hidD (Below.next HB2.out hb3); have HX3 := hidD (HX2.out.next hb3); have HX13 := hidD (HX12.out.next hb3); have HRA := hidD HX2.out.lt; have HE3 := hidD HB2.out.size; clear hown3 hg3 hb3))
  clear hm0i hlti
  obtain ⟨ga, hga⟩ : ∃ ga, ga = w2.heap.size := ⟨_, rfl⟩
  rw [← hga] at HR3 HRA HE3
  rw [← hga]
  clear hga
  have HNQR : Hid (gq ≠ gr) := Nat.ne_of_lt HQR.out
  have HNRA : Hid (gr ≠ ga) := Nat.ne_of_lt HRA.out
  have HNQA : Hid (gq ≠ ga) := Nat.ne_of_lt (Nat.lt_trans HQR.out HRA.out)
  go_loopw [11, 14] (fun i z wr => ∃ k : Nat, k ≤ m0 ∧ i = .int .i64 ((k : Int) - 1) ∧ (∃ R A : List UInt8, R.length = tp ∧ A.length = m0 ∧ RowX wr gr R ∧ RowAt wr ga A ∧ divGo P q' iv k R A = F) ∧ RowX wr gq q' ∧ Below w.heap.size w wr) (fun i _ _ => (intOf i + 1).toNat)
  case atStart => exact ⟨m0, Nat.le_refl _, rfl, ⟨T, List.replicate m0 0, HTL.out, List.length_replicate, HX3.out, HR3.out, HDV.out⟩, HX13.out, HB3.out⟩
  case round =>
    obtain ⟨k, hk, rfl, ⟨R, A, hRl, hAl, hrr, hra, hdv⟩, hrq, hbel⟩ := hrel
    obtain ⟨wo, hwo⟩ : ∃ wo, wo = wr := ⟨_, rfl⟩
    subst hwo
    by_cases hk0 : k = 0
    · subst hk0
      rw [HEND.out] at hdv
      have HF1 : Hid (F.1 = R) := by show _ = _; rw [← hdv]
      have HF2 : Hid (F.2 = A) := by show _ = _; rw [← hdv]
      have HT2 := hidD (HTR.out A (by omega) wo (.slice (some ⟨ga, 0, none⟩) m0 m0) (SlAt.row hra hAl.symm (by omega)))
      have HT1 := hidD (fun w' (h : Below wo.heap.size wo w') => HTR.out R (by omega) w' (.slice (some ⟨gr, 0, none⟩) tp cr) ((hrr.next h).sl hRl.symm hcr hcrm))
      have HBL := hidD hbel
      clear hrr hra hrq hdv hRl hAl hbel
      go_wp2_with (first
        | (go_at_call 46; refine HT2.out.mono ?_; rintro e w7 ⟨v7, rfl, hs7, hb7⟩; have HB7 := hidD hb7; clear hs7 hb7 HT2)
        | (go_at_call 46; refine (HT1.out _ HB7.out).mono ?_; rintro e w8 ⟨v8, rfl, hs8, hb8⟩; have HS8 := hidD hs8; have HZ8 := hidD hb8.size; have HB8 := hidD (Below.next (Below.next HBL.out HB7.out) hb8); clear hs8 hb8 HT1))
      refine bodyPost_ret (v := .tuple #[v7, v8, .int .i64 0]) (by simp [results, Try.results38, go_sem]) rfl ?_
      exact ⟨_, _, _, rfl, (Below.next HBL.out HB7.out).size, HZ8.out, by rw [HF1.out]; exact HS8.out, HB8.out⟩
    · obtain ⟨j, rfl⟩ : ∃ j, k = j + 1 := ⟨k - 1, by omega⟩
      have hji : ((j + 1 : Nat) : Int) - 1 = (j : Int) := by omega
      rw [hji]
      clear hji
      have hj0 : (0 : Int) ≤ j := by omega
      have hjm : (j : Int) < m0 := by omega
      have hjt : j + t1 < tp := by have := HM0.out; have := HTQ1.out; omega
      have hjti : (j : Int) + tq - 1 = ((j + t1 : Nat) : Int) := by have := HTQ1.out; omega
      have hjtl : ((j + t1 : Nat) : Int) < tp := by omega
      have ht1i : (tq : Int) - 1 = (t1 : Int) := by have := HTQ1.out; omega
      have ht1l : (t1 : Int) < tq := by have := HTQ1.out; omega
      have hcr1 : ∀ i : BW wo, i.v.cell? ⟨gr, j + t1, none⟩ = some (.int .u8 ((cf R (j + t1)).toNat : Int)) := fun i => (hrr.next i.below).cell (by rw [hRl]; exact hjt)
      have hcq1 : ∀ i : BW wo, i.v.cell? ⟨gq, t1, none⟩ = some (.int .u8 ((cf q' t1).toNat : Int)) := fun i => (hrq.next i.below).cell (by have := HTLQ.out; have := HTQ1.out; omega)
      have HD := hidD (fun i : BW wo => HDIV.out (cf R (j + t1)) i.v ((HFD.out.next hbel).next i.below))
      rw [HSTP.out, show j + tq - 1 = j + t1 by have := HTQ1.out; omega] at hdv
      have HDVN := hidD hdv
      have HRR := hidD hrr
      have HRA' := hidD hra
      have HRQ := hidD hrq
      have HBL := hidD hbel
      have HRL := hidD hRl
      have HALn := hidD hAl
      have HJM : Hid (j < m0) := by show _ < _; omega
      have HJT : Hid (j + tq ≤ tp) := by show _ ≤ _; have := HTQ1.out; omega
      generalize bm P (cf R (j + t1)) iv = c at *
      generalize (cf R (j + t1)).toNat = rv at *
      generalize (cf q' t1).toNat = qv at *
      clear hrr hra hrq hdv hbel hRl hAl
      generalize j + t1 = jt at *
      go_wp2_with fail
      refine wp_region_below (by kernel_rfl) (by kernel_rfl) ?_
      repeat (go_big_quiet_step ((go_at_call 57; exact Calls.below_of (HD.out _))))
      refine wpQuiet_nil ?_
      intro i
      have hra6 := HRA'.out.next i.below
      obtain ⟨cv, hcv⟩ : ∃ v, i.v.cell? ⟨ga, j, none⟩ = some v := ⟨_, hra6.cell (by rw [HALn.out]; exact HJM.out)⟩
      have hfz := hra6.frozen j
      have HA7 := hidD (hra6.set j c)
      have HR7 := hidD ((HRR.out.next i.below).put HNRA.out j (.int .u8 (c.toNat : Int)))
      have HQ7 := hidD ((HRQ.out.next i.below).put HNQA.out j (.int .u8 (c.toNat : Int)))
      have HB7 := hidD ((Below.next HBL.out i.below).setCell (p := ⟨ga, j, none⟩) HE3.out (.int .u8 (c.toNat : Int)))
      clear hra6 hcr1 hcq1
      generalize i.v = w6 at *
      go_wp2_with fail
      generalize w6.setCell ⟨ga, j, none⟩ (.int .u8 (c.toNat : Int)) = w7 at *
      have HRI : Hid (RowX w7 gr (addL P R j (q'.take 0) c)) := by rw [List.take_zero, HA0.out]; exact HR7.out
      have HSTk := hidD (fun m hm => HST.out R j c m hm (by rw [HRL.out]; exact HJT.out))
      have HLk := hidD (fun m => HAL.out R j c m)
      have HLA : Hid ((A.set j c).length = m0) := by show _ = _; rw [List.length_set]; exact HALn.out
      clear hcv hfz
      go_loopw [14] (fun z wr => ∃ m : Nat, m ≤ tq ∧ z = .int .i64 m ∧ RowX wr gr (addL P R j (q'.take m) c) ∧ RowAt wr ga (A.set j c) ∧ RowX wr gq q' ∧ Below w.heap.size w wr) (fun z _ => tq - (intOf z).toNat)
      case atStart => exact ⟨0, Nat.zero_le _, rfl, HRI.out, HA7.out, HQ7.out, HB7.out⟩
      case round =>
        obtain ⟨m, hm, rfl, hrow, hrowa, hrowq, hbel⟩ := hrel
        have HBL2 := hidD hbel
        have HRW := hidD hrow
        have HRWA := hidD hrowa
        have HRWQ := hidD hrowq
        by_cases hmt : m < tq
        · have hmti : (m : Int) < tq := by omega
          have hcq' : wr.cell? ⟨gq, m, none⟩ = some (.int .u8 ((cf q' m).toNat : Int)) := hrowq.cell (by have := HTLQ.out; omega)
          have hcqn : ∀ n, (wr.drewN n).cell? ⟨gq, m, none⟩ = some (.int .u8 ((cf q' m).toNat : Int)) := fun n => hcq'
          have hjmt : j + m < tp := by have := HJT.out; omega
          have hcr0 : wr.cell? ⟨gr, j + m, none⟩ = some (.int .u8 ((cf (addL P R j (q'.take m) c) (j + m)).toNat : Int)) := hrow.cell (by rw [HLk.out, HRL.out]; exact hjmt)
          have hcrn : ∀ n, (wr.drewN n).cell? ⟨gr, j + m, none⟩ = some (.int .u8 ((cf (addL P R j (q'.take m) c) (j + m)).toNat : Int)) := fun n => hcr0
          have hkml : ((j + m : Nat) : Int) < tp := by omega
          have hkw1 : IntKind.i64.wrap ((j : Int) + m) = ((j + m : Nat) : Int) := by rw [IntKind.wrap_i64]; omega
          have hkw2 : wrap64 ((j : Int) + m) = ((j + m : Nat) : Int) := by unfold wrap64; omega
          have HM := hidD (fun w' (hb : Below wr.heap.size wr w') => HMUL.out c (cf q' m) w' (HFD.out.next (Below.next hbel hb)))
          have hx := u8_xor_nat (cf (addL P R j (q'.take m) c) (j + m)).toNat (bm P c (cf q' m)).toNat (u8_lt _) (u8_lt _)
          rw [← UInt8.toNat_xor] at hx
          have HS := hidD (HSTk.out m (by have := HTLQ.out; omega))
          have HLS : Hid (j + m < (addL P R j (q'.take m) c).length) := by show _ < _; rw [HLk.out, HRL.out]; exact hjmt
          generalize hv : cf (addL P R j (q'.take m) c) (j + m) ^^^ bm P c (cf q' m) = v at *
          generalize (cf (addL P R j (q'.take m) c) (j + m)).toNat = x at *
          generalize (bm P c (cf q' m)).toNat = y at *
          generalize (cf q' m).toNat = dq at *
          generalize j + m = jm at *
          clear hv hbel hrow hrowa hrowq hjmt
          go_wp2_with fail
          go_region_with (go_at_call 58; refine (HM.out _ ((Below.refl wr.heap.size wr).drew)).mono ?_; rintro e w4 ⟨rfl, hb4⟩; have hb5 : Below wr.heap.size wr w4 := ((Below.refl wr.heap.size wr).drew).trans hb4; have HR4 := hidD (HRW.out.next hb5); have HQ4 := hidD (HRWQ.out.next hb5); have HA4 := hidD (HRWA.out.next hb5); have HB4 := hidD hb5; have j8 : w4.cell? ⟨gr, jm, none⟩ = some (.int .u8 (x : Int)) := (hb5.cell (p := ⟨gr, jm, none⟩) HRW.out.lt).trans hcr0; have f8 := HR4.out.frozen jm; clear hb4 hb5)
          all_goals
            go_wp2
            go_roundw
            case rel => exact ⟨m + 1, by omega, by go_num, by rw [← HS.out]; exact HR4.out.set HLS.out _, HA4.out.putx (fun h => HNRA.out h.symm) _ _, HQ4.out.put HNQR.out _ _, (Below.next HBL2.out HB4.out).setCell (p := ⟨gr, jm, none⟩) HE2.out _⟩
            case measure => simp [intOf]; omega
        · obtain rfl : m = tq := by omega
          have HRN : Hid (RowX wr gr (addL P R j q' c)) := by
            have := hrow
            rw [HQT.out] at this; exact this
          have HLR : Hid ((addL P R j q' c).length = tp) := by
            show _ = _
            have := HLk.out m
            rw [HQT.out] at this
            rw [this]; exact HRL.out
          clear hrow hrowa hrowq hbel
          go_wp2_with fail
          go_roundw
          case rel => exact ⟨j, Nat.le_of_lt HJM.out, by congr 1, ⟨_, _, HLR.out, HLA.out, HRN.out, HRWA.out, HDVN.out⟩, HRWQ.out, HBL2.out⟩
          case measure => simp [intOf]
end Go.Proofs.Ytdpkeffkpecmjaa
