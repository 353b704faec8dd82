/- What Divide of the program answers. -/
import Derived.Test.YtdpkeffkpecmjaaEvl
namespace Go.Proofs.Ytdpkeffkpecmjaa
open Go.RowKit
set_option linter.unusedVariables false

set_option maxRecDepth 100000 in
set_option maxHeartbeats 800000 in
theorem divide_nil (vp vq : Value) (w : World) : Calls Try.prog 34 #[.pointer none, vp, vq] w fun e w' => e = .returned (.tuple #[.slice none 0 0, .slice none 0 0, .int .i64 2]) ∧ Below w.heap.size w w' := by
  have HW : Hid (Below w.heap.size w w) := Below.refl _ _
  go_enter Try.func34, Try.ntmps34
  go_wp2_with fail
  refine bodyPost_ret (v := .tuple #[.slice none 0 0, .slice none 0 0, .int .i64 2]) (by simp [results, Try.results34, go_sem]) rfl ?_
  exact ⟨rfl, HW.out⟩
set_option maxRecDepth 100000 in
set_option maxHeartbeats 800000 in
theorem divide_zero {b : Nat} (p q : List UInt8) (hq0 : trimS q = []) (vp vq : Value) (w : World) (hp : SlAt w vp p) (hq : SlAt w vq q) : Calls Try.prog 34 #[.pointer (some ⟨b, 0, none⟩), vp, vq] w fun e w' => e = .returned (.tuple #[.slice none 0 0, .slice none 0 0, .int .i64 51]) ∧ Below w.heap.size w w' := by
  obtain ⟨⟨a, ca, rfl, hca1, hca2⟩, hpb⟩ := hp
  obtain ⟨⟨d, cd, rfl, hcd1, hcd2⟩, hqb⟩ := hq
  have HTP := hidD (trimmed_any p a ca hca1 hca2 w hpb)
  have HTQ := hidD (trimmed_any q d cd hcd1 hcd2 w hqb)
  rw [hq0] at HTQ
  have HW : Hid (Below w.heap.size w w) := Below.refl _ _
  have HLP := hidD (trim_len p)
  clear hpb hqb hq0
  generalize p.length = lp at *
  generalize q.length = lq at *
  generalize (trimS p).length = tp at *
  go_enter Try.func34, Try.ntmps34
  go_wp2_with (first | (go_at_call 52; refine HTP.out.mono ?_; rintro e w2 ⟨rfl, hb2⟩; clear HTP) | (go_at_call 52; refine HTQ.out.mono ?_; rintro e w2 ⟨rfl, hb2⟩; clear HTQ))
  refine bodyPost_ret (v := .tuple #[.slice none 0 0, .slice none 0 0, .int .i64 51]) (by simp [results, Try.results34, go_sem]) rfl ?_
  exact ⟨rfl, HW.out⟩

theorem splice_same (p : List UInt8) : splice (List.replicate p.length (Value.int .u8 0)) 0 (p.map encB) = p.map encB := by
  rw [splice_zero p p.length (Nat.le_refl _), Nat.sub_self]; simp
theorem row_of_splice {w : World} {g : Nat} {p : List UInt8} (h : w.heap[g]? = some (.cells (splice (List.replicate p.length (Value.int .u8 0)) 0 (p.map encB)).toArray (5 : TypeId) (0, 0))) : RowAt w g p := by
  rw [splice_same] at h; exact h
/-- A slice's block is none of the first n. -/
def NewSl (n : Nat) (v : Value) : Prop := ∀ g o m c, v = .slice (some ⟨g, o, none⟩) m c → n ≤ g
theorem NewSl.of {n g : Nat} (h : n ≤ g) (o m c : Nat) : NewSl n (.slice (some ⟨g, o, none⟩) m c) := fun g' o' m' c' he => by cases he; exact h
set_option maxRecDepth 100000 in
set_option maxHeartbeats 800000 in
theorem divide_short {b : Nat} (p q : List UInt8) (hlt : (trimS p).length < (trimS q).length) (hpl : p.length ≤ 281474976710656) (vp vq : Value) (w : World) (hp : SlAt w vp p) (hq : SlAt w vq q) : Calls Try.prog 34 #[.pointer (some ⟨b, 0, none⟩), vp, vq] w fun e w' => ∃ v, e = .returned (.tuple #[.slice none 0 0, v, .int .i64 0]) ∧ SlAt w' v (trimS p) ∧ NewSl w.heap.size v ∧ Below w.heap.size w w' := by
  obtain ⟨⟨a, ca, rfl, hca1, hca2⟩, hpb⟩ := hp
  obtain ⟨⟨d, cd, rfl, hcd1, hcd2⟩, hqb⟩ := hq
  have HTP := hidD (trimmed_any p a ca hca1 hca2 w hpb)
  have HTQ := hidD (trimmed_any q d cd hcd1 hcd2 w hqb)
  have HLP := hidD (trim_len p)
  have hbp : ByAt w (.slice a (trimS p).length ca) (trimS p) := by
    have := hpb.take (n := (trimS p).length) HLP.out
    rw [trim_take] at this; exact this
  have HSRC := hidD (fun (w' : World) (h : Below w.heap.size w w') => SlAt.src (hbp.next h))
  have HONE := hidD (bytes_oneCell (trimS p))
  have HPM : Hid (((trimS p).map encB).length = (trimS p).length) := List.length_map _
  have HRS := hidD (fun (w' : World) g h => row_of_splice (w := w') (g := g) (p := trimS p) h)
  have hml : (trimS p).length ≤ 281474976710656 := Nat.le_trans HLP.out hpl
  clear hpb hqb hbp hpl hca1 hcd1
  generalize p.length = lp at *
  generalize q.length = lq at *
  generalize hT : trimS p = T at *
  generalize htl : T.length = tp at *
  have HTL := hidD htl
  clear hT htl
  generalize (trimS q).length = tq at *
  have hlti : (tp : Int) < tq := by omega
  have hq0 : ¬ (tq : Int) = 0 := by omega
  have hqb : ((tq : Int) == 0) = false := by simpa using hq0
  obtain ⟨i0, hi, hz0, hz1, hz2⟩ := info_parts Try.info5
  have hi5 : (Try.prog.info? 5).map (·.size) = some 1 := by rw [hi]; simp [hz1]
  go_enter Try.func34, Try.ntmps34
  go_wp2_with (first
    | (go_at_call 52; refine HTP.out.mono ?_; rintro e w2 ⟨rfl, hb2⟩; clear HTP)
    | (go_at_call 52; refine HTQ.out.mono ?_; rintro e w2 ⟨rfl, hb2⟩; clear HTQ)
    | (at_make; refine wpList_make_full _ rfl _ _ 22 rfl w.heap.size 5 i0 (.int .u8 0) 1 Try.underlying22 hi hz0 hz1 _ _ _ _ tp rfl rfl rfl rfl (by rw [hz2]; omega) (by unfold maxLen; omega) (Nat.le_refl _) ?_; intro w3 hown3 hg3; have HR3 := hidD (row_replicate (row_of_made hown3)); have HB3 : Hid (Below w.heap.size w w3) := ((Below.refl w.heap.size w).grown hg3 (Nat.le_refl _) (fun k hk => by cases hk)); clear hown3 hg3)
    | (refine wpList_copy_splice rfl _ _ 22 22 rfl 5 Try.underlying22 hi5 (some ⟨w.heap.size, 0, none⟩) a tp tp tp ca rfl rfl w.heap.size 0 (List.replicate tp (.int .u8 0)) 5 HR3.out (T.map encB) (by rw [HPM.out]; exact (Nat.min_self _).symm) (fun h0 => ⟨rfl, HSRC.out _ HB3.out h0⟩) (by rw [HPM.out, List.length_replicate]; omega) HONE.out w.heap.size w HB3.out (Nat.le_refl _) ?_; intro w4 hg4 hb4; have HR4 := hidD (HRS.out _ _ hg4.out); have HB4 := hidD hb4; clear hb4 hg4))
  refine bodyPost_ret (v := .tuple #[.slice none 0 0, .slice (some ⟨w.heap.size, 0, none⟩) tp tp, .int .i64 0]) (by simp [results, Try.results34, go_sem]) rfl ?_
  exact ⟨_, rfl, SlAt.row HR4.out HTL.out.symm (by omega), NewSl.of (Nat.le_refl _) _ _ _, HB4.out⟩

theorem RowAt.but {w w' : World} {g h : Nat} {L : List UInt8} (hr : RowAt w g L) (hb : But h w w') (hn : g ≠ h) : RowAt w' g L := (hb.rest g hr.lt hn).trans hr
theorem RowAt.put {w : World} {g k : Nat} {L : List UInt8} (h : RowAt w g L) (hn : g ≠ k) (i : Nat) (v : Value) : RowAt (w.setCell ⟨k, i, none⟩ v) g L := (Below.heap_setCell w ⟨k, i, none⟩ v g hn).trans h
set_option maxRecDepth 100000 in
set_option maxHeartbeats 2000000 in
theorem divide_long {P G : UInt8} {b : Nat} (ho : ordS P G = 255) (p q : List UInt8) (hq0 : trimS q ≠ []) (hge : (trimS q).length ≤ (trimS p).length) (hpl : p.length ≤ 281474976710655) (vp vq : Value) (w : World) (hf : FdAt w b P G) (hp : SlAt w vp p) (hq : SlAt w vq q) :
    Calls Try.prog 34 #[.pointer (some ⟨b, 0, none⟩), vp, vq] w fun e w' => ∃ v1 v2, e = .returned (.tuple #[v1, v2, .int .i64 0]) ∧ SlAt w' v1 (divS P (trimS p) (trimS q)).2 ∧ SlAt w' v2 (trimS (divS P (trimS p) (trimS q)).1) ∧ NewSl w.heap.size v2 ∧ Below w.heap.size w w' := by
  obtain ⟨⟨a, ca, rfl, hca1, hca2⟩, hpb⟩ := hp
  obtain ⟨⟨d, cd, rfl, hcd1, hcd2⟩, hqb⟩ := hq
  have HTP := hidD (trimmed_any p a ca hca1 hca2 w hpb)
  have HTQ := hidD (trimmed_any q d cd hcd1 hcd2 w hqb)
  have HLP := hidD (trim_len p)
  have hbp : ByAt w (.slice a (trimS p).length ca) (trimS p) := by
    have := hpb.take (n := (trimS p).length) HLP.out
    rw [trim_take] at this; exact this
  have HBQ : Hid (ByAt w (.slice d (trimS q).length cd) (trimS q)) := by
    have := hqb.take (n := (trimS q).length) (trim_len q)
    rw [trim_take] at this; exact this
  have HSQ := hidD HBQ.out.shape'.2
  have HSRC := hidD (fun (w' : World) (h : Below w.heap.size w w') => SlAt.src (hbp.next h))
  have HONE := hidD (bytes_oneCell (trimS p))
  have HPM : Hid (((trimS p).map encB).length = (trimS p).length) := List.length_map _
  have HRS := hidD (fun (w' : World) g h => row_of_splice (w := w') (g := g) (p := trimS p) h)
  have hml : (trimS p).length ≤ 281474976710655 := Nat.le_trans HLP.out hpl
  have HOFF := hidD (fun g (hg : w.heap.size ≤ g) => HBQ.out.off hg hq0)
  have hql : 0 < (trimS q).length := List.length_pos_iff.2 hq0
  have hlast := trim_last q hq0
  have HINV := hidD (fun w' (h : FdAt w' b P G) => inv_some ho (cf (trimS q) ((trimS q).length - 1)) hlast w' h)
  have HMUL := hidD (fun (x y : UInt8) w' (h : FdAt w' b P G) => mul_any ho x y w' h)
  have HADD := hidD (fun (L : List UInt8) (c : UInt8) (g off n cap : Nat) h1 h2 h3 (wr : World) h4 h5 h6 h7 h8 => add_any (b := b) ho L (trimS q) c g off n cap d cd h1 h2 h3 wr h4 h5 h6 h7 h8)
  have HDV : Hid (divGo P (trimS q) (inv P (cf (trimS q) ((trimS q).length - 1))) ((trimS p).length - (trimS q).length + 1) (trimS p) (List.replicate ((trimS p).length - (trimS q).length + 1) 0) = divS P (trimS p) (trimS q)) := rfl
  have HSTP : Hid (∀ m r a', divGo P (trimS q) (inv P (cf (trimS q) ((trimS q).length - 1))) (m + 1) r a' = divGo P (trimS q) (inv P (cf (trimS q) ((trimS q).length - 1))) m (addL P r m (trimS q) (bm P (cf r (m + (trimS q).length - 1)) (inv P (cf (trimS q) ((trimS q).length - 1))))) (a'.set m (bm P (cf r (m + (trimS q).length - 1)) (inv P (cf (trimS q) ((trimS q).length - 1)))))) := fun m r a' => rfl
  have HEND : Hid (∀ r a', divGo P (trimS q) (inv P (cf (trimS q) ((trimS q).length - 1))) 0 r a' = (r, a')) := fun r a' => rfl
  have HALL := hidD (fun (m : Nat) (L q' : List UInt8) (c : UInt8) => addL_length P L m q' c)
  generalize hF : divS P (trimS p) (trimS q) = F at *
  have HFD := hidD hf
  clear hpb hqb hbp hpl hca1 hcd1 hca2 hcd2 hq0 hF hf
  generalize p.length = lp at *
  generalize q.length = lq at *
  generalize inv P (cf (trimS q) ((trimS q).length - 1)) = iv at *
  generalize hq' : trimS q = q' at *
  generalize hT : trimS p = T at *
  generalize htl : T.length = tp at *
  generalize htq : q'.length = tq at *
  have HTL := hidD htl
  have HTLQ := hidD htq
  clear hT htl hq' htq
  generalize hm0 : tp - tq + 1 = m0 at *
  have hm0i : (tp : Int) - tq + 1 = (m0 : Int) := by omega
  have hlti : ¬ (tp : Int) < tq := by omega
  have hq0 : ¬ (tq : Int) = 0 := by omega
  have hqb : ((tq : Int) == 0) = false := by simpa using hq0
  have HM0 := hidD hm0
  have HTQ0 := hidD hql
  have hm0l : m0 ≤ 281474976710656 := by omega
  obtain ⟨gq, oq, hde, hgq, hcq⟩ := HSQ.out (tq - 1) (by have := HTLQ.out; omega)
  subst hde
  have htq1 : (tq : Int) - 1 = ((tq - 1 : Nat) : Int) := by omega
  have htq1l : ((tq - 1 : Nat) : Int) < tq := by omega
  have HTQ1 : Hid (tq - 1 + 1 = tq) := by show _ = _; omega
  have HCQ : Hid (∀ w', Below w.heap.size w w' → w'.cell? ⟨gq, oq + (tq - 1), none⟩ = some (.int .u8 ((cf q' (tq - 1)).toNat : Int))) := fun w' h => by rw [h.cell (p := ⟨gq, _, none⟩) hgq]; exact hcq
  generalize (cf q' (tq - 1)).toNat = ql at *
  generalize tq - 1 = t1 at *
  clear hm0 hql hge hcq hgq
  obtain ⟨i0, hi, hz0, hz1, hz2⟩ := info_parts Try.info5
  have hi5 : (Try.prog.info? 5).map (·.size) = some 1 := by rw [hi]; simp [hz1]
  go_enter Try.func34, Try.ntmps34
  go_wp2_with (first
    | (go_at_call 52; refine HTP.out.mono ?_; rintro e w2 ⟨rfl, hb2⟩; clear HTP)
    | (go_at_call 52; refine HTQ.out.mono ?_; rintro e w2 ⟨rfl, hb2⟩; clear HTQ)
    | (at_make; refine wpList_make_full _ rfl _ _ 22 rfl w.heap.size 5 i0 (.int .u8 0) 1 Try.underlying22 hi hz0 hz1 _ _ _ _ tp rfl rfl rfl rfl (by rw [hz2]; omega) (by unfold maxLen; omega) (Nat.le_refl _) ?_; intro w3 hown3 hg3; have HR3 := hidD (row_replicate (row_of_made hown3)); have HB3 : Hid (Below w.heap.size w w3) := ((Below.refl w.heap.size w).grown hg3 (Nat.le_refl _) (fun k hk => by cases hk)); clear hown3 hg3)
    | (refine wpList_copy_splice rfl _ _ 22 22 rfl 5 Try.underlying22 hi5 (some ⟨w.heap.size, 0, none⟩) a tp tp tp ca rfl rfl w.heap.size 0 (List.replicate tp (.int .u8 0)) 5 HR3.out (T.map encB) (by rw [HPM.out]; exact (Nat.min_self _).symm) (fun h0 => ⟨rfl, HSRC.out _ HB3.out h0⟩) (by rw [HPM.out, List.length_replicate]; omega) HONE.out w.heap.size w HB3.out (Nat.le_refl _) ?_; intro w4 hg4 hb4; have HR4 := hidD (HRS.out _ _ hg4.out); have HB4 := hidD hb4; clear hb4 hg4)
    | (at_make; refine wpList_make_full _ rfl _ _ 22 rfl w4.heap.size 5 i0 (.int .u8 0) 1 Try.underlying22 hi hz0 hz1 _ _ _ _ m0 rfl rfl (by omega) (by omega) (by rw [hz2]; omega) (by unfold maxLen; omega) (Nat.le_refl _) ?_; intro w5 hown5 hg5; have HR5 := hidD (row_of_made hown5); have hb5 : Below w4.heap.size w4 w5 := ((Below.refl w4.heap.size w4).grown hg5 (Nat.le_refl _) (fun k hk => by cases hk)); have HB5 := hidD (Below.next HB4.out hb5); have HR45 := hidD (HR4.out.next hb5); have HG45 := hidD HR4.out.lt; clear hown5 hg5 hb5; have hcl5 := HCQ.out _ HB5.out)
    | (go_at_call 53; refine (HINV.out _ (HFD.out.next HB5.out)).mono ?_; rintro e w6 ⟨rfl, hb6⟩; have HB6 := hidD (Below.next HB5.out hb6); have HR6 := hidD (HR45.out.next hb6); have HA6 := hidD (HR5.out.next hb6); clear hb6))
  have HRQ : Hid (w.heap.size ≠ w4.heap.size) := Nat.ne_of_lt HG45.out
  have HGW : Hid (w.heap.size ≤ w4.heap.size) := HB4.out.size
  have HBNR : Hid (b ≠ w.heap.size) := Nat.ne_of_lt HFD.out.lt
  clear HR3 HB3 HR4 HB4 HR5 HR45 HB5 hcl5 hm0i hlti
  obtain ⟨gr, hgr⟩ : ∃ gr, gr = w.heap.size := ⟨_, rfl⟩
  obtain ⟨ga, hga⟩ : ∃ ga, ga = w4.heap.size := ⟨_, rfl⟩
  rw [← hgr, ← hga] at HRQ
  rw [← hgr] at HR6 HBNR
  have HGR : Hid (w.heap.size ≤ gr) := by rw [hgr]; exact Nat.le_refl _
  rw [← hga] at HA6 HGW HG45
  rw [← hgr, ← hga]
  have HOF := hidD (HOFF.out gr (by rw [hgr]; exact Nat.le_refl _))
  clear hgr hga
  go_loopw [13] (fun i wr => ∃ k : Nat, k ≤ m0 ∧ i = .int .i64 ((k : Int) - 1) ∧ (∃ R A : List UInt8, R.length = tp ∧ A.length = m0 ∧ RowAt wr gr R ∧ RowAt wr ga A ∧ divGo P q' iv k R A = F) ∧ Below w.heap.size w wr) (fun i _ => (intOf i + 1).toNat)
  case atStart => exact ⟨m0, Nat.le_refl _, rfl, ⟨T, List.replicate m0 0, HTL.out, List.length_replicate, HR6.out, HA6.out, HDV.out⟩, HB6.out⟩
  case round =>
    obtain ⟨k, hk, rfl, ⟨R, A, hRl, hAl, hrr, hra, hdv⟩, hbel⟩ := hrel
    by_cases hk0 : k = 0
    · subst hk0
      rw [HEND.out] at hdv
      have HRR := hidD hrr
      have HRA := hidD hra
      have HBL := hidD hbel
      have HF1 : Hid (F.1 = R) := by show _ = _; rw [← hdv]
      have HF2 : Hid (F.2 = A) := by show _ = _; rw [← hdv]
      have hsl := SlAt.row hrr hRl.symm (by omega)
      have HT := hidD (trimmed_any R (some ⟨gr, 0, none⟩) tp (by omega) (by omega) wr (by rw [hRl]; exact hsl.by'))
      have HTB := hidD ((show ByAt wr (.slice (some ⟨gr, 0, none⟩) R.length tp) R by rw [hRl]; exact hsl.by').take (n := (trimS R).length) (trim_len _))
      rw [trim_take] at HTB
      have HTLN := hidD (trim_len R)
      rw [hRl] at HT HTLN
      have HSA := hidD (SlAt.row hra hAl.symm (by omega))
      clear hrr hra hdv hRl hAl hbel hsl
      go_wp2_with (go_at_call 52; refine HT.out.mono ?_; rintro e w7 ⟨rfl, hb7⟩)
      refine bodyPost_ret (v := .tuple #[.slice (some ⟨ga, 0, none⟩) m0 m0, .slice (some ⟨gr, 0, none⟩) (trimS R).length tp, .int .i64 0]) (by simp [results, Try.results34, go_sem]) rfl ?_
      exact ⟨_, _, rfl, by rw [HF2.out]; exact HSA.out, by rw [HF1.out]; exact ⟨⟨_, _, rfl, HTLN.out, by omega⟩, HTB.out⟩, NewSl.of HGR.out _ _ _, HBL.out⟩
    · obtain ⟨j, rfl⟩ : ∃ j, k = j + 1 := ⟨k - 1, by omega⟩
      have hji : ((j + 1 : Nat) : Int) - 1 = (j : Int) := by omega
      have hj0 : (0 : Int) ≤ j := by omega
      have hjm : (j : Int) < m0 := by omega
      have hjt : j + t1 < tp := by have := HM0.out; have := HTQ1.out; omega
      have hjti : (j : Int) + tq - 1 = ((j + t1 : Nat) : Int) := by have := HTQ1.out; omega
      have hjtl : ((j + t1 : Nat) : Int) < tp := by omega
      have hcr : wr.cell? ⟨gr, j + t1, none⟩ = some (.int .u8 ((cf R (j + t1)).toNat : Int)) := hrr.cell (by rw [hRl]; exact hjt)
      have HM := hidD (HMUL.out (cf R (j + t1)) iv wr (HFD.out.next hbel))
      rw [HSTP.out, show j + tq - 1 = j + t1 by have := HTQ1.out; omega] at hdv
      have HDVN := hidD hdv
      have HRR := hidD hrr
      have HRA := hidD hra
      have HBL := hidD hbel
      have HRL := hidD hRl
      have HAL := hidD hAl
      have hjtp : (j : Int) ≤ tp := by omega
      have hjne : ¬ tp = j := by omega
      have HTQP : Hid (tq ≤ tp - j) := by show _ ≤ _; have := HTQ1.out; omega
      have HTQR : Hid (j + tq ≤ tp) := by show _ ≤ _; have := HTQ1.out; omega
      have HCA : Hid (∀ w', Below wr.heap.size wr w' → ∃ v, w'.cell? ⟨ga, j, none⟩ = some v) := fun w' h => ⟨_, (hra.next h).cell (by rw [hAl]; omega)⟩
      generalize bm P (cf R (j + t1)) iv = c at *
      generalize (cf R (j + t1)).toNat = rv at *
      clear hrr hra hdv hbel hRl hAl
      generalize j + t1 = jt at *
      go_wp2_with (go_at_call 54; refine HM.out.mono ?_; rintro e w7 ⟨rfl, hb7⟩; obtain ⟨cv, hcv⟩ := HCA.out _ hb7; have hfz := (HRA.out.next hb7).frozen j; have HR7 := hidD (HRR.out.next hb7); have HA7 := hidD ((HRA.out.next hb7).set j c); have HB7 := hidD (Below.next HBL.out hb7); clear hb7)
      have HR8 := hidD (HR7.out.put HRQ.out j (.int .u8 (c.toNat : Int)))
      have HB8 := hidD (HB7.out.setCell (p := ⟨ga, j, none⟩) HGW.out (.int .u8 (c.toNat : Int)))
      generalize w7.setCell ⟨ga, j, none⟩ (.int .u8 (c.toNat : Int)) = w8 at *
      have hcs : cf (A.set j c) j = c := by rw [cf_set _ _ _ _ (by rw [HAL.out]; omega), if_pos rfl]
      have hca0 : (w8.drewN 0).cell? ⟨ga, j, none⟩ = some (.int .u8 (c.toNat : Int)) := by
        have h := HA7.out.cell (k := j) (by rw [List.length_set, HAL.out]; omega)
        rw [show (A.set j c).getD j 0 = c from hcs] at h; exact h
      have hca1 : w8.cell? ⟨ga, j, none⟩ = some (.int .u8 (c.toNat : Int)) := hca0
      have hca : ∀ n, (w8.drewN n).cell? ⟨ga, j, none⟩ = some (.int .u8 (c.toNat : Int)) := fun n => hca0
      have hbd : Below w8.heap.size w8 w8.drew := (Below.refl _ _).drew
      have HAD : Hid (∀ cap, Calls Try.prog 55 #[.pointer (some ⟨b, 0, none⟩), .slice (some ⟨gr, j, none⟩) (tp - j) cap, .slice (some ⟨gq, oq, none⟩) tq cd, .int .u8 (c.toNat : Int)] w8.drew fun e w' => e = .returned (.tuple #[]) ∧ RowAt w' gr (addL P R j q' c) ∧ But gr w8.drew w') := fun cap =>
        HADD.out R c gr j (tp - j) cap HTQP.out (by rw [HRL.out]; exact HTQR.out) (by omega) w8.drew ((HFD.out.next HB8.out).next hbd) HBNR.out (HR8.out.next hbd) ((HBQ.out.next HB8.out).next hbd) HOF.out
      have HAN : Hid (∀ w', But gr w8.drew w' → RowAt w' ga (A.set j c)) := fun w' h => (HA7.out.next hbd).but h (fun h => HRQ.out h.symm)
      have HBN : Hid (∀ w', But gr w8.drew w' → Below w.heap.size w w') := fun w' h => (Below.next HB8.out hbd).trans (h.bel.mono HGR.out)
      have HLR : Hid ((addL P R j q' c).length = tp) := by show _ = _; rw [HALL.out]; exact HRL.out
      have HLA : Hid ((A.set j c).length = m0) := by show _ = _; rw [List.length_set]; exact HAL.out
      clear hca0 hbd hcs
      generalize (c.toNat : Int) = cv' at *
      go_region_with (go_at_call 55; refine (HAD.out _).mono ?_; rintro e w9 ⟨rfl, hr9, hb9⟩; have HR9 := hidD hr9; have HB9 := hidD hb9; clear hr9 hb9)
      all_goals
        go_wp2
        go_roundw
        case rel => exact ⟨j, by omega, by congr 1, ⟨_, _, HLR.out, HLA.out, HR9.out, HAN.out _ HB9.out, HDVN.out⟩, HBN.out _ HB9.out⟩
        case measure => simp [intOf]
end Go.Proofs.Ytdpkeffkpecmjaa
