/- What Encode answers. -/
import Derived.Test.YtdpkeffkpecmjaaRsc
namespace Go.Proofs.Ytdpkeffkpecmjaa
open Go.RowKit
set_option linter.unusedVariables false

theorem divide_any {P G : UInt8} {b : Nat} (ho : ordS P G = 255) (p q : List UInt8) (hq0 : trimS q ≠ []) (hpl : p.length ≤ 281474976710655) (vp vq : Value) (w : World) (hf : FdAt w b P G) (hp : SlAt w vp p) (hq : SlAt w vq q) :
    Calls Try.prog 34 #[.pointer (some ⟨b, 0, none⟩), vp, vq] w fun e w' => ∃ v1 v2, e = .returned (.tuple #[v1, v2, .int .i64 0]) ∧ SlAt w' v1 (quoS P p q) ∧ SlAt w' v2 (modS P p q) ∧ NewSl w.heap.size v2 ∧ Below w.heap.size w w' := by
  by_cases h : (trimS p).length < (trimS q).length
  · refine (divide_short (b := b) p q h (by omega) vp vq w hp hq).mono ?_
    rintro e w2 ⟨v, rfl, hs, hn, hb⟩
    exact ⟨_, _, rfl, by rw [quoS, if_pos h]; exact SlAt.nil _, by rw [modS, if_pos h]; exact hs, hn, hb⟩
  · refine (divide_long ho p q hq0 (by omega) hpl vp vq w hf hp hq).mono ?_
    rintro e w2 ⟨v1, v2, rfl, h1, h2, hn, hb⟩
    exact ⟨_, _, rfl, by rw [quoS, if_neg h]; exact h1, by rw [modS, if_neg h]; exact h2, hn, hb⟩

/-- A word of these data, with the lowest k of the rest's coefficients at its end. -/
def encTo (data R : List UInt8) (p k : Nat) : List UInt8 := (List.range (data.length + p)).map fun i => if i < data.length then cf data i else if data.length + p - 1 - i < k then cf R (data.length + p - 1 - i) else 0
theorem encTo_length (data R : List UInt8) (p k : Nat) : (encTo data R p k).length = data.length + p := by simp [encTo]
theorem encTo_zero (data R : List UInt8) (p : Nat) : encTo data R p 0 = data ++ List.replicate p 0 := cf_ext (by simp [encTo]) fun i hi => by
  rw [encTo_length] at hi
  rw [encTo, cf_map, if_pos hi]
  by_cases h : i < data.length
  · rw [if_pos h, cf, cf, List.getD_eq_getElem?_getD, List.getD_eq_getElem?_getD, List.getElem?_append_left h]
  · rw [if_neg h, if_neg (by omega), cf, List.getD_eq_getElem?_getD, List.getElem?_append_right (by omega), List.getElem?_replicate]
    split <;> rfl
theorem encTo_set (data R : List UInt8) (p k : Nat) (hk : k < p) : (encTo data R p k).set (data.length + p - 1 - k) (cf R k) = encTo data R p (k + 1) := cf_ext (by simp [encTo]) fun i hi => by
  rw [List.length_set, encTo_length] at hi
  rw [cf_set _ _ _ _ (by rw [encTo_length]; omega), encTo, encTo, cf_map, cf_map, if_pos hi, if_pos hi]
  by_cases h1 : i = data.length + p - 1 - k
  · rw [if_pos h1, if_neg (by omega), if_pos (by omega)]; congr 1; omega
  · rw [if_neg h1]
    by_cases h2 : i < data.length
    · rw [if_pos h2, if_pos h2]
    · rw [if_neg h2, if_neg h2]
      by_cases h3 : data.length + p - 1 - i < k
      · rw [if_pos h3, if_pos (by omega)]
      · rw [if_neg h3, if_neg (by omega)]
theorem encTo_more (data R : List UInt8) (p k : Nat) (h : R.length ≤ k) (hk : k ≤ p) : encTo data R p k = encTo data R p p := cf_ext (by simp [encTo]) fun i hi => by
  rw [encTo_length] at hi
  rw [encTo, encTo, cf_map, cf_map, if_pos hi, if_pos hi]
  by_cases h2 : i < data.length
  · rw [if_pos h2, if_pos h2]
  · rw [if_neg h2, if_neg h2, if_pos (show data.length + p - 1 - i < p by omega)]
    split
    · rfl
    · rw [cf_ge (by omega)]
/-- What is left of the data, shifted, by the generator. -/
def encR (f p : Nat) (data : List UInt8) : List UInt8 := modS 29 (data ++ List.replicate p 0).reverse (genTo f p)
/-- The word of these data. -/
def encS (f p : Nat) (data : List UInt8) : List UInt8 := encTo data (encR f p data) p p
theorem encR_len (f p : Nat) (data : List UInt8) : (encR f p data).length ≤ p := by
  have := mod_short (P := 29) one_d (p := (data ++ List.replicate p 0).reverse) (gen_ne f p)
  rw [gen_trim, (gen_ok f p).1] at this
  unfold encR; omega

set_option maxRecDepth 100000 in
set_option maxHeartbeats 800000 in
theorem encode_nil (v : Value) (w : World) : Calls Try.prog 12 #[.pointer none, v] w fun e w' => e = .returned (.tuple #[.slice none 0 0, .int .i64 2]) ∧ Below w.heap.size w w' := by
  have HW : Hid (Below w.heap.size w w) := Below.refl _ _
  go_enter Try.func12, Try.ntmps12
  go_wp2_with fail
  refine bodyPost_ret (v := .tuple #[.slice none 0 0, .int .i64 2]) (by simp [results, Try.results12, go_sem]) rfl ?_
  exact ⟨rfl, HW.out⟩
set_option maxRecDepth 100000 in
set_option maxHeartbeats 800000 in
theorem encode_none {c : Nat} (v : Value) (w : World) (hv : SlAt w v []) : Calls Try.prog 12 #[.pointer (some ⟨c, 0, none⟩), v] w fun e w' => e = .returned (.tuple #[.slice none 0 0, .int .i64 1]) ∧ Below w.heap.size w w' := by
  have HW : Hid (Below w.heap.size w w) := Below.refl _ _
  obtain ⟨⟨a, ca, rfl, hca1, hca2⟩, hpb⟩ := hv
  have h0 : ([] : List UInt8).length = 0 := rfl
  rw [h0]
  go_enter Try.func12, Try.ntmps12
  go_wp2_with fail
  refine bodyPost_ret (v := .tuple #[.slice none 0 0, .int .i64 1]) (by simp [results, Try.results12, go_sem]) rfl ?_
  exact ⟨rfl, HW.out⟩
set_option maxRecDepth 100000 in
set_option maxHeartbeats 800000 in
theorem encode_big {c p f : Nat} (hp : p ≤ 254) (data : List UInt8) (h : 255 < data.length + p) (v : Value) (w : World) (hc : CdAt w c p f) (hv : SlAt w v data) : Calls Try.prog 12 #[.pointer (some ⟨c, 0, none⟩), v] w fun e w' => e = .returned (.tuple #[.slice none 0 0, .int .i64 3]) ∧ Below w.heap.size w w' := by
  have HW : Hid (Below w.heap.size w w) := Below.refl _ _
  obtain ⟨⟨a, ca, rfl, hca1, hca2⟩, hpb⟩ := hv
  have h0 := hc.c0
  have h1 : ¬ (data.length : Int) = 0 := by omega
  have h2 : (255 : Int) - p < data.length := by omega
  have h3 : ((data.length : Int) == 0) = false := by simpa using h1
  clear hc hpb
  generalize data.length = n at *
  go_enter Try.func12, Try.ntmps12
  go_wp2_with fail
  refine bodyPost_ret (v := .tuple #[.slice none 0 0, .int .i64 3]) (by simp [results, Try.results12, go_sem]) rfl ?_
  exact ⟨rfl, HW.out⟩

set_option maxRecDepth 100000 in
set_option maxHeartbeats 1600000 in
theorem encode_ok {c p f : Nat} (hp : p ≤ 254) (data : List UInt8) (hn : 0 < data.length) (h : data.length + p ≤ 255) (v : Value) (w : World) (hc : CdAt w c p f) (hv : SlAt w v data) :
    Calls Try.prog 12 #[.pointer (some ⟨c, 0, none⟩), v] w fun e w' => ∃ g, e = .returned (.tuple #[.slice (some ⟨g, 0, none⟩) (data.length + p) (data.length + p), .int .i64 0]) ∧ w.heap.size ≤ g ∧ RowAt w' g (encS f p data) ∧ Below w.heap.size w w' := by
  obtain ⟨⟨a, ca, rfl, hca1, hca2⟩, hpb⟩ := hv
  obtain ⟨gv, b, hg2, hg3, hg4, hg5⟩ := hc.rest
  have h0 := hc.c0
  have HCL := hidD hc.lt
  have HFD := hidD hg5
  have HGV := hidD hg4
  have HSRC := hidD (fun (w' : World) (h : Below w.heap.size w w') => SlAt.src (hpb.next h))
  have HONE := hidD (bytes_oneCell data)
  have HPM : Hid ((data.map encB).length = data.length) := List.length_map _
  have HSP := hidD (splice_zero data (data.length + p) (by omega))
  rw [show data.length + p - data.length = p by omega, ← encTo_zero data (encR f p data) p] at HSP
  have HSET := hidD (encTo_set data (encR f p data) p)
  have HMO := hidD (encTo_more data (encR f p data) p)
  have HEN : Hid (encS f p data = encTo data (encR f p data) p p) := rfl
  have HLN := hidD (encTo_length data (encR f p data) p)
  have HRL := hidD (encR_len f p data)
  have HZL := hidD (encTo_zero data (encR f p data) p)
  have HCO : Hid (∀ (v : Value) (w : World), SlAt w v (encTo data (encR f p data) p 0) → Calls Try.prog 35 #[v] w fun e w' => e = .returned (.slice (some ⟨w.heap.size, 0, none⟩) (data.length + p) (data.length + p)) ∧ SlAt w' (.slice (some ⟨w.heap.size, 0, none⟩) (data.length + p) (data.length + p)) (data ++ List.replicate p 0).reverse ∧ Below w.heap.size w w') := fun v w hs => by
    have hl := encTo_length data (encR f p data) p 0
    refine (coefficients_any _ (by omega) v w hs).mono ?_
    rintro e w2 ⟨rfl, hr, hb⟩
    rw [hl]
    refine ⟨rfl, ?_, hb⟩
    rw [← encTo_zero data (encR f p data) p]
    exact SlAt.row hr (by rw [List.length_reverse, hl]) (by omega)
  have HDV : Hid (∀ (vp vq : Value) (w : World), FdAt w b 29 2 → SlAt w vp (data ++ List.replicate p 0).reverse → SlAt w vq (genTo f p) → Calls Try.prog 34 #[.pointer (some ⟨b, 0, none⟩), vp, vq] w fun e w' => ∃ v1 v2, e = .returned (.tuple #[v1, v2, .int .i64 0]) ∧ SlAt w' v2 (encR f p data) ∧ NewSl w.heap.size v2 ∧ Below w.heap.size w w') := fun vp vq w h1 h2 h3 => by
    refine (divide_any one_d _ _ (gen_ne f p) (by simp; omega) vp vq w h1 h2 h3).mono ?_
    rintro e w2 ⟨v1, v2, rfl, _, h2, hn, hb⟩
    exact ⟨v1, v2, rfl, h2, hn, hb⟩
  have h1 : ¬ (data.length : Int) = 0 := by omega
  have h2 : ¬ (255 : Int) - p < data.length := by omega
  have h3 : ((data.length : Int) == 0) = false := by simpa using h1
  clear hpb hg4 hg5 hc
  generalize encS f p data = E at *
  generalize (data ++ List.replicate p 0).reverse = D at *
  generalize encR f p data = R at *
  generalize genTo f p = G at *
  generalize data.length = n at *
  obtain ⟨i0, hi, hz0, hz1, hz2⟩ := info_parts Try.info5
  have hi5 : (Try.prog.info? 5).map (·.size) = some 1 := by rw [hi]; simp [hz1]
  go_enter Try.func12, Try.ntmps12
  go_wp2_with (first
    | (at_make; refine wpList_make_full _ rfl _ _ 22 rfl w.heap.size 5 i0 (.int .u8 0) 1 Try.underlying22 hi hz0 hz1 _ _ _ _ (n + p) rfl (by go_num) (by omega) (by omega) (by rw [hz2]; omega) (by unfold maxLen; omega) (Nat.le_refl _) ?_; intro w3 hown3 hg3; have HR3 := hidD (row_replicate (row_of_made hown3)); have HB3 : Hid (Below w.heap.size w w3) := ((Below.refl w.heap.size w).grown hg3 (Nat.le_refl _) (fun k hk => by cases hk)); clear hown3 hg3)
    | (refine wpList_copy_splice rfl _ _ 22 22 rfl 5 Try.underlying22 hi5 (some ⟨w.heap.size, 0, none⟩) a (n + p) (n + p) n ca rfl rfl w.heap.size 0 (List.replicate (n + p) (.int .u8 0)) 5 HR3.out (data.map encB) (by rw [HPM.out]; exact (Nat.min_eq_left (by omega)).symm) (fun h0 => ⟨rfl, HSRC.out _ HB3.out h0⟩) (by rw [HPM.out, List.length_replicate]; omega) HONE.out w.heap.size w HB3.out (Nat.le_refl _) ?_; intro w4 hg4 hb4; have HB4 := hidD hb4; clear hb4))
  all_goals
    have HR4 : Hid (RowAt w4 w.heap.size (encTo data R p 0)) := by
      have := hg4.out
      rw [HSP.out] at this
      exact this
    clear hg4
    have HKK : Hid (∀ wB, Below w4.heap.size w4 wB → ∃ i : KB w4 [c], wB = i.v) := fun wB hb => ⟨⟨wB, fun x hx => by
      rw [show x = c by simpa using hx]
      exact hb.block _ (Nat.lt_of_lt_of_le HCL.out HB4.out.size)⟩, rfl⟩
    have f2 : ∀ i : KB w4 [c], i.v.cell? ⟨c, 2, none⟩ = some gv := fun i => ((i.cell (b := c) (by simp) _).trans (HB4.out.cell (p := ⟨c, 2, none⟩) HCL.out)).trans hg2
    have f3 : ∀ i : KB w4 [c], i.v.cell? ⟨c, 3, none⟩ = some (.pointer (some ⟨b, 0, none⟩)) := fun i => ((i.cell (b := c) (by simp) _).trans (HB4.out.cell (p := ⟨c, 3, none⟩) HCL.out)).trans hg3
    have HDR : Hid (Below w4.heap.size w4 w4.drew) := (Below.refl _ _).drew
    have HSL : Hid (SlAt w4.drew (.slice (some ⟨w.heap.size, 0, none⟩) (n + p) (n + p)) (encTo data R p 0)) := (SlAt.row HR4.out (HLN.out 0).symm (by omega)).next HDR.out
    refine wp_region_seg [0, 0, 0, 0, 0, 1, 0, 0, 0, 0, 3, 4, 4, 4, 4, 4, 4, 4] 2 18 [c] (by kernel_rfl) (by kernel_rfl) (by kernel_rfl) (by kernel_rfl) (by kernel_rfl) (by kernel_rfl) (by kernel_rfl) (by kernel_rfl) (fun _ _ _ _ _ h => h) ?_
    simp only [SegW, pk, Nat.reduceMul, Nat.reduceAdd, Nat.reduceBEq, cond_true, cond_false]
    repeat (go_big_quiet_step (fail))
    refine wpQuiet_nil ?_
    go_wp2_with (go_at_call 35; refine (HCO.out _ _ HSL.out).mono ?_; rintro e w5 ⟨rfl, hs5, hb5⟩)
    have HB5 : Hid (Below w4.heap.size w4 w5) := HDR.out.trans hb5
    have HS5 := hidD hs5
    clear hb5 hs5
    refine ⟨HKK.out _ HB5.out, ?_⟩
    repeat (go_big_quiet_step (fail))
    refine wpQuiet_nil ?_
    have HB5w : Hid (Below w.heap.size w w5) := HB4.out.trans (HB5.out.mono HB4.out.size)
    go_wp2_with (go_at_call 34; refine (HDV.out _ _ _ (HFD.out.next HB5w.out) HS5.out (HGV.out.next HB5w.out)).mono ?_; rintro e w6 ⟨v1, v2, rfl, hs6, hn6, hb6⟩)
    have HB6 := hidD (Below.next HB5.out hb6)
    obtain ⟨⟨a2, ca2, rfl, hca4, hca3⟩, hsb⟩ := hs6
    have HSH := hidD hsb.shape'.2
    have HNG : Hid (∀ g o, a2 = some ⟨g, o, none⟩ → g ≠ w.heap.size) := fun g o he => by
      have h1 := hn6 g o R.length ca2 (by rw [he])
      have h2 := HR4.out.lt
      have h3 := HB5.out.size
      omega
    clear hn6
    have HR6 := hidD (HR4.out.next HB6.out)
    have HB6w : Hid (Below w.heap.size w w6) := HB4.out.trans (HB6.out.mono HB4.out.size)
    have HRLL := hidD HRL.out
    clear hb6 hsb
    refine ⟨HKK.out _ HB6.out, ?_⟩
    repeat (go_big_quiet_step (fail))
    refine wpQuiet_nil ?_
    have hrp : R.length ≤ p := HRL.out
    have HMR := hidD (HMO.out R.length (Nat.le_refl _) hrp)
    generalize hrl : R.length = r at *
    clear hrl
    go_wp2_with fail
    go_loopw [10, 11, 53] (fun _ _ i wr => ∃ k : Nat, k ≤ r ∧ i = .int .i64 k ∧ RowAt wr w.heap.size (encTo data R p k) ∧ But w.heap.size w6 wr) (fun _ _ i _ => r - (intOf i).toNat)
    case atStart => exact ⟨0, Nat.zero_le _, rfl, HR6.out, But.refl _ _⟩
    case round =>
      obtain ⟨k, hk, rfl, hrow, hbut⟩ := hrel
      have HBU := hidD hbut
      have HRW := hidD hrow
      by_cases hlt : k < r
      · have hlti : (k : Int) < r := by omega
        obtain ⟨g2, o2, rfl, hg2', hc2⟩ := HSH.out k hlt
        have hcq : wr.cell? ⟨g2, o2 + k, none⟩ = some (.int .u8 ((cf R k).toNat : Int)) := (hbut.cell hg2' (HNG.out _ _ rfl)).trans hc2
        have hkp : k < p := by omega
        have hm : (n : Int) + p - 1 - k = ((n + p - 1 - k : Nat) : Int) := by omega
        have hmn : ((n : Int) + (p : Int) - 1 - (k : Int)) = ((n + p - 1 - k : Nat) : Int) := hm
        obtain ⟨u6, k6⟩ : ∃ u, wr.cell? ⟨w.heap.size, n + p - 1 - k, none⟩ = some u := ⟨_, hrow.cell (by rw [HLN.out]; omega)⟩
        have l6 := hrow.frozen (n + p - 1 - k)
        have HN6 := hidD (hrow.set (n + p - 1 - k) (cf R k))
        rw [HSET.out k hkp] at HN6
        have hlt3 : ((n + p - 1 - k : Nat) : Int) < ((n + p : Nat) : Int) := by omega
        have hmm : n + p - 1 - k ≤ 255 := by omega
        have hsm : (((n + p : Nat) : Int) - 1 - (k : Int)) = ((n + p - 1 - k : Nat) : Int) := by omega
        clear hm hmn hc2
        generalize (cf R k).toNat = x at *
        clear hrow hbut
        go_wp2_with fail
        go_roundw
        case rel => exact ⟨k + 1, by omega, by go_num, HN6.out, HBU.out.put _ _⟩
        case measure => simp [intOf]; omega
      · obtain rfl : k = r := by omega
        rw [HMR.out, ← HEN.out] at HRW
        clear hrow hbut
        go_wp2_with fail
        refine bodyPost_ret (v := .tuple #[.slice (some ⟨w.heap.size, 0, none⟩) (n + p) (n + p), .int .i64 0]) (by simp [results, Try.results12, go_sem]) rfl ?_
        exact ⟨w.heap.size, rfl, Nat.le_refl _, HRW.out, HB6w.out.trans HBU.out.bel⟩
end Go.Proofs.Ytdpkeffkpecmjaa
