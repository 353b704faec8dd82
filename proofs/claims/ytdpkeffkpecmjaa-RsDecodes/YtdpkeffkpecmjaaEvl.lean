/- What Eval and Plus of the program answer. -/
import Derived.Test.YtdpkeffkpecmjaaAlv
namespace Go.Proofs.Ytdpkeffkpecmjaa
open Go.RowKit
set_option linter.unusedVariables false

theorem eval_drop (P x : UInt8) (l : List UInt8) (m : Nat) (h : m < l.length) : evalS P x (l.drop m) = bm P (evalS P x (l.drop (m + 1))) x ^^^ cf l m := by
  rw [List.drop_eq_getElem_cons h, evalS]
  congr 1
  unfold cf
  rw [List.getD_eq_getElem?_getD, List.getElem?_eq_getElem h]; rfl
theorem eval_step (P x : UInt8) (l : List UInt8) (k : Nat) (h : k < l.length) : evalS P x (l.drop (l.length - (k + 1))) = bm P (evalS P x (l.drop (l.length - k))) x ^^^ cf l (l.length - 1 - k) := by
  rw [eval_drop P x l _ (by omega), show l.length - (k + 1) + 1 = l.length - k by omega, show l.length - (k + 1) = l.length - 1 - k by omega]
set_option maxRecDepth 100000 in
set_option maxHeartbeats 800000 in
theorem eval_any {P G : UInt8} {b : Nat} (ho : ordS P G = 255) (p : List UInt8) (x : UInt8) (v : Value) (w : World) (hf : FdAt w b P G) (hp : SlAt w v p) : Calls Try.prog 39 #[.pointer (some ⟨b, 0, none⟩), v, .int .u8 (x.toNat : Int)] w fun e w' => e = .returned (.int .u8 ((evalS P x p).toNat : Int)) ∧ Below w.heap.size w w' := by
  obtain ⟨⟨a, cap, rfl, hc1, hc2⟩, hby⟩ := hp
  have HSH := hidD hby.shape'.2
  have HF := hidD hf
  have HST := hidD (fun k h => eval_step P x p k h)
  have HMU := hidD (fun (y : UInt8) w' (h : FdAt w' b P G) => mul_any ho y x w' h)
  generalize hR : ((evalS P x p).toNat : Int) = R
  have HR : Hid (((evalS P x (p.drop (p.length - p.length))).toNat : Int) = R) := by show _ = _; rw [Nat.sub_self, List.drop_zero]; exact hR
  have H0 : Hid (evalS P x (p.drop (p.length - 0)) = 0) := by show _ = _; rw [Nat.sub_zero, List.drop_length]; rfl
  clear hf hby hR
  generalize hn : p.length = n at *
  have HN := hidD hn
  clear hn
  go_enter Try.func39, Try.ntmps39
  go_wp2_with fail
  go_loopw [7, 13] (fun y i wr => ∃ k : Nat, k ≤ n ∧ i = .int .i64 k ∧ y = .int .u8 ((evalS P x (p.drop (n - k))).toNat : Int) ∧ Below w.heap.size w wr) (fun _ i _ => n - (intOf i).toNat)
  case atStart => exact ⟨0, Nat.zero_le _, rfl, by rw [H0.out]; rfl, Below.refl _ _⟩
  case round =>
    obtain ⟨k, hk, rfl, rfl, hbel⟩ := hrel
    have HBL := hidD hbel
    by_cases hlt : k < n
    · have hlti : (k : Int) < n := by omega
      obtain ⟨g, o, rfl, hg, hc⟩ := HSH.out (n - 1 - k) (by have := HN.out; omega)
      have hix : (n : Int) - 1 - k = ((n - 1 - k : Nat) : Int) := by omega
      have hixl : ((n - 1 - k : Nat) : Int) < n := by omega
      have hcl : ∀ i : BW wr, i.v.cell? ⟨g, o + (n - 1 - k), none⟩ = some (.int .u8 ((cf p (n - 1 - k)).toNat : Int)) := fun i => by
        rw [i.below.cell (p := ⟨g, _, none⟩) (Nat.lt_of_lt_of_le hg hbel.size), hbel.cell (p := ⟨g, _, none⟩) hg]; exact hc
      have HM := hidD (fun i : BW wr => HMU.out (evalS P x (p.drop (n - k))) i.v ((HF.out.next hbel).next i.below))
      have hxx := u8_xor_nat (bm P (evalS P x (p.drop (n - k))) x).toNat (cf p (n - 1 - k)).toNat (u8_lt _) (u8_lt _)
      rw [← UInt8.toNat_xor] at hxx
      have HS := hidD (HST.out k (by have := HN.out; omega))
      generalize hv : bm P (evalS P x (p.drop (n - k))) x ^^^ cf p (n - 1 - k) = v at *
      generalize (bm P (evalS P x (p.drop (n - k))) x).toNat = m1 at *
      generalize (evalS P x (p.drop (n - k))).toNat = m0 at *
      generalize (cf p (n - 1 - k)).toNat = m2 at *
      generalize n - 1 - k = d at *
      clear hv hbel hc hg hk
      go_wp2_with fail
      refine wp_region_below (by kernel_rfl) (by kernel_rfl) ?_
      repeat (go_big_quiet_step ((go_at_call 54; exact Calls.below_of (HM.out _))))
      refine wpQuiet_nil ?_
      intro i
      go_wp2_with fail
      go_roundw
      case rel => exact ⟨k + 1, by omega, by go_num, by rw [HS.out], Below.next HBL.out i.below⟩
      case measure => simp [intOf]; omega
    · obtain rfl : k = n := by omega
      rw [HR.out]
      clear hbel
      go_wp2_with fail
      go_ret
      exact ⟨rfl, HBL.out⟩
set_option maxRecDepth 100000 in
set_option maxHeartbeats 800000 in
theorem eval_nil (x : UInt8) (v : Value) (w : World) : Calls Try.prog 39 #[.pointer none, v, .int .u8 (x.toNat : Int)] w fun e w' => e = .returned (.int .u8 0) ∧ Below w.heap.size w w' := by
  have HW : Hid (Below w.heap.size w w) := Below.refl _ _
  go_enter Try.func39, Try.ntmps39
  go_wp2_with fail
  go_ret
  exact ⟨rfl, HW.out⟩

/-- The sum's row, k coefficients of q being put in. -/
def plusTo (p q : List UInt8) (n k : Nat) : List UInt8 := (List.range n).map fun i => cf p i ^^^ (if i < k then cf q i else 0)
theorem plusTo_length (p q : List UInt8) (n k : Nat) : (plusTo p q n k).length = n := by simp [plusTo]
theorem plusTo_zero (p q : List UInt8) (n : Nat) (h : p.length ≤ n) : plusTo p q n 0 = p ++ List.replicate (n - p.length) 0 :=
  cf_ext (by rw [plusTo_length, List.length_append, List.length_replicate]; omega) fun k hk => by
    rw [plusTo_length] at hk
    rw [plusTo, cf_map, if_pos hk, if_neg (Nat.not_lt_zero _), xor_zero']
    by_cases hp : k < p.length
    · unfold cf; rw [List.getD_eq_getElem?_getD, List.getD_eq_getElem?_getD, List.getElem?_append_left hp]
    · rw [cf_ge (by omega)]
      unfold cf
      rw [List.getD_eq_getElem?_getD, List.getElem?_append_right (by omega), List.getElem?_replicate]
      split <;> rfl
theorem plusTo_set (p q : List UInt8) (n k : Nat) (hk : k < n) : (plusTo p q n k).set k (cf (plusTo p q n k) k ^^^ cf q k) = plusTo p q n (k + 1) :=
  cf_ext (by rw [List.length_set, plusTo_length, plusTo_length]) fun i hi => by
    rw [List.length_set, plusTo_length] at hi
    rw [cf_set _ _ _ _ (by rw [plusTo_length]; exact hk), plusTo, plusTo, cf_map, cf_map, cf_map, if_pos hi, if_pos hk, if_pos hi]
    by_cases h : i = k
    · subst h; rw [if_pos rfl, if_neg (Nat.lt_irrefl _), xor_zero', if_pos (by omega)]
    · rw [if_neg h]
      by_cases h2 : i < k
      · rw [if_pos h2, if_pos (by omega)]
      · rw [if_neg h2, if_neg (by omega)]
theorem plusTo_all (p q : List UInt8) : plusTo p q (max p.length q.length) q.length = plusS p q :=
  cf_ext (by simp [plusTo, plusS]) fun i hi => by
    rw [plusTo_length] at hi
    rw [plusTo, plusS, cf_map, cf_map, if_pos hi, if_pos hi]
    split
    · rfl
    · rw [cf_ge (l := q) (by omega)]
theorem splice_zero (p : List UInt8) (n : Nat) (h : p.length ≤ n) : splice (List.replicate n (Value.int .u8 0)) 0 (p.map encB) = (p ++ List.replicate (n - p.length) 0).map encB := by
  simp [splice, encB]
theorem row_replicate {w : World} {g n : Nat} (h : RowAt w g (List.replicate n 0)) : w.heap[g]? = some (.cells (List.replicate n (Value.int .u8 0)).toArray (5 : TypeId) (0, 0)) := by
  unfold RowAt at h
  rw [h, List.map_replicate]; rfl
/-- A slice's bytes, as a copy asks for them. -/
theorem SlAt.src {w : World} {a : Option Addr} {n cap : Nat} {p : List UInt8} (h : ByAt w (.slice a n cap) p) : 0 < (p.map encB).length → ∃ ad, a = some ad ∧ ∀ j v, (p.map encB)[j]? = some v → w.cell? (ad.add j) = some v := fun h0 => by
  have hs := h.shape'.2
  obtain ⟨g, off, rfl, hg, hc⟩ := hs 0 (by simpa using h0)
  refine ⟨_, rfl, fun j v hv => ?_⟩
  rw [List.getElem?_map] at hv
  cases hj : p[j]? with
  | none => rw [hj] at hv; cases hv
  | some y =>
    rw [hj] at hv
    have hlt := (List.getElem?_eq_some_iff.1 hj).1
    obtain ⟨g', off', e, hg', hc'⟩ := hs j hlt
    cases e
    rw [Go.WideShapes.add_plain, hc', ← hv]
    have := cf_get hlt
    rw [hj] at this
    cases this; rfl

set_option maxRecDepth 100000 in
set_option maxHeartbeats 800000 in
theorem plus_any {b : Nat} (p q : List UInt8) (hpl : p.length ≤ 281474976710656) (hql : q.length ≤ 281474976710656) (vp vq : Value) (w : World) (hp : SlAt w vp p) (hq : SlAt w vq q) :
    Calls Try.prog 82 #[.pointer (some ⟨b, 0, none⟩), vp, vq] w fun e w' => ∃ v, e = .returned v ∧ SlAt w' v (trimS (plusS p q)) ∧ Below w.heap.size w w' := by
  obtain ⟨⟨a, ca, rfl, hca1, hca2⟩, hpb⟩ := hp
  obtain ⟨⟨d, cd, rfl, hcd1, hcd2⟩, hqb⟩ := hq
  have HSRC := hidD (fun (w' : World) (h : Below w.heap.size w w') => SlAt.src (hpb.next h))
  have HSQ := hidD hqb.shape'.2
  have HPZ := hidD (plusTo_zero p q (max p.length q.length) (by omega))
  have HSP := hidD (splice_zero p (max p.length q.length) (by omega))
  have HST := hidD (fun k h => plusTo_set p q (max p.length q.length) k h)
  have HLN := hidD (fun k => plusTo_length p q (max p.length q.length) k)
  have HAL := hidD (plusTo_all p q)
  have HONE := hidD (bytes_oneCell p)
  have hpm : p.length ≤ max p.length q.length := by omega
  have hqm : q.length ≤ max p.length q.length := by omega
  have hmx : max (p.length : Int) (q.length : Int) = ((max p.length q.length : Nat) : Int) := by omega
  have hml : max p.length q.length ≤ 281474976710656 := by omega
  have HPM : Hid ((p.map encB).length = p.length) := List.length_map _
  clear hpb hqb hca1 hca2 hcd1 hcd2 hpl hql
  generalize hM : max p.length q.length = n at *
  generalize hlp : p.length = lp at *
  generalize hlq : q.length = lq at *
  have HLP := hidD hlp
  have HLQ := hidD hlq
  clear hM hlp hlq
  obtain ⟨i0, hi, hz0, hz1, hz2⟩ := info_parts Try.info5
  have hi5 : (Try.prog.info? 5).map (·.size) = some 1 := by rw [hi]; simp [hz1]
  go_enter Try.func82, Try.ntmps82
  go_wp2_with (first
    | (at_make; refine wpList_make_full _ rfl _ _ 22 rfl w.heap.size 5 i0 (.int .u8 0) 1 Try.underlying22 hi hz0 hz1 _ _ _ _ n rfl rfl (by omega) (by omega) (by rw [hz2]; omega) (by unfold maxLen; omega) (Nat.le_refl _) ?_; intro w3 hown3 hg3; have HR3 := hidD (row_replicate (row_of_made hown3)); have HB3 : Hid (Below w.heap.size w w3) := ((Below.refl w.heap.size w).grown hg3 (Nat.le_refl _) (fun k hk => by cases hk)); clear hown3 hg3)
    | (refine wpList_copy_splice rfl _ _ 22 22 rfl 5 Try.underlying22 hi5 (some ⟨w.heap.size, 0, none⟩) a n n lp ca rfl rfl w.heap.size 0 (List.replicate n (.int .u8 0)) 5 HR3.out (p.map encB) (by rw [HPM.out]; exact (Nat.min_eq_left hpm).symm) (fun h0 => ⟨rfl, HSRC.out _ HB3.out h0⟩) (by rw [HPM.out, List.length_replicate]; omega) HONE.out w.heap.size w HB3.out (Nat.le_refl _) ?_; intro w4 hg4 hb4; have HB4 := hidD hb4; clear hb4))
  all_goals
    have HR4 : Hid (RowAt w4 w.heap.size (plusTo p q n 0)) := by
      have := hg4.out
      rw [HSP.out, ← HPZ.out] at this
      exact this
    clear hg4 hmx
    generalize hg : w.heap.size = g at *
    have HG := hidD hg
    clear hg
    go_loopw [23] (fun i wr => ∃ k : Nat, k ≤ lq ∧ i = .int .i64 k ∧ RowAt wr g (plusTo p q n k) ∧ Below g w wr) (fun i _ => lq - (intOf i).toNat)
    case atStart => exact ⟨0, Nat.zero_le _, rfl, HR4.out, HB4.out⟩
    case round =>
      obtain ⟨k, hk, rfl, hrow, hbel⟩ := hrel
      have HBL := hidD hbel
      have HRW := hidD hrow
      by_cases hlt : k < lq
      · have hlti : (k : Int) < lq := by omega
        have hltn : (k : Int) < n := by omega
        obtain ⟨h, o, rfl, hh, hc⟩ := HSQ.out k (by have := HLQ.out; omega)
        have hcq : wr.cell? ⟨h, o + k, none⟩ = some (.int .u8 ((cf q k).toNat : Int)) := by rw [hbel.cell (p := ⟨h, _, none⟩) hh]; exact hc
        have hcr : wr.cell? ⟨g, k, none⟩ = some (.int .u8 ((cf (plusTo p q n k) k).toNat : Int)) := hrow.cell (by rw [HLN.out]; omega)
        have hfr := hrow.frozen k
        have hxx := u8_xor_nat (cf (plusTo p q n k) k).toNat (cf q k).toNat (u8_lt _) (u8_lt _)
        rw [← UInt8.toNat_xor] at hxx
        have HN := hidD (hrow.set k (cf (plusTo p q n k) k ^^^ cf q k))
        rw [HST.out k (by omega)] at HN
        generalize cf (plusTo p q n k) k ^^^ cf q k = v at *
        generalize (cf (plusTo p q n k) k).toNat = x at *
        generalize (cf q k).toNat = y at *
        clear hrow hbel hc hh
        go_wp2_with fail
        go_roundw
        case rel => exact ⟨k + 1, by omega, by go_num, HN.out, HBL.out.setCell (p := ⟨g, k, none⟩) (Nat.le_refl _) _⟩
        case measure => simp [intOf]; omega
      · obtain rfl : k = lq := by omega
        rw [HAL.out] at HRW
        have hsl : SlAt wr (.slice (some ⟨g, 0, none⟩) n n) (plusS p q) := SlAt.row HRW.out (by rw [← HAL.out, HLN.out]) (by omega)
        have hlen : (plusS p q).length = n := by rw [← HAL.out, HLN.out]
        have HT := hidD (trimmed_any (plusS p q) (some ⟨g, 0, none⟩) n (by omega) (by omega) wr (by rw [hlen]; exact hsl.by'))
        have HTB := hidD ((show ByAt wr (.slice (some ⟨g, 0, none⟩) (plusS p q).length n) (plusS p q) by rw [hlen]; exact hsl.by').take (n := (trimS (plusS p q)).length) (trim_len _))
        rw [trim_take] at HTB
        have HTL := hidD (trim_len (plusS p q))
        rw [hlen] at HT HTL
        clear hrow hbel hsl hlen
        go_wp2_with (go_at_call 52; refine HT.out.mono ?_; rintro e w5 ⟨rfl, hb5⟩)
        go_ret
        exact ⟨_, rfl, ⟨⟨_, _, rfl, HTL.out, by omega⟩, HTB.out⟩, by rw [HG.out]; exact HBL.out⟩
set_option maxRecDepth 100000 in
set_option maxHeartbeats 800000 in
theorem plus_nil (vp vq : Value) (w : World) : Calls Try.prog 82 #[.pointer none, vp, vq] w fun e w' => e = .returned (.slice none 0 0) ∧ Below w.heap.size w w' := by
  have HW : Hid (Below w.heap.size w w) := Below.refl _ _
  go_enter Try.func82, Try.ntmps82
  go_wp2_with fail
  go_ret
  exact ⟨rfl, HW.out⟩
end Go.Proofs.Ytdpkeffkpecmjaa
