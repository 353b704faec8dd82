/- Plain facts: the decoder makes the good word that is near enough. -/
import Derived.Test.YtdpkeffkpecmjaaRmd
namespace Go.Proofs.Ytdpkeffkpecmjaa
open Go.RowKit
set_option linter.unusedVariables false

theorem cf_single (a : UInt8) : cf [a] = sScl a sOne := funext fun k => by
  cases k with
  | zero => show a = bm 29 a 1; rw [bm_one]
  | succ k => show ([] : List UInt8).getD k 0 = bm 29 a (sOne (k + 1)); simp [sOne, bm_zero]
theorem slope_der (l : List UInt8) : cf (slopeS l) = sDer (cf l) := funext fun i => by
  unfold slopeS
  rw [cf_map]
  show _ = if i % 2 = 0 then cf l (i + 1) else 0
  by_cases h1 : i < l.length
  · rw [if_pos h1]
    by_cases h2 : i % 2 = 0
    · by_cases h3 : i + 1 < l.length
      · rw [if_pos ⟨h2, h3⟩, if_pos h2]
      · rw [if_neg (fun h => h3 h.2), if_pos h2, cf_ge (by omega)]
    · rw [if_neg (fun h => h2 h.1), if_neg h2]
  · rw [if_neg h1, cf_ge (l := l) (k := i + 1) (by omega), ite_self]
theorem inv_of {a b : UInt8} (hb : b ≠ 0) (h : bm 29 a b = 1) : a = inv 29 b := by
  have h4 := congrArg (fun z => bm 29 z (inv 29 b)) h
  simp only [bm_assoc, bm_inv one_d hb, bm_one, one_bm] at h4
  exact h4
/-- What the made amount is. -/
theorem off_is {f p : Nat} {S loc : List UInt8} {K : List Nat} {r c : List UInt8} (hn : K.Nodup) (hK : ∀ j ∈ K, j < 255) (hS : cf (lowS p (mulS 29 S loc)) = om (ya f r c) K) (hl : cf loc = pol K) {k : Nat} (hk : k ∈ K) : offS f p S loc (k : Int) = er r c k := by
  have hN : K.length + 3 ≤ K.length + 3 + (lowS p (mulS 29 S loc)).length + loc.length := by omega
  obtain ⟨d, hd, h1, h2⟩ := forney (ya f r c) (hK k hk) K hn hK hk hN
  unfold offS
  have e1 : evalS 29 (pwI 29 2 (-(k : Int))) (lowS p (mulS 29 S loc)) = bm 29 (ya f r c k) d := by
    rw [eval_sEv _ _ (n := K.length + 3 + (lowS p (mulS 29 S loc)).length + loc.length) (by omega), hS]; exact h1
  have e2 : evalS 29 (pwI 29 2 (-(k : Int))) (slopeS loc) = bm 29 (pw 29 2 k) d := by
    rw [eval_sEv _ _ (n := K.length + 3 + (lowS p (mulS 29 S loc)).length + loc.length) (by simp only [slopeS, List.length_map, List.length_range]; omega), slope_der, hl]; exact h2
  have hX : pw 29 2 k ≠ 0 := pw_ne one_d k
  have hXd : bm 29 (pw 29 2 k) d ≠ 0 := bm_ne one_d hX hd
  rw [e1, e2, divZ, if_neg hXd]
  have hq : bm 29 (bm 29 (ya f r c k) d) (inv 29 (bm 29 (pw 29 2 k) d)) = bm 29 (ya f r c k) (xi k) := by
    have h3 : bm 29 (xi k) (pw 29 2 k) = 1 := by
      rw [← pwI_eq, xi, pwI_mul, show -(k : Int) + (k : Int) = 0 by omega]; rfl
    have h4 : bm 29 (bm 29 (ya f r c k) (xi k)) (bm 29 (pw 29 2 k) d) = bm 29 (ya f r c k) d := by
      rw [bm_assoc, ← bm_assoc 29 (xi k), h3, one_bm]
    rw [← h4, bm_assoc, bm_inv one_d hXd, bm_one]
  rw [hq]
  unfold ya xi
  rw [← pwI_eq, bm_assoc, bm_assoc, pwI_mul, pwI_mul]
  have : (((k * f : Nat) : Int) + (-(k : Int) + (k : Int) * (1 - (f : Int)))) = 0 := by
    rw [Int.mul_sub]
    simp
    omega
  rw [this]
  show bm 29 _ 1 = _
  rw [bm_one]
theorem mends {f p : Nat} (hp1 : 1 ≤ p) (hp : p ≤ 254) (r c : List UInt8) (h1 : p < r.length) (h2 : r.length ≤ 255) (hlen : c.length = r.length) (hg : ∀ i, i < p → syn f c i = 0) (L : List Int) (hL : areS L r.length = true) (hb : 2 * (turnP r c L).length + L.length ≤ p) :
    Fine f p r L ∧ dWord f p r L = c ∧ cf (dLoc f p r L) = pol (allP r c L) := by
  have hKn := allP_nodup (c := c) hL
  have hKl : ∀ k ∈ allP r c L, k < r.length := fun k hk => allP_lt hL hk
  have hK5 : ∀ k ∈ allP r c L, k < 255 := fun k hk => by have := hKl k hk; omega
  have hKlen : (allP r c L).length = L.length + (turnP r c L).length := by unfold allP; rw [List.length_append, lostP_length]
  have hsig : ∀ i, i < p → cf (syns f p r) i = sig (ya f r c) (allP r c L) i := fun i hi => by
    rw [syns_at f p r i hi]
    exact syn_sig hlen hg _ hKn hKl (fun k hk => allP_supp hlen hk) i hi
  have hpl : (powS L r.length).length = L.length := by simp [powS]
  have hof : cf (ofTo (powS L r.length) (powS L r.length).length) = pol (lostP L r.length) := by
    rw [hpl, ofTo_pol hL _ (Nat.le_refl _), ← lostP_length L r.length, List.take_length]
  have hpk : pol (allP r c L) = sMul (pol (lostP L r.length)) (pol (turnP r c L)) := pol_append _ _
  -- what is known agrees with the truth below p
  have hknown : ∀ j, j < p → cf (lowS p (mulS 29 (syns f p r) (ofTo (powS L r.length) (powS L r.length).length))) j = sMul (pol (lostP L r.length)) (sig (ya f r c) (allP r c L)) j := fun j hj => by
    rw [low_of, if_pos hj, cf_mul_s, hof, mul_comm_s]
    exact mul_agree _ hsig j hj
  have hagree : ∀ i, i < p → om (ya f r c) (allP r c L) i = sMul (pol (turnP r c L)) (cf (lowS p (mulS 29 (syns f p r) (ofTo (powS L r.length) (powS L r.length).length)))) i := fun i hi => by
    rw [mul_agree _ hknown i hi, ← key_eq, hpk]
    exact congrFun (by ac_rfl) i
  obtain ⟨W, hkey⟩ := mod_exists hagree
  have hne : ∀ k ∈ turnP r c L, sEv (om (ya f r c) (allP r c L)) (xi k) (4 * p + 100) ≠ 0 := fun k hk hz => by
    have hkK : k ∈ allP r c L := List.mem_append.2 (.inr hk)
    obtain ⟨d, hd, e1, _⟩ := forney (ya f r c) (hK5 k hkK) _ hKn hK5 hkK (N := 4 * p + 100) (by omega)
    rw [hz] at e1
    rcases bm_zero_or e1.symm with h3 | h3
    · unfold ya at h3
      rcases bm_zero_or h3 with h4 | h4
      · exact (turnP_mem.1 hk).2.1 h4
      · exact pw_ne one_d _ h4
    · exact hd h3
  have hsug := sugiyama (p := p) (lost := (powS L r.length).length) (lowS p (mulS 29 (syns f p r) (ofTo (powS L r.length) (powS L r.length).length))) (trim_tidy _) (low_len p _) (by omega) (turnP r c L) (turnP_nodup r c L) (fun k hk => hK5 k (List.mem_append.2 (.inr hk))) (by omega) (om (ya f r c) (allP r c L)) W ((om_low _ _).mono (by omega)) hkey (N := 4 * p + 100) (by omega) hne
  have hoth : besideS p (powS L r.length).length (lowS p (mulS 29 (syns f p r) (ofTo (powS L r.length) (powS L r.length).length))) = othersS p (syns f p r) (powS L r.length) := rfl
  rw [hoth] at hsug
  obtain ⟨hlead, hscl⟩ := hsug
  have hloc : cf (dLoc f p r L) = pol (allP r c L) := by
    unfold dLoc locS
    rw [cf_mul_s, cf_mul_s, hof, cf_single, mul_comm_s (cf (othersS p (syns f p r) (powS L r.length))), mul_scl_s, one_mul_s, hscl, hpk]
  have hlt : Tidy (dLoc f p r L) := mul_tidy one_d _ _
  have hll : (dLoc f p r L).length = (allP r c L).length + 1 := tidy_len hlt (by rw [hloc]; exact pol_low _) (by rw [hloc]; exact pol_top _)
  have hmem : ∀ i : Nat, i < r.length → ((i : Int) ∈ dPl f p r L ↔ r.length - 1 - i ∈ allP r c L) := fun i hi => by
    have hx : pwI 29 2 ((i : Int) + 1 - (r.length : Int)) = xi (r.length - 1 - i) := by
      unfold xi
      congr 1
      omega
    have hev : evalS 29 (pwI 29 2 ((i : Int) + 1 - (r.length : Int))) (dLoc f p r L) = 0 ↔ r.length - 1 - i ∈ allP r c L := by
      rw [hx, eval_sEv _ _ (n := (allP r c L).length + 3) (by omega), hloc]
      exact pol_at (by omega) _ hK5 (Nat.le_refl _)
    unfold dPl
    rw [mem_places]
    constructor
    · rintro ⟨j, _, hj, h0⟩
      have : j = i := by omega
      subst this
      exact hev.1 h0
    · intro h
      exact ⟨i, hi, rfl, hev.2 h⟩
  have hin : ∀ x ∈ dPl f p r L, 0 ≤ x ∧ x < r.length := fun x hx => by
    obtain ⟨i, h1, h2, _⟩ := (mem_places _ _ x _).1 hx
    omega
  have hdn : (dPl f p r L).Nodup := nodup_places _ _ _
  have hcount : (dPl f p r L).length = (allP r c L).length := by
    have := nodup_len (α := Int) (l := dPl f p r L) (m := (allP r c L).map fun (k : Nat) => (r.length : Int) - 1 - (k : Int)) hdn (by
      rw [List.nodup_iff_pairwise_ne, List.pairwise_map]
      exact (List.nodup_iff_pairwise_ne.1 hKn).imp (fun h he => h (by omega))) (fun x => by
      constructor
      · intro hx
        obtain ⟨i, hi, rfl, _⟩ := (mem_places _ _ x _).1 hx
        exact List.mem_map.2 ⟨r.length - 1 - i, (hmem i hi).1 hx, by omega⟩
      · intro hx
        obtain ⟨k, hk, rfl⟩ := List.mem_map.1 hx
        have hkl := hKl k hk
        have h3 := (hmem (r.length - 1 - k) (by omega)).2 (by rw [show r.length - 1 - (r.length - 1 - k) = k by omega]; exact hk)
        rw [show ((r.length - 1 - k : Nat) : Int) = (r.length : Int) - 1 - (k : Int) by omega] at h3
        exact h3)
    rw [this, List.length_map]
  have hamt : cf (lowS p (mulS 29 (syns f p r) (dLoc f p r L))) = om (ya f r c) (allP r c L) := funext fun i => by
    rw [low_of]
    split
    · rename_i hi
      rw [cf_mul_s, hloc, mul_comm_s, mul_agree _ hsig i hi, mul_comm_s, key_eq]
    · exact (om_low _ _ i (by omega)).symm
  have hword : dWord f p r L = c := by
    refine cf_ext (by unfold dWord; rw [amTo_length, hlen]) fun i hi => ?_
    have hi' : i < r.length := by unfold dWord at hi; rwa [amTo_length] at hi
    unfold dWord
    rw [am_at f p r _ _ _ hdn hin i hi' _ (Nat.le_refl _), List.take_length]
    have he := er_at hlen hi'
    by_cases hm : r.length - 1 - i ∈ allP r c L
    · rw [if_pos ((hmem i hi').2 hm), show (r.length : Int) - 1 - (i : Int) = ((r.length - 1 - i : Nat) : Int) by omega, off_is hKn hK5 hamt hloc hm, he, ← UInt8.xor_assoc, UInt8.xor_self, UInt8.zero_xor]
    · rw [if_neg (fun h => hm ((hmem i hi').1 h)), xor_zero']
      have h0 : er r c (r.length - 1 - i) = 0 := Classical.byContradiction fun h => hm (allP_supp hlen h)
      rw [he] at h0
      exact xor_zero_eq h0
  refine ⟨⟨h1, h2, hL, by omega, hlead, by omega, ?_⟩, hword, hloc⟩
  rw [hword]
  unfold goodS
  rw [hlen, decide_eq_true h1, decide_eq_true h2, syns_all.2 hg]
  rfl
end Go.Proofs.Ytdpkeffkpecmjaa
