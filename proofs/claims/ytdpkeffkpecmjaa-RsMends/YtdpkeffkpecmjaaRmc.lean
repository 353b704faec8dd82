/- Plain facts: the key equation, and what Euclid's steps find. -/
import Derived.Test.YtdpkeffkpecmjaaGc
import Derived.Test.YtdpkeffkpecmjaaRsh
namespace Go.Proofs.Ytdpkeffkpecmjaa
open Go.RowKit
set_option linter.unusedVariables false

instance : Std.Associative sAdd := ⟨add_assoc_s⟩
instance : Std.Commutative sAdd := ⟨add_comm_s⟩
instance : Std.Associative sMul := ⟨mul_assoc_s⟩
instance : Std.Commutative sMul := ⟨mul_comm_s⟩
theorem nil_add_s (a : Ser) : sAdd sNil a = a := by rw [add_comm_s, add_nil_s]
theorem add_drop (a b : Ser) : sAdd a (sAdd a b) = b := by rw [← add_assoc_s, add_self_s, nil_add_s]
theorem add_both (a b x : Ser) : sAdd (sAdd a x) (sAdd b x) = sAdd a b := by
  rw [show sAdd (sAdd a x) (sAdd b x) = sAdd (sAdd a b) (sAdd x x) by ac_rfl, add_self_s, add_nil_s]
theorem eq_of_add {a b : Ser} (h : sAdd a b = sNil) : a = b := funext fun k => xor_zero_eq (congrFun h k)
theorem add_move {a b c : Ser} (h : a = sAdd b c) : c = sAdd a b := by
  rw [h, show sAdd (sAdd b c) b = sAdd b (sAdd b c) by ac_rfl, add_drop]

/-- The product of the (1 + x X) over a list of powers. -/
def pol : List Nat → Ser
  | [] => sOne
  | k :: K => sMul (sLin (pw 29 2 k)) (pol K)
/-- The amounts' polynomial. -/
def om (y : Nat → UInt8) : List Nat → Ser
  | [] => sNil
  | k :: K => sAdd (sScl (y k) (pol K)) (sMul (sLin (pw 29 2 k)) (om y K))
/-- The syndromes of amounts y at these powers, all of them. -/
def sig (y : Nat → UInt8) : List Nat → Ser
  | [] => sNil
  | k :: K => sAdd (sScl (y k) (sGeo (pw 29 2 k))) (sig y K)
theorem key_eq (y : Nat → UInt8) : ∀ K, sMul (sig y K) (pol K) = om y K
  | [] => nil_mul_s _
  | k :: K => by
    rw [sig, pol, om, add_mul_s, mul_scl_s]
    congr 1
    · rw [← mul_assoc_s, mul_comm_s (sGeo _), lin_geo, one_mul_s]
    · rw [← key_eq y K]; ac_rfl
theorem pol_append : ∀ A B, pol (A ++ B) = sMul (pol A) (pol B)
  | [], B => (one_mul_s _).symm
  | k :: A, B => by rw [List.cons_append, pol, pol, pol_append A B, mul_assoc_s]
theorem pol_low : ∀ K, Low (K.length + 1) (pol K)
  | [] => fun k hk => by simp at hk; simp [pol, sOne]; omega
  | k :: K => ((Low.lin _).mul (pol_low K)).mono (by simp; omega)
theorem om_low (y : Nat → UInt8) : ∀ K, Low K.length (om y K)
  | [] => fun _ _ => rfl
  | k :: K => Low.add ((pol_low K).scl _) (((Low.lin _).mul (om_low y K)).mono (by simp; omega))
theorem pol_zero : ∀ K, pol K 0 = 1
  | [] => rfl
  | k :: K => by rw [pol, lin_mul_zero, pol_zero K]
theorem pol_top : ∀ K, pol K K.length ≠ 0
  | [] => by decide
  | k :: K => by
    rw [pol, List.length_cons, lin_mul_succ, pol_low K _ (Nat.le_refl _), UInt8.zero_xor]
    exact bm_ne one_d (pw_ne one_d _) (pol_top K)
/-- What undoes the power k. -/
def xi (k : Nat) : UInt8 := pwI 29 2 (-(k : Int))
theorem pwI_eq (n : Nat) : pwI 29 2 (n : Int) = pw 29 2 n := by
  unfold pwI
  rw [show (((n : Int) % 255).toNat) = n % 255 by omega, ← pw_mod one_d]
theorem pwI_mul (a b : Int) : bm 29 (pwI 29 2 a) (pwI 29 2 b) = pwI 29 2 (a + b) := by
  unfold pwI
  rw [← pw_add, pw_mod one_d]
  congr 1
  omega
theorem pwI_ne (a : Int) : pwI 29 2 a ≠ 0 := pw_ne one_d _
theorem pwI_inj {a b : Int} (h : pwI 29 2 a = pwI 29 2 b) : a % 255 = b % 255 := by
  unfold pwI at h
  have h1 := Int.emod_nonneg a (show (255 : Int) ≠ 0 by omega)
  have h2 := Int.emod_lt_of_pos a (show (0 : Int) < 255 by omega)
  have h3 := Int.emod_nonneg b (show (255 : Int) ≠ 0 by omega)
  have h4 := Int.emod_lt_of_pos b (show (0 : Int) < 255 by omega)
  have := pw_inj one_d (i := (a % 255).toNat) (j := (b % 255).toNat) (by omega) (by omega) h
  omega
theorem lin_at {j k : Nat} (hj : j < 255) (hk : k < 255) {N : Nat} (hN : 2 ≤ N) : sEv (sLin (pw 29 2 j)) (xi k) N = 0 ↔ j = k := by
  rw [ev_lin _ _ hN, ← pwI_eq, xi, pwI_mul]
  constructor
  · intro h
    have h1 : pwI 29 2 0 = pwI 29 2 ((j : Int) + -(k : Int)) := (show pwI 29 2 0 = 1 from rfl).trans (xor_zero_eq h)
    have := pwI_inj h1
    omega
  · rintro rfl
    rw [show (j : Int) + -(j : Int) = 0 by omega]; rfl
theorem pol_at {k : Nat} (hk : k < 255) : ∀ (K : List Nat), (∀ j ∈ K, j < 255) → ∀ {N : Nat}, K.length + 3 ≤ N → (sEv (pol K) (xi k) N = 0 ↔ k ∈ K)
  | [], _, N, hN => by
    have : sEv (pol []) (xi k) N = 1 := by
      rw [ev_to (m := 1) (pol_low []) (by simp at hN; omega)]
      show 0 ^^^ bm 29 1 (pw 29 (xi k) 0) = 1
      rw [one_bm]
      show (0 : UInt8) ^^^ 1 = 1
      decide
    rw [this]; simp
  | j :: K, hK, N, hN => by
    simp only [List.length_cons] at hN
    rw [pol, ev_mul (Low.lin _) (pol_low K) _ (by omega), List.mem_cons]
    have h1 := lin_at (hK j (by simp)) hk (N := N) (by omega)
    have h2 := pol_at hk K (fun i hi => hK i (by simp [hi])) (N := N) (by omega)
    constructor
    · intro h
      rcases bm_zero_or h with h | h
      · exact .inl (h1.1 h).symm
      · exact .inr (h2.1 h)
    · rintro (h | h)
      · rw [h1.2 h.symm, zero_bm]
      · rw [h2.2 h, bm_zero]
/-- Forney's rule: at its own place the amounts' polynomial and the slope differ by the amount alone. -/
theorem forney (y : Nat → UInt8) {k : Nat} (hk : k < 255) : ∀ (K : List Nat), K.Nodup → (∀ j ∈ K, j < 255) → k ∈ K → ∀ {N : Nat}, K.length + 3 ≤ N →
    ∃ c, c ≠ 0 ∧ sEv (om y K) (xi k) N = bm 29 (y k) c ∧ sEv (sDer (pol K)) (xi k) N = bm 29 (pw 29 2 k) c
  | [], _, _, h, _, _ => by simp at h
  | j :: K, hn, hK, hm, N, hN => by
    simp only [List.length_cons] at hN
    have hnd := List.nodup_cons.1 hn
    have hK' : ∀ i ∈ K, i < 255 := fun i hi => hK i (by simp [hi])
    have hl := lin_at (hK j (by simp)) hk (N := N) (by omega)
    have e1 : sEv (om y (j :: K)) (xi k) N = bm 29 (y j) (sEv (pol K) (xi k) N) ^^^ bm 29 (sEv (sLin (pw 29 2 j)) (xi k) N) (sEv (om y K) (xi k) N) := by
      rw [om, ev_add, ev_scl, ev_mul (Low.lin _) (om_low y K) _ (by omega)]
    have e2 : sEv (sDer (pol (j :: K))) (xi k) N = bm 29 (pw 29 2 j) (sEv (pol K) (xi k) N) ^^^ bm 29 (sEv (sLin (pw 29 2 j)) (xi k) N) (sEv (sDer (pol K)) (xi k) N) := by
      rw [pol, lin_der, ev_add, ev_scl, ev_mul (Low.lin _) (pol_low K).der _ (by omega)]
    by_cases hjk : j = k
    · subst hjk
      refine ⟨sEv (pol K) (xi j) N, fun h => hnd.1 ((pol_at hk K hK' (by omega)).1 h), ?_, ?_⟩
      · rw [e1, hl.2 rfl, zero_bm, xor_zero']
      · rw [e2, hl.2 rfl, zero_bm, xor_zero']
    · have hkm : k ∈ K := by
        rcases List.mem_cons.1 hm with h | h
        · exact absurd h.symm hjk
        · exact h
      obtain ⟨c, hc, h1, h2⟩ := forney y hk K hnd.2 hK' hkm (N := N) (by omega)
      have hp := (pol_at hk K hK' (N := N) (by omega)).2 hkm
      refine ⟨bm 29 (sEv (sLin (pw 29 2 j)) (xi k) N) c, bm_ne one_d (fun h => hjk (hl.1 h)) hc, ?_, ?_⟩
      · rw [e1, hp, bm_zero, UInt8.zero_xor, h1, ← bm_assoc, bm_comm 29 _ (y k), bm_assoc]
      · rw [e2, hp, bm_zero, UInt8.zero_xor, h2, ← bm_assoc, bm_comm 29 _ (pw 29 2 k), bm_assoc]

/-- What holds through Euclid's steps. -/
structure Euc (p lost : Nat) (t rest next times nt : List UInt8) (uP uN : Ser) : Prop where
  tr : Tidy rest
  tn : Tidy next
  tt : Tidy nt
  l1 : next.length < rest.length
  l2 : times.length < nt.length
  l3 : nt.length + rest.length = p + 2
  l4 : p + lost + 2 ≤ 2 * rest.length
  e1 : cf rest = sAdd (sMul (sPow p) uP) (sMul (cf times) (cf t))
  e2 : cf next = sAdd (sMul (sPow p) uN) (sMul (cf nt) (cf t))
  det : sAdd (sMul uP (cf nt)) (sMul uN (cf times)) = sOne
theorem Euc.step {p lost : Nat} {t rest next times nt : List UInt8} {uP uN : Ser} (h : Euc p lost t rest next times nt uP uN) (hc : p + lost + 2 ≤ 2 * next.length) :
    Euc p lost t next (modS 29 rest next) nt (trimS (plusS times (mulS 29 (quoS 29 rest next) nt))) uN (sAdd uP (sMul (cf (quoS 29 rest next)) uN)) := by
  have hl1 := h.l1
  have hl2 := h.l2
  have hl3 := h.l3
  have hn0 : 0 < next.length := by omega
  have hne : trimS next ≠ [] := by rw [trim_id h.tn]; intro h; rw [h] at hn0; simp at hn0
  have hq : (quoS 29 rest next).length = rest.length - next.length + 1 := by
    rw [quoS, trim_id h.tr, trim_id h.tn, if_neg (by omega), (divS_len 29 rest next).2]
  have hqt : Tidy (quoS 29 rest next) := quo_tidy one_d hne
  have hm := mul_size hqt h.tt (by omega) (by omega)
  have hmt : Tidy (mulS 29 (quoS 29 rest next) nt) := mul_tidy one_d _ _
  have htop := tidy_top hmt (by omega)
  have hpl : (plusS times (mulS 29 (quoS 29 rest next) nt)).length = (mulS 29 (quoS 29 rest next) nt).length := by rw [plus_len]; omega
  have hpt : Tidy (plusS times (mulS 29 (quoS 29 rest next) nt)) := .inr (by
    rw [hpl, cf_plus, cf_ge (l := times) (by omega), UInt8.zero_xor]
    exact htop)
  have hms := mod_short (P := 29) one_d (p := rest) hne
  rw [trim_id h.tn] at hms
  have hdb := congrArg cf (div_back one_d (p := rest) hne)
  rw [cf_trim_s, cf_trim_s, cf_plus_s, cf_mul_s] at hdb
  have hmod := add_move hdb.symm
  refine ⟨h.tn, mod_tidy _ _ _, trim_tidy _, hms, by rw [trim_id hpt, hpl]; omega, by rw [trim_id hpt, hpl]; omega, hc, h.e2, ?_, ?_⟩
  · rw [hmod, cf_trim_s, cf_plus_s, cf_mul_s, h.e1, h.e2]
    simp only [mul_add_s, add_mul_s]
    ac_rfl
  · rw [cf_trim_s, cf_plus_s, cf_mul_s]
    simp only [mul_add_s, add_mul_s]
    rw [show sMul (sMul (cf (quoS 29 rest next)) uN) (cf nt) = sMul uN (sMul (cf (quoS 29 rest next)) (cf nt)) by ac_rfl, add_both, add_comm_s]
    exact h.det
theorem Euc.stop {p lost : Nat} {t : List UInt8} : ∀ (n : Nat) (rest next times nt : List UInt8) (uP uN : Ser), Euc p lost t rest next times nt uP uN → next.length ≤ n →
    ∃ rest' next' times' uP' uN', Euc p lost t rest' next' times' (besideGo p lost n rest next times nt) uP' uN' ∧ 2 * next'.length < p + lost + 2
  | 0, rest, next, times, nt, uP, uN, h, hf => ⟨rest, next, times, uP, uN, h, by omega⟩
  | n + 1, rest, next, times, nt, uP, uN, h, hf => by
    rw [besideGo]
    split
    · rename_i hc
      have hs := h.step hc
      exact Euc.stop n _ _ _ _ _ _ hs (by have := hs.l1; omega)
    · rename_i hc
      exact ⟨rest, next, times, uP, uN, h, by omega⟩
theorem cf_xp (p : Nat) : cf (xp p) = sPow p := funext fun k => by
  unfold xp
  rw [cf_set _ _ _ _ (by simp)]
  show _ = if k = p then 1 else 0
  split
  · rfl
  · exact cf_zeros _ _
theorem cf_one : cf [1] = sOne := funext fun k => by
  cases k with
  | zero => rfl
  | succ k => show ([] : List UInt8).getD k 0 = _; simp [sOne]
theorem cf_nil : cf [] = sNil := funext fun k => rfl
theorem Euc.start {p lost : Nat} (t : List UInt8) (ht : Tidy t) (hl : t.length ≤ p) (hlo : lost ≤ p) : Euc p lost t (xp p) t [] [1] sOne sNil :=
  ⟨xp_tidy p, ht, .inr (by decide), by simp [xp]; omega, by simp, by simp [xp]; omega, by simp [xp]; omega,
   by rw [cf_xp, cf_nil, nil_mul_s, add_nil_s, mul_one_s], by rw [mul_comm_s, nil_mul_s, nil_add_s, cf_one, one_mul_s], by rw [cf_one, cf_nil, one_mul_s, nil_mul_s, add_nil_s]⟩
/-- The highest coefficient of a product. -/
theorem mul_top {v a : Ser} {d m : Nat} (hv : Low (d + 1) v) (ha : Low (m + 1) a) : sMul v a (d + m) = bm 29 (v d) (a m) := by
  show sg _ (d + m + 1) = _
  rw [show d + m + 1 = (d + 1) + m by omega, sg_more (n := d + 1) (fun i hi => by rw [hv i hi, zero_bm]) m, sg, sg_zero d fun i hi => by rw [ha _ (by omega), bm_zero]]
  rw [UInt8.zero_xor, show d + m - d = m by omega]
theorem low_one {v a : Ser} {d : Nat} (hv : Low (d + 1) v) (h0 : v d ≠ 0) (hp : Low (d + 1) (sMul v a)) : ∀ j, Low (j + 1) a → Low 1 a
  | 0, h => h
  | j + 1, h => low_one hv h0 hp j fun k hk => by
    by_cases he : k = j + 1
    · subst he
      have := mul_top hv h
      rw [hp _ (by omega)] at this
      rcases bm_zero_or this.symm with h | h
      · exact absurd h h0
      · exact h
    · exact h k (by omega)
theorem Low.shift {p n : Nat} {a b : Ser} (h : Low n (sAdd (sMul (sPow p) a) b)) {m : Nat} (hb : Low m b) : Low (max n m) a := fun k hk => by
  have h1 := h (k + p) (by omega)
  have h2 : sAdd (sMul (sPow p) a) b (k + p) = a k ^^^ b (k + p) := by
    show sMul (sPow p) a (k + p) ^^^ _ = _
    rw [pow_mul_s, if_pos (by omega), Nat.add_sub_cancel]
  rw [h2, hb (k + p) (by omega), xor_zero'] at h1
  exact h1
/-- What Euclid's steps find is the locator of the turned ones, but for a factor. -/
theorem sugiyama {p lost : Nat} (t : List UInt8) (ht : Tidy t) (hl : t.length ≤ p) (hlo : lost ≤ p) (T : List Nat) (hT : T.Nodup) (hT2 : ∀ k ∈ T, k < 255) (hbound : 2 * T.length + lost ≤ p) (O W : Ser)
    (hO : Low (lost + T.length) O) (hkey : O = sAdd (sMul (sPow p) W) (sMul (pol T) (cf t))) {N : Nat} (hN : 4 * p + 100 ≤ N) (hne : ∀ k ∈ T, sEv O (xi k) N ≠ 0) :
    cf (besideS p lost t) 0 ≠ 0 ∧ sScl (inv 29 (cf (besideS p lost t) 0)) (cf (besideS p lost t)) = pol T := by
  obtain ⟨rest, next, times, uP, uN, h, hs⟩ := Euc.stop t.length (xp p) t [] [1] sOne sNil (Euc.start t ht hl hlo) (Nat.le_refl _)
  have hbe : besideGo p lost t.length (xp p) t [] [1] = besideS p lost t := rfl
  rw [hbe] at h
  generalize besideS p lost t = v at *
  have hl1 := h.l1
  have hl2 := h.l2
  have hl3 := h.l3
  have hl4 := h.l4
  obtain ⟨d, hd⟩ : ∃ d, v.length = d + 1 := ⟨v.length - 1, by omega⟩
  have hvl : Low (d + 1) (cf v) := hd ▸ low_cf v
  have hvd : cf v d ≠ 0 := by have := tidy_top h.tt (by omega); rwa [hd, Nat.add_sub_cancel] at this
  have hLl := pol_low T
  -- the two solutions are one but for a factor
  have hvO : Low p (sMul (cf v) O) := (hvl.mul hO).mono (by omega)
  have hLr : Low p (sMul (pol T) (cf next)) := (hLl.mul (low_cf next)).mono (by omega)
  have hsum : sAdd (sMul (cf v) O) (sMul (pol T) (cf next)) = sMul (sPow p) (sAdd (sMul (cf v) W) (sMul (pol T) uN)) := by
    rw [hkey, h.e2]
    simp only [mul_add_s]
    rw [show sMul (pol T) (sMul (cf v) (cf t)) = sMul (cf v) (sMul (pol T) (cf t)) by ac_rfl, add_both]
    ac_rfl
  have hz : sAdd (sMul (cf v) W) (sMul (pol T) uN) = sNil := funext fun k => by
    have h1 := congrFun hsum (k + p)
    rw [pow_mul_s, if_pos (by omega), Nat.add_sub_cancel] at h1
    rw [← h1]
    show sMul (cf v) O (k + p) ^^^ sMul (pol T) (cf next) (k + p) = 0
    rw [hvO _ (by omega), hLr _ (by omega)]; rfl
  have hvW := eq_of_add hz
  have hvr : sMul (cf v) O = sMul (pol T) (cf next) := by
    rw [hz, show sMul (sPow p) sNil = sNil by rw [mul_comm_s, nil_mul_s]] at hsum
    exact eq_of_add hsum
  -- the factor
  have hfac : pol T = sMul (cf v) (sAdd (sMul (pol T) uP) (sMul W (cf times))) := by
    have h1 : pol T = sMul (pol T) (sAdd (sMul uP (cf v)) (sMul uN (cf times))) := by rw [h.det, mul_one_s]
    rw [mul_add_s] at h1
    rw [mul_add_s]
    refine h1.trans ?_
    rw [show sMul (pol T) (sMul uN (cf times)) = sMul (sMul (pol T) uN) (cf times) by ac_rfl, ← hvW]
    ac_rfl
  have huP : Low (max rest.length (times.length + t.length)) uP := by
    have := low_cf rest
    rw [h.e1] at this
    refine this.shift ?_
    cases htm : times with
    | nil => rw [cf_nil, nil_mul_s]; exact fun _ _ => rfl
    | cons x xs => exact ((show Low (xs.length + 1) (cf (x :: xs)) from low_cf (x :: xs)).mul (low_cf t)).mono (by simp)
  have hW : Low (max (lost + T.length) (T.length + t.length)) W := by
    have := hO
    rw [hkey] at this
    exact this.shift (hLl.mul (low_cf t))
  generalize hα : sAdd (sMul (pol T) uP) (sMul W (cf times)) = α at hfac
  have hαl : Low (3 * p + 50) α := by
    rw [← hα]
    have h1 := hLl.mul huP
    have h2 : Low (max (lost + T.length) (T.length + t.length) + times.length) (sMul W (cf times)) := (Low.mul (hW.mono (Nat.le_succ _)) (low_cf times))
    exact Low.add (h1.mono (by omega)) (h2.mono (by omega))
  have hv0 : cf v 0 ≠ 0 := fun h0 => by
    have h1 := congrFun hfac 0
    rw [pol_zero] at h1
    have h2 : sMul (cf v) α 0 = 0 ^^^ bm 29 (cf v 0) (α (0 - 0)) := rfl
    rw [h2, h0, zero_bm] at h1
    exact absurd h1 (by decide)
  have hOr : O = sMul α (cf next) := mul_cancel hv0 (by rw [hvr, hfac]; ac_rfl)
  -- all of the turned ones are its roots
  have hroot : ∀ k ∈ T, evalS 29 (xi k) v = 0 := fun k hk => by
    have h1 := (pol_at (hT2 k hk) T hT2 (N := N) (by omega)).2 hk
    rw [hfac, ev_mul hvl hαl _ (by omega)] at h1
    rw [eval_sEv (xi k) v (n := N) (by omega)]
    rcases bm_zero_or h1 with h | h
    · exact h
    · exfalso
      apply hne k hk
      rw [hOr, ev_mul hαl (low_cf next) _ (by omega), h, zero_bm]
  have hdT : T.length ≤ d := by
    rcases Nat.lt_or_ge d T.length with hlt | hge
    · exfalso
      have hz := roots_zero (fun i => xi (T.getD i 0)) T.length v (by omega) (fun i hi => hroot _ (by
        rw [List.getD_eq_getElem?_getD, List.getElem?_eq_getElem hi]; exact List.getElem_mem hi)) (fun i j hij hj he => by
        have e1 : T.getD i 0 = T[i]'(by omega) := by rw [List.getD_eq_getElem?_getD, List.getElem?_eq_getElem (show i < T.length by omega)]; rfl
        have e2 : T.getD j 0 = T[j] := by rw [List.getD_eq_getElem?_getD, List.getElem?_eq_getElem hj]; rfl
        have h1 := hT2 (T[i]'(by omega)) (List.getElem_mem _)
        have h2 := hT2 T[j] (List.getElem_mem _)
        have h3 := pwI_inj (show pwI 29 2 (-((T.getD i 0 : Nat) : Int)) = pwI 29 2 (-((T.getD j 0 : Nat) : Int)) from he)
        rw [e1, e2] at h3
        have h4 : T[i]'(by omega) = T[j] := by omega
        have h5 := (List.pairwise_iff_getElem.1 (List.nodup_iff_pairwise_ne.1 hT)) i j (by omega) hj hij
        exact h5 h4)
      exact hvd (hz d)
    · exact hge
  have hα1 : Low 1 α := low_one hvl hvd (by rw [← hfac]; exact hLl.mono (by omega)) (3 * p + 49) hαl
  have hαs : sMul (cf v) α = sScl (α 0) (cf v) := by
    have h1 : α = sScl (α 0) sOne := funext fun k => by
      show α k = bm 29 (α 0) (if k = 0 then 1 else 0)
      split
      · rename_i h; rw [h, bm_one]
      · rw [bm_zero]; exact hα1 k (by omega)
    have h2 : sMul (cf v) α = sMul (sScl (α 0) sOne) (cf v) := by rw [← h1, mul_comm_s]
    rw [h2, mul_scl_s, one_mul_s]
  rw [hαs] at hfac
  refine ⟨hv0, ?_⟩
  have h1 := congrFun hfac 0
  rw [pol_zero] at h1
  have h2 : bm 29 (α 0) (cf v 0) = 1 := h1.symm
  have h3 : α 0 = inv 29 (cf v 0) := by
    have h4 := congrArg (fun z => bm 29 z (inv 29 (cf v 0))) h2
    simp only [bm_assoc, bm_inv one_d hv0, bm_one, one_bm] at h4
    exact h4
  rw [← h3]
  exact hfac.symm
end Go.Proofs.Ytdpkeffkpecmjaa
