/- Texts of one proof, one behind the other. -/
import Derived.Test.YtgmbkelmgolkpaaDoorDj
import Derived.Test.YtgmbkelmgolkpaaDoorDc
import Derived.Test.YtgmbkelmgolkpaaDoorGnl
/- Plain: the document's sets are the program's. -/
namespace Go.Proofs.YtgmbkelmgolkpaaDoor
open Go.RowKit
set_option linter.unusedVariables false

/-- Every bit of the one is a bit of the other. -/
def Sb (A B : Nat) : Prop := ∀ i, A.testBit i = true → B.testBit i = true
theorem Sb.refl (A : Nat) : Sb A A := fun _ h => h
theorem Sb.trans {A B C : Nat} (h : Sb A B) (k : Sb B C) : Sb A C := fun i hi => k i (h i hi)
theorem Sb.zero (A : Nat) : Sb 0 A := fun i hi => by simp at hi
theorem Sb.or {A B C : Nat} (h : Sb A C) (k : Sb B C) : Sb (A ||| B) C := fun i hi => by
  rw [Nat.testBit_or, Bool.or_eq_true] at hi
  exact hi.elim (h i) (k i)
theorem Sb.left (A B : Nat) : Sb A (A ||| B) := fun i hi => by rw [Nat.testBit_or, hi, Bool.true_or]
theorem Sb.right (A B : Nat) : Sb B (A ||| B) := fun i hi => by rw [Nat.testBit_or, hi, Bool.or_true]
theorem Sb.eq {A B : Nat} (h : Sb A B) (k : Sb B A) : A = B := Nat.eq_of_testBit_eq fun i => by
  rw [Bool.eq_iff_iff]; exact ⟨h i, k i⟩
theorem sb_of {A B : Nat} (h : A ||| B = A) : Sb B A := fun i hi => bit_or_left h hi

/-- What is reached is one. -/
theorem re_within {R : Ru} {W M X X' : Nat} (h : ReIs R W M X) (h' : ReIs R W M X') : Sb X X' := by
  obtain ⟨j, rfl, _⟩ := h
  obtain ⟨j', e', hs'⟩ := h'
  exact fun i hi => re_subIt hs' (fun _ _ h => h) (fun i hi => by rw [e']; exact rpIt_bits R W M hi j') j i hi
theorem re_same {R : Ru} {W M X X' : Nat} (h : ReIs R W M X) (h' : ReIs R W M X') : X = X' := (re_within h h').eq (re_within h' h)

theorem ri_in (l : List Int) : ∀ q, q ≤ l.length → ∀ i, (riTo l q).testBit i = true → ∃ x ∈ l, x.toNat = i
  | 0, _, i, hi => by simp [riTo] at hi
  | q + 1, hq, i, hi => by
    have hl : q < l.length := by omega
    have hg : l.getD q 0 = l[q] := by rw [List.getD_eq_getElem?_getD, List.getElem?_eq_getElem hl]; rfl
    rw [riTo, Nat.testBit_or, Bool.or_eq_true, Nat.testBit_two_pow, decide_eq_true_eq, hg] at hi
    rcases hi with hi | hi
    · exact ri_in l q (by omega) i hi
    · exact ⟨l[q], List.getElem_mem hl, hi⟩
theorem rp_low (R : Ru) (W : Nat) (P : Nat → Prop) (hc : ∀ k, k < R.length → P (R.getD k (0, [])).1 → (∀ x ∈ (R.getD k (0, [])).2, W.testBit x.toNat = true) → ∀ x ∈ (R.getD k (0, [])).2, P x.toNat) {M : Nat} (hM : ∀ i, M.testBit i = true → P i) : ∀ k, k ≤ R.length → ∀ i, (rpTo R W M k).testBit i = true → P i
  | 0, _, i, hi => hM i hi
  | k + 1, hk, i, hi => by
    have ih := rp_low R W P hc hM k (by omega)
    rw [rpTo] at hi
    split at hi
    · rename_i ha
      rw [Bool.and_eq_true, List.all_eq_true] at ha
      rw [Nat.testBit_or, Bool.or_eq_true] at hi
      rcases hi with hi | hi
      · exact ih i hi
      · obtain ⟨x, h1, h2⟩ := ri_in _ _ (Nat.le_refl _) i hi
        rw [← h2]
        exact hc k (by omega) (ih _ ha.1) ha.2 x h1
    · exact ih i hi
theorem rpIt_low (R : Ru) (W : Nat) (P : Nat → Prop) (hc : ∀ k, k < R.length → P (R.getD k (0, [])).1 → (∀ x ∈ (R.getD k (0, [])).2, W.testBit x.toNat = true) → ∀ x ∈ (R.getD k (0, [])).2, P x.toNat) {M : Nat} (hM : ∀ i, M.testBit i = true → P i) : ∀ j i, (rpIt R W M j).testBit i = true → P i
  | 0, i, hi => hM i hi
  | j + 1, i, hi => rp_low R W P hc (rpIt_low R W P hc hM j) _ (Nat.le_refl _) i hi
theorem re_low {R : Ru} {W M X : Nat} (h : ReIs R W M X) (P : Nat → Prop) (hc : ∀ k, k < R.length → P (R.getD k (0, [])).1 → (∀ x ∈ (R.getD k (0, [])).2, W.testBit x.toNat = true) → ∀ x ∈ (R.getD k (0, [])).2, P x.toNat) (hM : ∀ i, M.testBit i = true → P i) {i : Nat} (hi : X.testBit i = true) : P i := by
  obtain ⟨j, rfl, _⟩ := h
  exact rpIt_low R W P hc hM j i hi
theorem two_bit {s i : Nat} (h : (2 ^ s).testBit i = true) : i = s := by
  rw [Nat.testBit_two_pow, decide_eq_true_eq] at h; exact h.symm
/-- What is of use, told in two ways. -/
theorem us_two {R : Ru} {T E st X U : Nat} (hE : GrIs R (utS T) E) (hX : ReIs R E (2 ^ st) X) (hU : ReIs R E (usB E st) U) (i : Nat) : (E.testBit i && X.testBit i) = U.testBit i := by
  unfold usB at hU
  cases hs : E.testBit st with
  | true =>
    rw [if_pos hs] at hU
    rw [re_same hU hX]
    cases hx : X.testBit i with
    | false => rw [Bool.and_false]
    | true =>
      have : E.testBit i = true := re_low hX (fun i => E.testBit i = true) (fun k hk _ hr x hx => hr x hx) (fun i hi => by rw [two_bit hi]; exact hs) hx
      rw [this]; rfl
  | false =>
    rw [if_neg (by rw [hs]; decide)] at hU
    have hu : U.testBit i = false := by
      cases hu : U.testBit i with
      | false => rfl
      | true => exact (re_low hU (fun _ => False) (fun k hk h _ x _ => h) (fun i hi => by simp at hi) hu).elim
    rw [hu]
    cases hx : X.testBit i with
    | false => rw [Bool.and_false]
    | true =>
      have : i = st := re_low hX (fun i => i = st) (fun k hk hl hr x hx => by
        have h1 := gr_closed hE hk (List.all_eq_true.2 hr)
        rw [hl, hs] at h1; cases h1) (fun i hi => two_bit hi) hx
      rw [this, hs]; rfl
theorem us_same {R : Ru} {T E st X U : Nat} (hE : GrIs R (utS T) E) (hX : ReIs R E (2 ^ st) X) (hU : ReIs R E (usB E st) U) (t : Nat) : ∀ k, usTo U U t k = usTo E X t k
  | 0 => rfl
  | k + 1 => by rw [usTo, usTo, us_same hE hX hU t k, Bool.and_self, us_two hE hX hU]

/-- What begins. -/
theorem bq_bitz {nul l : Nat} {r : List Int} {S : Nat → Nat} {x : Nat} : ∀ q, Sb (S x) (bqTo nul l r S q x)
  | 0 => Sb.refl _
  | q + 1 => by
    have ih := bq_bitz (nul := nul) (l := l) (r := r) (S := S) (x := x) q
    rw [bqTo]; split
    · by_cases h : x = l
      · rw [h, upd_same]; rw [h] at ih; exact ih.trans (Sb.left _ _)
      · rw [upd_other h]; exact ih
    · exact ih
theorem bp_bitz {R : Ru} {nul : Nat} {S : Nat → Nat} {x : Nat} : ∀ k, Sb (S x) (bpTo R nul S k x)
  | 0 => Sb.refl _
  | k + 1 => (bp_bitz k).trans (bq_bitz _)
theorem bpIt_bitz {R : Ru} {nul : Nat} {S : Nat → Nat} {x : Nat} : ∀ j, Sb (S x) (bpIt R nul S j x)
  | 0 => Sb.refl _
  | j + 1 => (bpIt_bitz j).trans (bp_bitz _)
theorem fis_mono {G G' : Gs} (hn : G.nul = G'.nul) : ∀ l : List Int, (∀ x ∈ l, Sb (G.bg x.toNat) (G'.bg x.toNat)) → Sb (fiS G l) (fiS G' l)
  | [], _ => Sb.refl _
  | x :: l, h => by
    rw [fiS, fiS, hn]
    refine Sb.or ((h x (List.mem_cons_self ..)).trans (Sb.left _ _)) ?_
    split
    · exact (fis_mono hn l fun y hy => h y (List.mem_cons_of_mem _ hy)).trans (Sb.right _ _)
    · exact Sb.zero _
theorem fis_has {G : Gs} : ∀ (l : List Int) (q : Nat), q < l.length → (l.take q).all (fun x => G.nul.testBit x.toNat) = true → Sb (G.bg (l.getD q 0).toNat) (fiS G l)
  | [], q, hq, _ => by simp at hq
  | x :: l, 0, _, _ => by rw [fiS]; exact Sb.left _ _
  | x :: l, q + 1, hq, ha => by
    rw [List.take_succ_cons, List.all_cons, Bool.and_eq_true] at ha
    rw [fiS, if_pos ha.1]
    have := fis_has l q (by simpa using hq) ha.2
    exact this.trans (Sb.right _ _)
theorem bg_fis {R : Ru} {nul n : Nat} {X : Nat → Nat} {N : Nat} (h : ∀ x, x < 128 → bpTo R nul X R.length x = X x) (hR : RuOk R n) (hn : n ≤ 128) {k : Nat} (hk : k < R.length) : Sb (fiS (gsN N nul X) (R.getD k (0, [])).2) (X (R.getD k (0, [])).1) := by
  intro i hi
  have := fi_sub (G := gsN N nul X) (L := X (R.getD k (0, [])).1) (r := (R.getD k (0, [])).2) (d := (R.getD k (0, [])).2.length) (Nat.le_refl _) (fun q _ hq ha => bg_closed h hR hn hk hq ha) (by rw [Nat.sub_self]; rfl) i
  rw [Nat.sub_self, List.drop_zero] at this
  exact this hi
theorem sp_sub {R : Ru} {nul n : Nat} {X S : Nat → Nat} (h : ∀ x, x < 128 → bpTo R nul X R.length x = X x) (hR : RuOk R n) (hn : n ≤ 128) (hS : ∀ x, x < n → Sb (S x) (X x)) : ∀ k, k ≤ R.length → ∀ x, x < n → Sb (spTo R n nul S k x) (X x)
  | 0, _, x, hx => hS x hx
  | k + 1, hk, x, hx => by
    have ih := sp_sub h hR hn hS k (by omega)
    rw [spTo]
    by_cases e : x = (R.getD k (0, [])).1
    · rw [e, upd_same]
      refine Sb.or (ih _ (hR k (by omega)).1) (Sb.trans ?_ (bg_fis (N := n) h hR hn (show k < R.length by omega)))
      refine fis_mono (G := gsN n nul (spTo R n nul S k)) (G' := gsN n nul X) rfl _ fun y hy => ?_
      obtain ⟨s, rfl, hs⟩ := symL_mem (hR k (by omega)).2.2 y hy
      exact ih _ hs
    · rw [upd_other e]; exact ih x hx
theorem spIt_sub {R : Ru} {nul n T : Nat} {X : Nat → Nat} (h : BgIs R nul T X) (hR : RuOk R n) (hn : n ≤ 128) : ∀ j x, x < n → Sb (spIt R n nul (biS T) j x) (X x)
  | 0, x, hx => by obtain ⟨j, rfl, _⟩ := h; exact bpIt_bitz j
  | j + 1, x, hx => by
    have ih := spIt_sub h hR hn j
    obtain ⟨_, _, hs⟩ := h
    exact sp_sub hs hR hn ih _ (Nat.le_refl _) x hx
theorem sp_monoz (R : Ru) (n nul : Nat) (S : Nat → Nat) (x : Nat) : ∀ d k, spTo R n nul S k x ≤ spTo R n nul S (k + d) x
  | 0, k => Nat.le_refl _
  | d + 1, k => Nat.le_trans (sp_monoz R n nul S x d k) (by
      show _ ≤ spTo R n nul S (k + d + 1) x
      rw [spTo]
      by_cases e : x = (R.getD (k + d) (0, [])).1
      · rw [e, upd_same]; exact Nat.left_le_or
      · rw [upd_other e]; exact Nat.le_refl _)
theorem sp_stillz {R : Ru} {n nul : Nat} {S : Nat → Nat} {x : Nat} (h : spTo R n nul S R.length x = S x) {k : Nat} (hk : k ≤ R.length) : spTo R n nul S k x = S x := by
  have h1 := sp_ge R n nul S x k
  have h2 := sp_monoz R n nul S x (R.length - k) k
  rw [show k + (R.length - k) = R.length by omega] at h2
  omega
theorem fis_congr {G G' : Gs} (hn : G.nul = G'.nul) (l : List Int) (h : ∀ x ∈ l, G.bg x.toNat = G'.bg x.toNat) : fiS G l = fiS G' l :=
  (fis_mono hn l fun x hx => by rw [h x hx]; exact Sb.refl _).eq (fis_mono hn.symm l fun x hx => by rw [h x hx]; exact Sb.refl _)
theorem sp_closed {R : Ru} {n nul : Nat} {S : Nat → Nat} (h : ∀ x, x < n → spTo R n nul S R.length x = S x) (hR : RuOk R n) {k : Nat} (hk : k < R.length) : Sb (fiS (gsN n nul S) (R.getD k (0, [])).2) (S (R.getD k (0, [])).1) := by
  have hl := (hR k hk).1
  have h1 := sp_stillz (h _ hl) (show k + 1 ≤ R.length by omega)
  rw [spTo, upd_same, sp_stillz (h _ hl) (show k ≤ R.length by omega)] at h1
  refine Sb.trans ?_ (sb_of h1)
  refine fis_mono (G := gsN n nul S) (G' := gsN n nul (spTo R n nul S k)) rfl _ fun y hy => ?_
  obtain ⟨s, rfl, hs⟩ := symL_mem (hR k hk).2.2 y hy
  show Sb (S (s : Int).toNat) (spTo R n nul S k (s : Int).toNat)
  rw [Int.toNat_natCast, sp_stillz (h s hs) (show k ≤ R.length by omega)]
  exact Sb.refl _
theorem bq_sub {nul l n : Nat} {r : List Int} {S Y : Nat → Nat} (hl : l < n) (hr : SymL n r) (hc : ∀ q, q < r.length → (r.take q).all (fun x => nul.testBit x.toNat) = true → Sb (Y (r.getD q 0).toNat) (Y l)) (hS : ∀ x, x < n → Sb (S x) (Y x)) : ∀ q, q ≤ r.length → ∀ x, x < n → Sb (bqTo nul l r S q x) (Y x)
  | 0, _, x, hx => hS x hx
  | q + 1, hq, x, hx => by
    have ih := bq_sub hl hr hc hS q (by omega)
    rw [bqTo]; split
    · rename_i ha
      by_cases e : x = l
      · rw [e, upd_same]
        obtain ⟨s, hs, hsn⟩ := hr q (by omega)
        have h1 := ih (r.getD q 0).toNat (by rw [hs, Int.toNat_natCast]; exact hsn)
        exact Sb.or (ih l hl) (h1.trans (hc q (by omega) ha))
      · rw [upd_other e]; exact ih x hx
    · exact ih x hx
theorem bp_sub {R : Ru} {nul n : Nat} {S Y : Nat → Nat} (h : ∀ x, x < n → spTo R n nul Y R.length x = Y x) (hR : RuOk R n) (hS : ∀ x, x < n → Sb (S x) (Y x)) : ∀ k, k ≤ R.length → ∀ x, x < n → Sb (bpTo R nul S k x) (Y x)
  | 0, _, x, hx => hS x hx
  | k + 1, hk, x, hx => by
    have ih := bp_sub h hR hS k (by omega)
    rw [bpTo]
    exact bq_sub (hR k (by omega)).1 (hR k (by omega)).2.2 (fun q hq ha => (fis_has (G := gsN n nul Y) _ q hq ha).trans (sp_closed h hR (by omega))) ih _ (Nat.le_refl _) x hx
theorem bpIt_sub {R : Ru} {nul n T : Nat} {Y : Nat → Nat} (h : ∀ x, x < n → spTo R n nul Y R.length x = Y x) (hR : RuOk R n) (hY : ∀ x, x < n → Sb (biS T x) (Y x)) : ∀ j x, x < n → Sb (bpIt R nul (biS T) j x) (Y x)
  | 0 => hY
  | j + 1 => bp_sub h hR (bpIt_sub h hR hY j) _ (Nat.le_refl _)
theorem sp_bitz {R : Ru} {n nul : Nat} {S : Nat → Nat} {x : Nat} : ∀ k, Sb (S x) (spTo R n nul S k x)
  | 0 => Sb.refl _
  | k + 1 => by
    refine (sp_bitz (R := R) (n := n) (nul := nul) (S := S) (x := x) k).trans ?_
    rw [spTo]
    by_cases e : x = (R.getD k (0, [])).1
    · rw [e, upd_same]; exact Sb.left _ _
    · rw [upd_other e]; exact Sb.refl _
theorem spIt_bitz {R : Ru} {n nul : Nat} {S : Nat → Nat} {x : Nat} : ∀ j, Sb (S x) (spIt R n nul S j x)
  | 0 => Sb.refl _
  | j + 1 => (spIt_bitz j).trans (sp_bitz _)
/-- The document's firsts are the program's. -/
theorem sp_bg {R : Ru} {nul n T : Nat} {S X : Nat → Nat} (hS : SpIs R n nul T S) (hX : BgIs R nul T X) (hR : RuOk R n) (hn : n ≤ 128) : ∀ x, x < n → S x = X x := by
  intro x hx
  obtain ⟨j, e, hs⟩ := hS
  have h1 : Sb (S x) (X x) := by rw [e]; exact spIt_sub hX hR hn j x hx
  obtain ⟨j', rfl, _⟩ := hX
  exact h1.eq (bpIt_sub hs hR (fun x hx => by rw [e]; exact spIt_bitz j) j' x hx)
theorem li_cut {M n : Nat} (h : M < 2 ^ n) : ∀ d, liTo M (n + d) = liTo M n
  | 0 => rfl
  | d + 1 => by
    rw [← Nat.add_assoc, liTo, li_cut h d, if_neg]
    rw [Nat.testBit_lt_two_pow (Nat.lt_of_lt_of_le h (Nat.pow_le_pow_right (by decide) (by omega)))]
    decide
theorem li_128 {M n : Nat} (h : M < 2 ^ n) (hn : n ≤ 128) : liTo M 128 = liTo M n := by
  have := li_cut h (128 - n)
  rwa [show n + (128 - n) = 128 by omega] at this
end Go.Proofs.YtgmbkelmgolkpaaDoor
/- Plain: the document's Follow is the program's. -/
namespace Go.Proofs.YtgmbkelmgolkpaaDoor
open Go.RowKit
set_option linter.unusedVariables false

/-- The document's passes stay within the program's sets. -/
theorem dq_sub {n nul T lf : Nat} {S D X : Nat → Nat} {r : List Int} (hr : SymL n r) (hlf : lf < n) (hlT : T ≤ lf)
    (hc1 : ∀ d, d < r.length → T ≤ (r.getD d 0).toNat → Sb (fiS (gsN n nul S) (r.drop (d + 1))) (X (r.getD d 0).toNat))
    (hc2 : ∀ d, d < r.length → T ≤ (r.getD d 0).toNat → (r.drop (d + 1)).all (fun x => nul.testBit x.toNat) = true → Sb (X lf) (X (r.getD d 0).toNat))
    (hD : ∀ x, T ≤ x → x < n → Sb (D x) (X x)) : ∀ q, q ≤ r.length → ∀ x, T ≤ x → x < n → Sb (dqTo n nul S lf r D q x) (X x)
  | 0, _, x, hT, hx => hD x hT hx
  | q + 1, hq, x, hT, hx => by
    have ih := dq_sub hr hlf hlT hc1 hc2 hD q (by omega)
    have h1 : ∀ y, T ≤ y → y < n → Sb (upd (dqTo n nul S lf r D q) (r.getD q 0).toNat (dqTo n nul S lf r D q (r.getD q 0).toNat ||| fiS (gsN n nul S) (r.drop (q + 1))) y) (X y) := fun y hTy hy => by
      by_cases e : y = (r.getD q 0).toNat
      · rw [e, upd_same]
        rw [e] at hTy hy
        exact Sb.or (ih _ hTy hy) (hc1 q (by omega) hTy)
      · rw [upd_other e]; exact ih y hTy hy
    rw [dqTo]; split
    · rename_i ha
      by_cases e : x = (r.getD q 0).toNat
      · rw [e, upd_same]
        rw [e] at hT hx
        exact Sb.or (h1 _ hT hx) ((h1 lf hlT hlf).trans (hc2 q (by omega) hT ha))
      · rw [upd_other e]; exact h1 x hT hx
    · exact h1 x hT hx
theorem dp_sub {R : Ru} {n nul T LV : Nat} {S D X : Nat → Nat} (hR : RuOk R n) (hL : ∀ k, k < R.length → T ≤ (R.getD k (0, [])).1)
    (hc1 : ∀ k, k < R.length → LV.testBit (R.getD k (0, [])).1 = true → ∀ d, d < (R.getD k (0, [])).2.length → T ≤ ((R.getD k (0, [])).2.getD d 0).toNat → Sb (fiS (gsN n nul S) ((R.getD k (0, [])).2.drop (d + 1))) (X ((R.getD k (0, [])).2.getD d 0).toNat))
    (hc2 : ∀ k, k < R.length → LV.testBit (R.getD k (0, [])).1 = true → ∀ d, d < (R.getD k (0, [])).2.length → T ≤ ((R.getD k (0, [])).2.getD d 0).toNat → ((R.getD k (0, [])).2.drop (d + 1)).all (fun x => nul.testBit x.toNat) = true → Sb (X (R.getD k (0, [])).1) (X ((R.getD k (0, [])).2.getD d 0).toNat))
    (hD : ∀ x, T ≤ x → x < n → Sb (D x) (X x)) : ∀ k, k ≤ R.length → ∀ x, T ≤ x → x < n → Sb (dpTo R n LV nul S D k x) (X x)
  | 0, _, x, hT, hx => hD x hT hx
  | k + 1, hk, x, hT, hx => by
    have ih := dp_sub hR hL hc1 hc2 hD k (by omega)
    rw [dpTo]; split
    · rename_i hl
      exact dq_sub (hR k (by omega)).2.2 (hR k (by omega)).1 (hL k (by omega)) (hc1 k (by omega) hl) (hc2 k (by omega) hl) ih _ (Nat.le_refl _) x hT hx
    · exact ih x hT hx
theorem dpIt_sub {R : Ru} {n nul T LV : Nat} {S D X : Nat → Nat} (hR : RuOk R n) (hL : ∀ k, k < R.length → T ≤ (R.getD k (0, [])).1)
    (hc1 : ∀ k, k < R.length → LV.testBit (R.getD k (0, [])).1 = true → ∀ d, d < (R.getD k (0, [])).2.length → T ≤ ((R.getD k (0, [])).2.getD d 0).toNat → Sb (fiS (gsN n nul S) ((R.getD k (0, [])).2.drop (d + 1))) (X ((R.getD k (0, [])).2.getD d 0).toNat))
    (hc2 : ∀ k, k < R.length → LV.testBit (R.getD k (0, [])).1 = true → ∀ d, d < (R.getD k (0, [])).2.length → T ≤ ((R.getD k (0, [])).2.getD d 0).toNat → ((R.getD k (0, [])).2.drop (d + 1)).all (fun x => nul.testBit x.toNat) = true → Sb (X (R.getD k (0, [])).1) (X ((R.getD k (0, [])).2.getD d 0).toNat))
    (hD : ∀ x, T ≤ x → x < n → Sb (D x) (X x)) : ∀ j x, T ≤ x → x < n → Sb (dpIt R n LV nul S D j x) (X x)
  | 0 => hD
  | j + 1 => dp_sub hR hL hc1 hc2 (dpIt_sub hR hL hc1 hc2 hD j) _ (Nat.le_refl _)
/-- Where the document's passes stand still they are closed. -/
theorem dq_step (n nul : Nat) (S : Nat → Nat) (lf : Nat) (r : List Int) (D : Nat → Nat) (x q : Nat) : dqTo n nul S lf r D q x ≤ upd (dqTo n nul S lf r D q) (r.getD q 0).toNat (dqTo n nul S lf r D q (r.getD q 0).toNat ||| fiS (gsN n nul S) (r.drop (q + 1))) x ∧ upd (dqTo n nul S lf r D q) (r.getD q 0).toNat (dqTo n nul S lf r D q (r.getD q 0).toNat ||| fiS (gsN n nul S) (r.drop (q + 1))) x ≤ dqTo n nul S lf r D (q + 1) x := by
  refine ⟨up_ge x, ?_⟩
  rw [dqTo]; split
  · exact up_ge x
  · exact Nat.le_refl _
theorem dq_mono (n nul : Nat) (S : Nat → Nat) (lf : Nat) (r : List Int) (D : Nat → Nat) (x : Nat) : ∀ d q, dqTo n nul S lf r D q x ≤ dqTo n nul S lf r D (q + d) x
  | 0, q => Nat.le_refl _
  | d + 1, q => Nat.le_trans (dq_mono n nul S lf r D x d q) (Nat.le_trans (dq_step n nul S lf r D x (q + d)).1 (dq_step n nul S lf r D x (q + d)).2)
theorem dp_mono (R : Ru) (n LV nul : Nat) (S D : Nat → Nat) (x : Nat) : ∀ d k, dpTo R n LV nul S D k x ≤ dpTo R n LV nul S D (k + d) x
  | 0, k => Nat.le_refl _
  | d + 1, k => Nat.le_trans (dp_mono R n LV nul S D x d k) (by
      show _ ≤ dpTo R n LV nul S D (k + d + 1) x
      rw [dpTo]; split
      · exact dq_ge _ _ _ _ _ _ _ _
      · exact Nat.le_refl _)
theorem dp_stillz {R : Ru} {n LV nul : Nat} {S D : Nat → Nat} {x : Nat} (h : dpTo R n LV nul S D R.length x = D x) {k : Nat} (hk : k ≤ R.length) : dpTo R n LV nul S D k x = D x := by
  have h1 := dp_ge R n LV nul S D x k
  have h2 := dp_mono R n LV nul S D x (R.length - k) k
  rw [show k + (R.length - k) = R.length by omega] at h2
  omega
theorem dq_stillz {R : Ru} {n LV nul : Nat} {S D : Nat → Nat} {x : Nat} (h : dpTo R n LV nul S D R.length x = D x) {k : Nat} (hk : k < R.length) (hl : LV.testBit (R.getD k (0, [])).1 = true) {q : Nat} (hq : q ≤ (R.getD k (0, [])).2.length) : dqTo n nul S (R.getD k (0, [])).1 (R.getD k (0, [])).2 (dpTo R n LV nul S D k) q x = D x := by
  have h1 := dq_ge n nul S (R.getD k (0, [])).1 (R.getD k (0, [])).2 (dpTo R n LV nul S D k) x q
  have h2 := dq_mono n nul S (R.getD k (0, [])).1 (R.getD k (0, [])).2 (dpTo R n LV nul S D k) x ((R.getD k (0, [])).2.length - q) q
  rw [show q + ((R.getD k (0, [])).2.length - q) = (R.getD k (0, [])).2.length by omega] at h2
  have h3 := dp_stillz h (show k ≤ R.length by omega)
  have h4 := dp_stillz h (show k + 1 ≤ R.length by omega)
  rw [dpTo, if_pos hl] at h4
  omega
theorem do_closed {R : Ru} {n LV nul : Nat} {S D : Nat → Nat} (h : ∀ x, x < n → dpTo R n LV nul S D R.length x = D x) (hR : RuOk R n) {k : Nat} (hk : k < R.length) (hl : LV.testBit (R.getD k (0, [])).1 = true) {q : Nat} (hq : q < (R.getD k (0, [])).2.length) :
    Sb (fiS (gsN n nul S) ((R.getD k (0, [])).2.drop (q + 1))) (D ((R.getD k (0, [])).2.getD q 0).toNat) ∧ (((R.getD k (0, [])).2.drop (q + 1)).all (fun x => nul.testBit x.toNat) = true → Sb (D (R.getD k (0, [])).1) (D ((R.getD k (0, [])).2.getD q 0).toNat)) := by
  have hlf := (hR k hk).1
  obtain ⟨s, hs, hsn⟩ := (hR k hk).2.2 q hq
  have hxn : ((R.getD k (0, [])).2.getD q 0).toNat < n := by rw [hs, Int.toNat_natCast]; exact hsn
  have a0 := dq_stillz (h _ hxn) hk hl (show q ≤ _ by omega)
  have a1 := dq_stillz (h _ hxn) hk hl (show q + 1 ≤ _ by omega)
  have b0 := dq_stillz (h _ hlf) hk hl (show q ≤ _ by omega)
  have b1 := dq_stillz (h _ hlf) hk hl (show q + 1 ≤ _ by omega)
  have m1 := dq_step n nul S (R.getD k (0, [])).1 (R.getD k (0, [])).2 (dpTo R n LV nul S D k) ((R.getD k (0, [])).2.getD q 0).toNat q
  have m2 := dq_step n nul S (R.getD k (0, [])).1 (R.getD k (0, [])).2 (dpTo R n LV nul S D k) (R.getD k (0, [])).1 q
  generalize hx : ((R.getD k (0, [])).2.getD q 0).toNat = x at *
  generalize hA : upd (dqTo n nul S (R.getD k (0, [])).1 (R.getD k (0, [])).2 (dpTo R n LV nul S D k) q) x (dqTo n nul S (R.getD k (0, [])).1 (R.getD k (0, [])).2 (dpTo R n LV nul S D k) q x ||| fiS (gsN n nul S) ((R.getD k (0, [])).2.drop (q + 1))) = A at *
  have hAx : A x = D x := by omega
  have hAl : A (R.getD k (0, [])).1 = D (R.getD k (0, [])).1 := by omega
  refine ⟨?_, fun ha => ?_⟩
  · have e : A x = D x ||| fiS (gsN n nul S) ((R.getD k (0, [])).2.drop (q + 1)) := by rw [← hA, upd_same, a0]
    exact sb_of (e.symm.trans hAx)
  · rw [dqTo, if_pos ha, hx, hA, upd_same, hAx, hAl] at a1
    exact sb_of a1
/-- What stands next, the other way round. -/
theorem fq_back {G : Gs} {T : Nat} {S : Nat → Nat} {nx : Nat} : ∀ (r : List Int) i, (fqL T G.nul G.bg S nx r).2.testBit i = true → (fiS G r).testBit i = true ∨ (r.all (fun x => G.nul.testBit x.toNat) = true ∧ nx.testBit i = true)
  | [], i, hi => .inr ⟨rfl, hi⟩
  | s :: r, i, hi => by
    have ih := fq_back (G := G) (T := T) (S := S) (nx := nx) r i
    change ((if G.nul.testBit s.toNat then (fqL T G.nul G.bg S nx r).2 else 0) ||| G.bg s.toNat).testBit i = true at hi
    rw [Nat.testBit_or, Bool.or_eq_true] at hi
    rw [fiS, Nat.testBit_or, Bool.or_eq_true, List.all_cons]
    rcases hi with hi | hi
    · split at hi
      · rename_i hn
        rw [if_pos hn, hn, Bool.true_and]
        rcases ih hi with h | h
        · exact .inl (.inr h)
        · exact .inr h
      · simp at hi
    · exact .inl (.inl hi)
theorem fq_sub {G : Gs} {T n lf nx : Nat} {S Y : Nat → Nat} (hnx : Sb nx (Y lf)) (hS : ∀ x, x < n → Sb (S x) (Y x)) : ∀ (r : List Int), SymL n r → (∀ q, q < r.length → Sb (fiS G (r.drop (q + 1))) (Y (r.getD q 0).toNat) ∧ ((r.drop (q + 1)).all (fun x => G.nul.testBit x.toNat) = true → Sb (Y lf) (Y (r.getD q 0).toNat))) → ∀ x, x < n → Sb ((fqL T G.nul G.bg S nx r).1 x) (Y x)
  | [], _, _, x, hx => hS x hx
  | s :: r, hr, hc, x, hx => by
    have ih := fq_sub (G := G) (T := T) hnx hS r (fun j hj => hr (j + 1) (by simpa using hj)) (fun q hq => hc (q + 1) (by simpa using hq)) x hx
    obtain ⟨c1, c2⟩ := hc 0 (by simp)
    change Sb ((if T ≤ s.toNat then upd (fqL T G.nul G.bg S nx r).1 s.toNat ((fqL T G.nul G.bg S nx r).1 s.toNat ||| (fqL T G.nul G.bg S nx r).2) else (fqL T G.nul G.bg S nx r).1) x) (Y x)
    split
    · by_cases e : x = s.toNat
      · rw [e, upd_same]
        rw [e] at ih
        refine Sb.or ih fun i hi => ?_
        rcases fq_back r i hi with h | ⟨h, h'⟩
        · exact c1 i h
        · exact c2 h i (hnx i h')
      · rw [upd_other e]; exact ih
    · exact ih
theorem fp_sub {R : Ru} {n T RE : Nat} {G : Gs} {S Y : Nat → Nat} (hR : RuOk R n) (hc : ∀ k, k < R.length → RE.testBit (R.getD k (0, [])).1 = true → ∀ q, q < (R.getD k (0, [])).2.length → Sb (fiS G ((R.getD k (0, [])).2.drop (q + 1))) (Y ((R.getD k (0, [])).2.getD q 0).toNat) ∧ (((R.getD k (0, [])).2.drop (q + 1)).all (fun x => G.nul.testBit x.toNat) = true → Sb (Y (R.getD k (0, [])).1) (Y ((R.getD k (0, [])).2.getD q 0).toNat))) (hS : ∀ x, x < n → Sb (S x) (Y x)) : ∀ k, k ≤ R.length → ∀ x, x < n → Sb (fpTo R RE T G.nul G.bg S k x) (Y x)
  | 0, _, x, hx => hS x hx
  | k + 1, hk, x, hx => by
    have ih := fp_sub (T := T) hR hc hS k (by omega)
    rw [fpTo]; split
    · rename_i hl
      exact fq_sub (ih _ (hR k (by omega)).1) ih _ (hR k (by omega)).2.2 (hc k (by omega) hl) x hx
    · exact ih x hx
theorem fpIt_sub {R : Ru} {n T RE : Nat} {G : Gs} {S Y : Nat → Nat} (hR : RuOk R n) (hc : ∀ k, k < R.length → RE.testBit (R.getD k (0, [])).1 = true → ∀ q, q < (R.getD k (0, [])).2.length → Sb (fiS G ((R.getD k (0, [])).2.drop (q + 1))) (Y ((R.getD k (0, [])).2.getD q 0).toNat) ∧ (((R.getD k (0, [])).2.drop (q + 1)).all (fun x => G.nul.testBit x.toNat) = true → Sb (Y (R.getD k (0, [])).1) (Y ((R.getD k (0, [])).2.getD q 0).toNat))) (hS : ∀ x, x < n → Sb (S x) (Y x)) : ∀ j x, x < n → Sb (fpIt R RE T G.nul G.bg S j x) (Y x)
  | 0 => hS
  | j + 1 => fp_sub hR hc (fpIt_sub hR hc hS j) _ (Nat.le_refl _)
theorem dq_bitz {n nul : Nat} {S : Nat → Nat} {lf : Nat} {r : List Int} {D : Nat → Nat} {x : Nat} : ∀ q, Sb (D x) (dqTo n nul S lf r D q x)
  | 0 => Sb.refl _
  | q + 1 => by
    have up : ∀ (A : Nat → Nat) y F, Sb (A x) (upd A y (A y ||| F) x) := fun A y F => by
      by_cases e : x = y
      · rw [e, upd_same]; exact Sb.left _ _
      · rw [upd_other e]; exact Sb.refl _
    refine (dq_bitz (n := n) (nul := nul) (S := S) (lf := lf) (r := r) (D := D) (x := x) q).trans ?_
    rw [dqTo]; split
    · exact (up _ _ _).trans (up _ _ _)
    · exact up _ _ _
theorem dp_bitz {R : Ru} {n LV nul : Nat} {S D : Nat → Nat} {x : Nat} : ∀ k, Sb (D x) (dpTo R n LV nul S D k x)
  | 0 => Sb.refl _
  | k + 1 => by
    refine (dp_bitz (R := R) (n := n) (LV := LV) (nul := nul) (S := S) (D := D) (x := x) k).trans ?_
    rw [dpTo]; split
    · exact dq_bitz _
    · exact Sb.refl _
theorem dpIt_bitz {R : Ru} {n LV nul : Nat} {S D : Nat → Nat} {x : Nat} : ∀ j, Sb (D x) (dpIt R n LV nul S D j x)
  | 0 => Sb.refl _
  | j + 1 => (dpIt_bitz j).trans (dp_bitz _)
/-- The document's Follow is the program's. -/
theorem do_fo {R : Ru} {n tn st nul LV : Nat} {S D bg X : Nat → Nat} (hR : RuOk R n) (hn : n ≤ 128) (hL : ∀ k, k < R.length → tn + 1 ≤ (R.getD k (0, [])).1) (hst : tn + 1 ≤ st) (hstn : st < n)
    (hLV : ReIs R (utS n) (2 ^ st) LV) (hD : DoIs R n tn st LV nul S D) (hX : FoIs R n (tn + 1) st nul bg X) (hS : ∀ x, x < n → S x = bg x) (x : Nat) (hx1 : tn + 1 ≤ x) (hx2 : x < n) : D x = X x := by
  have hstart := fo_start hX
  obtain ⟨RE, j', hRE, eX, hXs⟩ := hX
  have hre := re_same hLV hRE
  subst hre
  obtain ⟨j, eD, hDs⟩ := hD
  have hfi : ∀ l : List Int, SymL n l → fiS (gsN n nul S) l = fiS (gsN n nul bg) l := fun l hl => fis_congr (G := gsN n nul S) (G' := gsN n nul bg) rfl l fun y hy => by
    obtain ⟨s, rfl, hs⟩ := symL_mem hl y hy
    show S (s : Int).toNat = bg (s : Int).toNat
    rw [Int.toNat_natCast]; exact hS s hs
  refine Sb.eq ?_ ?_
  · rw [eD]
    refine dpIt_sub (T := tn + 1) hR hL (fun k hk hl d hd hT => ?_) (fun k hk hl d hd hT ha => ?_) (fun y hT hy => ?_) j x hx1 hx2
    · rw [hfi _ (sym_drop (hR k hk).2.2 _)]
      exact (fo_closed (G := gsN n nul bg) hXs hR hn hk hl hd hT).1
    · exact (fo_closed (G := gsN n nul bg) hXs hR hn hk hl hd hT).2 ha
    · by_cases e : y = st
      · rw [e, upd_same]
        intro i hi
        rw [two_bit hi]
        exact hstart
      · rw [upd_other e]; exact Sb.zero _
  · rw [eX]
    refine fpIt_sub (G := gsN n nul bg) hR (fun k hk hl q hq => ?_) (fun y hy => ?_) j' x hx2
    · have := do_closed hDs hR hk hl hq
      rw [hfi _ (sym_drop (hR k hk).2.2 _)] at this
      exact this
    · rw [eD]
      refine Sb.trans ?_ (dpIt_bitz j)
      unfold foI
      rw [show tn + 1 - 1 = tn by omega]
      exact Sb.refl _
theorem fq_none {T nul : Nat} {bg S : Nat → Nat} {nx x : Nat} (hx : x < T) (h : S x = 0) : ∀ r, (fqL T nul bg S nx r).1 x = 0
  | [] => h
  | s :: r => by
    change (if T ≤ s.toNat then upd (fqL T nul bg S nx r).1 s.toNat ((fqL T nul bg S nx r).1 s.toNat ||| (fqL T nul bg S nx r).2) else (fqL T nul bg S nx r).1) x = 0
    split
    · rw [upd_other (by omega)]; exact fq_none hx h r
    · exact fq_none hx h r
theorem fp_none {R : Ru} {RE T nul : Nat} {bg S : Nat → Nat} {x : Nat} (hx : x < T) (h : S x = 0) : ∀ k, fpTo R RE T nul bg S k x = 0
  | 0 => h
  | k + 1 => by
    rw [fpTo]; split
    · exact fq_none hx (fp_none hx h k) _
    · exact fp_none hx h k
theorem fpIt_none {R : Ru} {RE T nul : Nat} {bg S : Nat → Nat} {x : Nat} (hx : x < T) (h : S x = 0) : ∀ j, fpIt R RE T nul bg S j x = 0
  | 0 => h
  | j + 1 => fp_none hx (fpIt_none hx h j) _
/-- Nothing follows a terminal. -/
theorem fo_none {R : Ru} {n T st nul : Nat} {bg X : Nat → Nat} (h : FoIs R n T st nul bg X) (hst : T ≤ st) {x : Nat} (hx : x < T) : X x = 0 := by
  obtain ⟨RE, j, _, rfl, _⟩ := h
  refine fpIt_none hx ?_ j
  unfold foI
  rw [upd_other (by omega)]
end Go.Proofs.YtgmbkelmgolkpaaDoor
/- GrammarSets: what both sides answer, in the same words. -/
namespace Go.Proofs.YtgmbkelmgolkpaaDoor
open Go.RowKit Go.Maps
set_option linter.unusedVariables false

/-- A row of numbers is laid behind one's own. -/
theorem wpList_append_il {ops : Array Oper} {rest : List Oper} {o : Oper} {a : Act} {Q : Exit → Act → World → Prop} {w : World} (hgd : o.guard = none) (s x : Operand)
    (ho : o.op = .call { callee := .builtin .append, args := #[s, x], argTypes := #[43, 43] }) (base : Nat) (v : Value) (n : Nat) (c : List Int)
    (hs : a.eval s = v) (hown : w.ownsRow base 3 1 v n (c.map encI)) (ad : Option Addr) (cap : Nat) (y : List Int) (hx : a.eval x = .slice ad y.length cap) (hnone : ad = none → cap = 0) (hil : IlAt w (.slice ad y.length cap) y) (hl : n + y.length ≤ 17592186044416) (hbase : base ≤ w.heap.size)
    (h : ∀ v' w', w'.ownsRow base 3 1 v' (n + y.length) ((c ++ y).map encI) → Below base w w' → wpList Tryd.prog ops Q rest (a.put o.dst v') w') : wpList Tryd.prog ops Q (o :: rest) a w := by
  obtain ⟨i0, hi, hz0, hz1, hz2⟩ := info_parts Tryd.info3
  obtain ⟨hcc, hc2, hcl⟩ := hil.at
  cases ad with
  | none =>
    obtain rfl := hnone rfl
    have h0 : y.length = 0 := by omega
    obtain rfl := List.eq_nil_of_length_eq_zero h0
    refine wpList_append_own_none hgd s x 43 ho base 3 i0 1 Tryd.underlying43' hi v n (c.map encI) hs hown hx ?_
    exact h v w (by simpa using hown) (Below.refl _ _)
  | some ad =>
    refine wpList_append_own w hgd s x 43 ho base 3 i0 (.int .i64 0) 1 8 Tryd.underlying43' hi hz0 hz1 hz2 rfl (by decide) v n (c.map encI) hs hown ad y.length cap (y.map encI) hx (by rw [List.length_map]; omega) (fun j u hu => ?_) (by intro u hu; obtain ⟨t, _, rfl⟩ := List.mem_map.1 hu; rfl) (by unfold maxLen; omega) (by omega) hbase ?_
    · have hj : j < y.length := by
        rcases Nat.lt_or_ge j y.length with h1 | h1
        · exact h1
        · rw [List.getElem?_eq_none (by rw [List.length_map]; exact h1)] at hu; cases hu
      obtain ⟨g', o', e, _, e4⟩ := hcl j hj
      cases e
      rw [show (⟨g', o', none⟩ : Addr).add j = ⟨g', o' + j, none⟩ from Addr.add_lit .., e4, ← hu, List.getElem?_map, List.getElem?_eq_getElem hj, List.getD_eq_getElem?_getD, List.getElem?_eq_getElem hj]
      rfl
    · intro v' w' h1 h2 _
      exact h v' w' (by rw [List.map_append]; exact h1) (row_grown hown (Below.refl _ _) h2 hbase)
theorem own_empty3 (w : World) : (w.alloc (.cells #[] (3 : TypeId))).ownsRow w.heap.size 3 1 (.slice (some ⟨w.heap.size, 0, none⟩) 0 0) 0 [] :=
  ⟨rfl, .inr ⟨w.heap.size, 0, #[], rfl, Nat.le_refl _, heap_alloc_new _ _, Nat.le_refl _, Nat.zero_le _, rfl, rfl⟩⟩

set_option maxRecDepth 100000 in
theorem refNullable_nil (v : Value) (w : World) : Calls Tryd.prog 19 #[.pointer none, v] w fun e w' => e = .returned (.bool false) ∧ Below w.heap.size w w' := by
  go_enter Tryd.func19, Tryd.ntmps19
  go_wp2_with fail
  go_ret
  exact ⟨rfl, Below.refl _ _⟩
set_option maxRecDepth 100000 in
theorem refFirst_nil (v : Value) (w : World) : Calls Tryd.prog 22 #[.pointer none, v] w fun e w' => e = .returned (.slice none 0 0) ∧ Below w.heap.size w w' := by
  go_enter Tryd.func22, Tryd.ntmps22
  go_wp2_with fail
  refine bodyPost_ret (v := .slice none 0 0) (by simp [results, Tryd.results22, go_sem]) rfl ?_
  exact ⟨rfl, Below.refl _ _⟩
set_option maxRecDepth 100000 in
theorem refFollow_nil (x : Int) (w : World) : Calls Tryd.prog 24 #[.pointer none, .int .i64 x] w fun e w' => e = .returned (.slice none 0 0) ∧ Below w.heap.size w w' := by
  go_enter Tryd.func24, Tryd.ntmps24
  go_wp2_with fail
  refine bodyPost_ret (v := .slice none 0 0) (by simp [results, Tryd.results24, go_sem]) rfl ?_
  exact ⟨rfl, Below.refl _ _⟩
set_option maxRecDepth 100000 in
theorem refUseless_nil (w : World) : Calls Tryd.prog 26 #[.pointer none] w fun e w' => e = .returned (.slice none 0 0) ∧ Below w.heap.size w w' := by
  go_enter Tryd.func26, Tryd.ntmps26
  go_wp2_with fail
  refine bodyPost_ret (v := .slice none 0 0) (by simp [results, Tryd.results26, go_sem]) rfl ?_
  exact ⟨rfl, Below.refl _ _⟩
theorem li_zero : ∀ k, liTo 0 k = []
  | 0 => rfl
  | k + 1 => by rw [liTo, li_zero k]; simp
set_option maxRecDepth 100000 in
set_option maxHeartbeats 1600000 in
theorem first_nilL (l : List Int) (hl : l.length ≤ 9223372036854775806) (v : Value) (w : World) (hv : IlAt w v l) : Calls Tryd.prog 21 #[.pointer none, v] w fun e w' => ∃ u, e = .returned u ∧ IlAt w' u [] ∧ Below w.heap.size w w' := by
  obtain ⟨a, c, rfl, hc1, hc2, hcell⟩ := hv
  have HHA := hidD (fun (x : Int) => has_nil x w)
  have HLI := hidD (fun (w' : World) => setList_any 0 (by decide) w')
  rw [li_zero] at HLI
  obtain ⟨hz, hsz⟩ := zero_of_info Tryd.zero86
  by_cases h0 : 0 < l.length
  · obtain ⟨gl, ol, rfl, hgl, hcl⟩ := hcell 0 h0
    rw [Nat.add_zero] at hcl
    generalize l.getD 0 0 = x at *
    generalize hn : l.length = n at *
    have h0i : (0 : Int) < (n : Int) := by omega
    have HHX := hidD (HHA.out x)
    clear hcell HLI HHA
    go_enter Tryd.func21, Tryd.ntmps21
    go_wp2_with fail
    go_loopw [12] (fun i wr => i = .int .i64 0 ∧ wr = w) (fun _ _ => 0)
    case atStart => exact ⟨rfl, rfl⟩
    case round =>
      obtain ⟨rfl, hw⟩ := hrel
      subst wr
      go_wp2_with (go_at_call 63; refine HHX.out.mono ?_; rintro e w2 ⟨rfl, hw⟩; subst w2)
      refine bodyPost_ret (v := .slice none 0 0) (by simp [results, Tryd.results21, go_sem]) rfl ?_
      exact ⟨_, rfl, IlAt.nil _, Below.refl _ _⟩
  · have hn : l.length = 0 := by omega
    rw [hn]
    have HBU0 : Hid (Below w.heap.size w (w.alloc (.cells #[.int .u64 0, .int .u64 0] (86 : TypeId)))) := (Below.refl _ _).alloc (Nat.le_refl _) _
    unfold setV at HLI
    rw [show lw 0 = 0 from rfl, show hw 0 = 0 from rfl] at HLI
    clear hcell HHA
    go_enter Tryd.func21, Tryd.ntmps21
    go_wp2_with fail
    go_loopw [12] (fun i wr => i = .int .i64 0 ∧ wr = w) (fun _ _ => 0)
    case atStart => exact ⟨rfl, rfl⟩
    case round =>
      obtain ⟨rfl, hw⟩ := hrel
      subst wr
      go_wp2_with fail
      go_loopw [23] (fun i wr => i = .int .i64 0 ∧ wr = (w.alloc (.cells #[.int .u64 0, .int .u64 0] (86 : TypeId)))) (fun _ _ => 0)
      case atStart => exact ⟨rfl, rfl⟩
      case round =>
        obtain ⟨rfl, hw⟩ := hrel
        subst wr
        go_wp2_with (go_at_call 69; refine (HLI.out _).mono ?_; rintro e w9 ⟨u, rfl, hi, hb⟩; have HI := hidD hi; have HB := hidD (Below.next HBU0.out hb); clear hi hb)
        refine bodyPost_ret (v := u) (by simp [results, Tryd.results21, go_sem]) rfl ?_
        exact ⟨u, rfl, HI.out, HB.out⟩
/-- What First and Follow tell. -/
def fiL (G : Gs) (l : List Int) : List Int := if rgB G.n l then liTo (fiS G l) 128 else []
def foL (G : Gs) (x : Int) : List Int := if decide ((G.t : Int) ≤ x) && decide (x < (G.n : Int)) then liTo (G.fo x.toNat) 128 else []
theorem fiL_len (G : Gs) (l : List Int) : (fiL G l).length ≤ 128 := by unfold fiL; split; exact liTo_len _ _; exact Nat.zero_le _
theorem foL_len (G : Gs) (x : Int) : (foL G x).length ≤ 128 := by unfold foL; split; exact liTo_len _ _; exact Nat.zero_le _
theorem rg_has {G : Gs} {l : List Int} (h : rgB G.n l = true) : ∀ k, k < l.length → hasS G (l.getD k 0) = true := fun k hk => by
  unfold rgB at h
  rw [List.all_eq_true] at h
  exact h _ (by rw [List.getD_eq_getElem?_getD, List.getElem?_eq_getElem hk]; exact List.getElem_mem hk)
theorem rg_hasnt {G : Gs} {l : List Int} (h : rgB G.n l = false) : ∃ k, k < l.length ∧ hasS G (l.getD k 0) = false := by
  unfold rgB at h
  rw [List.all_eq_false] at h
  obtain ⟨x, hx, he⟩ := h
  obtain ⟨k, hk, e⟩ := List.getElem_of_mem hx
  refine ⟨k, hk, ?_⟩
  rw [List.getD_eq_getElem?_getD, List.getElem?_eq_getElem hk, Option.getD_some, e]
  unfold hasS
  exact Bool.eq_false_iff.2 he
theorem all_two (G : Gs) (l : List Int) : l.all (nulS G) = (rgB G.n l && l.all fun x => G.nul.testBit x.toNat) := by
  unfold rgB
  induction l with
  | nil => rfl
  | cons x l ih =>
    rw [List.all_cons, List.all_cons, List.all_cons, ih]
    unfold nulS hasS
    generalize (decide (0 ≤ x) && decide (x < (G.n : Int))) = A
    generalize G.nul.testBit x.toNat = B
    generalize (l.all fun x => decide (0 ≤ x) && decide (x < (G.n : Int))) = C
    generalize (l.all fun x => G.nul.testBit x.toNat) = D
    cases A <;> cases B <;> cases C <;> cases D <;> rfl
theorem first_is {w : World} {p : Nat} {G : Gs} (h : GmAt w p G) (l : List Int) (hl : l.length ≤ 9223372036854775806) (v : Value) (hv : IlAt w v l) : Calls Tryd.prog 21 #[.pointer (some ⟨p, 0, none⟩), v] w fun e w' => ∃ u, e = .returned u ∧ IlAt w' u (fiL G l) ∧ Below w.heap.size w w' := by
  unfold fiL
  cases hr : rgB G.n l with
  | true => rw [if_pos rfl]; exact first_any l hl (rg_has hr) v w h hv
  | false =>
    rw [if_neg (by decide)]
    obtain ⟨k, hk, hno⟩ := rg_hasnt hr
    exact (first_no l hl k hk hno v w h hv).mono fun e w' ⟨h1, h2⟩ => ⟨_, h1, IlAt.nil _, h2⟩
theorem follow_is {w : World} {p : Nat} {T O : List Tx} {st : Nat} {R : Rus} {nul : Nat} {bg fo : Nat → Nat} (h : GfAt w p T O st R nul bg fo) (x : Int) : Calls Tryd.prog 23 #[.pointer (some ⟨p, 0, none⟩), .int .i64 x] w fun e w' => ∃ u, e = .returned u ∧ IlAt w' u (foL (gsOf T O st nul bg fo) x) ∧ Below w.heap.size w w' := by
  cases hh : hasS (gsOf T O st nul bg fo) x with
  | false =>
    have : foL (gsOf T O st nul bg fo) x = [] := by
      unfold foL
      unfold hasS at hh
      refine if_neg fun h2 => ?_
      rw [Bool.and_eq_true, decide_eq_true_eq, decide_eq_true_eq] at h2
      rw [Bool.and_eq_false_iff, decide_eq_false_iff_not, decide_eq_false_iff_not] at hh
      omega
    rw [this]
    exact (follow_no x hh w h.gm).mono fun e w' ⟨h1, h2⟩ => ⟨_, h1, IlAt.nil _, by rw [h2]; exact Below.refl _ _⟩
  | true =>
    obtain ⟨s, rfl, hs⟩ := has_nat hh
    have : foL (gsOf T O st nul bg fo) (s : Int) = liTo ((gsOf T O st nul bg fo).fo s) 128 := by
      unfold foL
      by_cases ht : (gsOf T O st nul bg fo).t ≤ s
      · rw [if_pos (by rw [Bool.and_eq_true, decide_eq_true_eq, decide_eq_true_eq]; omega), Int.toNat_natCast]
      · rw [if_neg (by rw [Bool.and_eq_true, decide_eq_true_eq]; omega)]
        have h1 : (gsOf T O st nul bg fo).fo s = 0 := fo_none h.fs h.stl.1 (show s < T.length + 1 by have : ¬ T.length + 1 ≤ s := ht; omega)
        rw [h1, li_zero]
    rw [this]
    exact follow_any s hs w h.gm
section
variable {w : World} {p : Nat} {T O : List Tx} {st : Nat} {R : Rus} {nul : Nat} {bg fo : Nat → Nat} {p2 : Nat} {a0 : Option Addr} {k0 : Nat} {a1 : Option Addr} {k1 gr og cr : Nat} {s : Int}
theorem refNullable_is (h : GfAt w p T O st R nul bg fo) (h2 : RgW w p2 a0 k0 a1 k1 gr og cr T O R s) (l : List Int) (hl : l.length ≤ 9223372036854775806) (v : Value) (hv : IlAt w v l) : Calls Tryd.prog 19 #[.pointer (some ⟨p2, 0, none⟩), v] w fun e w' => e = .returned (.bool (l.all (nulS (gsOf T O st nul bg fo)))) ∧ Below w.heap.size w w' := by
  rw [all_two]
  exact refNullable_any h2 _ rfl h.few h.ok h.len nul h.gr l hl v hv
theorem refFirst_is (h : GfAt w p T O st R nul bg fo) (h2 : RgW w p2 a0 k0 a1 k1 gr og cr T O R s) (l : List Int) (hl : l.length ≤ 9223372036854775806) (v : Value) (hv : IlAt w v l) : Calls Tryd.prog 22 #[.pointer (some ⟨p2, 0, none⟩), v] w fun e w' => ∃ u, e = .returned u ∧ IlAt w' u (fiL (gsOf T O st nul bg fo) l) ∧ Below w.heap.size w w' := by
  refine (refFirst_any h2 _ rfl h.few h.ok h.len nul h.gr l hl v hv).mono fun e w' ⟨h3, h4, h5⟩ => ?_
  unfold fiL
  cases hr : rgB (gsOf T O st nul bg fo).n l with
  | false => rw [if_neg (by decide)]; exact ⟨_, h3 hr, IlAt.nil _, h5⟩
  | true =>
    rw [if_pos rfl]
    obtain ⟨S, u, e1, e2, e3, e4⟩ := h4 hr
    refine ⟨u, e1, ?_, h5⟩
    have hsym := rg_sym hr
    have e5 := sp_bg e2 h.bs h.ok h.few
    have e6 : fiS (gsN (allN T O).length nul S) l = fiS (gsOf T O st nul bg fo) l := fis_congr (G := gsN (allN T O).length nul S) (G' := gsOf T O st nul bg fo) rfl l fun y hy => by
      obtain ⟨i, rfl, hi⟩ := symL_mem hsym y hy
      show S (i : Int).toNat = bg (i : Int).toNat
      rw [Int.toNat_natCast]; exact e5 i hi
    have e7 : fiS (gsN (allN T O).length nul S) l < 2 ^ (allN T O).length := fis_pow e3 l (symL_mem hsym)
    rw [e6] at e4 e7
    rw [li_128 e7 h.few]
    exact e4
theorem refFollow_is (h : GfAt w p T O st R nul bg fo) (h2 : RgW w p2 a0 k0 a1 k1 gr og cr T O R s) (hL : ∀ k, k < R.length → T.length + 1 ≤ (R.getD k (0, [])).1) (hs : (T.length : Int) + 1 + s = (st : Int)) (hs0 : 0 ≤ s) (x : Int) : Calls Tryd.prog 24 #[.pointer (some ⟨p2, 0, none⟩), .int .i64 x] w fun e w' => ∃ u, e = .returned u ∧ IlAt w' u (foL (gsOf T O st nul bg fo) x) ∧ Below w.heap.size w w' := by
  cases hc : decide (((gsOf T O st nul bg fo).t : Int) ≤ x) && decide (x < ((gsOf T O st nul bg fo).n : Int)) with
  | false =>
    unfold foL
    rw [hc, if_neg (by decide)]
    rw [Bool.and_eq_false_iff, decide_eq_false_iff_not, decide_eq_false_iff_not] at hc
    have e1 : (gsOf T O st nul bg fo).t = T.length + 1 := rfl
    have e2 : (gsOf T O st nul bg fo).n = (allN T O).length := rfl
    rw [e1, e2] at hc
    exact (refFollow_no h2 _ rfl h.few x (by omega)).mono fun e w' ⟨h3, h4⟩ => ⟨_, h3, IlAt.nil _, h4⟩
  | true =>
    have hc' := hc
    rw [Bool.and_eq_true, decide_eq_true_eq, decide_eq_true_eq] at hc'
    have e1 : (gsOf T O st nul bg fo).t = T.length + 1 := rfl
    have e2 : (gsOf T O st nul bg fo).n = (allN T O).length := rfl
    rw [e1, e2] at hc'
    obtain ⟨y, rfl⟩ : ∃ y : Nat, x = (y : Int) := ⟨x.toNat, by omega⟩
    unfold foL
    rw [hc, if_pos rfl, Int.toNat_natCast]
    refine (refFollow_any h2 _ rfl h.few h.ok h.len st hs hs0 h.stl.2 nul h.gr y (by omega) (by omega)).mono fun e w' ⟨LV, S, D, u, g1, g2, g3, g4, g5, g6, g7, g8⟩ => ⟨u, g1, ?_, g8⟩
    have e5 := sp_bg g3 h.bs h.ok h.few
    have e6 := do_fo h.ok h.few hL h.stl.1 h.stl.2 g2 g5 h.fs e5 y (by omega) (by omega)
    have e7 := g6 y (by omega)
    rw [e6] at g7 e7
    show IlAt w' u (liTo (fo y) 128)
    rw [li_128 e7 h.few]
    exact g7
theorem refUseless_is (h : GfAt w p T O st R nul bg fo) (h2 : RgW w p2 a0 k0 a1 k1 gr og cr T O R s) (hs : (T.length : Int) + 1 + s = (st : Int)) (hs0 : 0 ≤ s) {E X : Nat} (hE : GrIs R (utS (T.length + 1)) E) (hX : ReIs R E (2 ^ st) X) : Calls Tryd.prog 26 #[.pointer (some ⟨p2, 0, none⟩)] w fun e w' => ∃ u, e = .returned u ∧ IlAt w' u (usTo E X (T.length + 1) O.length) ∧ Below w.heap.size w w' := by
  refine (refUseless_any h2 _ rfl h.few h.ok h.len st hs hs0 h.stl.2).mono fun e w' ⟨E', U, u, g1, g2, g3, g4, g5⟩ => ⟨u, g1, ?_, g5⟩
  have := gr_one g2 hE
  subst this
  rw [us_same g2 hX g3] at g4
  exact g4
end
end Go.Proofs.YtgmbkelmgolkpaaDoor
