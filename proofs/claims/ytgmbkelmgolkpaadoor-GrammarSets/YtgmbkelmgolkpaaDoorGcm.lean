/- Plain facts: what can be nothing, begins and follows goes along the rules. -/
import Derived.Test.YtgmbkelmgolkpaaDoorGb
import Derived.Test.YtgmbkelmgolkpaaDoorGw
namespace Go.Proofs.YtgmbkelmgolkpaaDoor
open Go.RowKit
set_option linter.unusedVariables false

abbrev Ru := List (Nat × List Int)
theorem bit_or_left {A B : Nat} (h : A ||| B = A) {i : Nat} (hi : B.testBit i = true) : A.testBit i = true := by
  rw [← h, Nat.testBit_or, hi, Bool.or_true]
/-- Passes only add. -/
theorem gp_step (R : Ru) (M : Nat) (k : Nat) : gpTo R M k ≤ gpTo R M (k + 1) := by
  rw [gpTo]; split
  · exact Nat.left_le_or
  · exact Nat.le_refl _
theorem gp_mono (R : Ru) (M : Nat) : ∀ d k, gpTo R M k ≤ gpTo R M (k + d)
  | 0, k => Nat.le_refl _
  | d + 1, k => Nat.le_trans (gp_mono R M d k) (gp_step R M (k + d))
theorem gp_still {R : Ru} {X : Nat} (h : gpS R X = X) {k : Nat} (hk : k ≤ R.length) : gpTo R X k = X := by
  have h1 := gp_ge R X k
  have h2 := gp_mono R X (R.length - k) k
  rw [show k + (R.length - k) = R.length by omega] at h2
  have h3 : gpTo R X R.length = X := h
  omega
theorem gr_closed {R : Ru} {M X : Nat} (h : GrIs R M X) {k : Nat} (hk : k < R.length) (ha : (R.getD k (0, [])).2.all (fun x => X.testBit x.toNat) = true) : X.testBit (R.getD k (0, [])).1 = true := by
  obtain ⟨j, _, hs⟩ := h
  have h1 := gp_still hs (show k + 1 ≤ R.length by omega)
  rw [gpTo, gp_still hs (show k ≤ R.length by omega), if_pos ha] at h1
  exact bit_or_left h1 (by rw [Nat.testBit_two_pow]; simp)
theorem rp_step (R : Ru) (W M : Nat) (k : Nat) : rpTo R W M k ≤ rpTo R W M (k + 1) := by
  rw [rpTo]; split
  · exact Nat.left_le_or
  · exact Nat.le_refl _
theorem rp_mono (R : Ru) (W M : Nat) : ∀ d k, rpTo R W M k ≤ rpTo R W M (k + d)
  | 0, k => Nat.le_refl _
  | d + 1, k => Nat.le_trans (rp_mono R W M d k) (rp_step R W M (k + d))
theorem rp_still {R : Ru} {W X : Nat} (h : rpTo R W X R.length = X) {k : Nat} (hk : k ≤ R.length) : rpTo R W X k = X := by
  have h1 := rp_ge R W X k
  have h2 := rp_mono R W X (R.length - k) k
  rw [show k + (R.length - k) = R.length by omega] at h2
  omega
theorem re_closed {R : Ru} {W X : Nat} (h : rpTo R W X R.length = X) {k : Nat} (hk : k < R.length) (hl : X.testBit (R.getD k (0, [])).1 = true) (ha : (R.getD k (0, [])).2.all (fun x => W.testBit x.toNat) = true) : ∀ i, (riTo (R.getD k (0, [])).2 (R.getD k (0, [])).2.length).testBit i = true → X.testBit i = true := by
  have h1 := rp_still h (show k + 1 ≤ R.length by omega)
  rw [rpTo, rp_still h (show k ≤ R.length by omega), hl, ha, if_pos (show (true && true) = true from rfl)] at h1
  exact fun i hi => bit_or_left h1 hi
/-- What is reached within fewer is reached within more. -/
theorem re_sub {R : Ru} {W V X : Nat} (h : rpTo R V X R.length = X) (hWV : ∀ k, k < R.length → (R.getD k (0, [])).2.all (fun x => W.testBit x.toNat) = true → (R.getD k (0, [])).2.all (fun x => V.testBit x.toNat) = true) {M : Nat} (hM : ∀ i, M.testBit i = true → X.testBit i = true) : ∀ k, k ≤ R.length → ∀ i, (rpTo R W M k).testBit i = true → X.testBit i = true
  | 0, _, i, hi => hM i hi
  | k + 1, hk, i, hi => by
    have ih := re_sub h hWV hM k (by omega)
    rw [rpTo] at hi
    split at hi
    · rename_i hc
      rw [Bool.and_eq_true] at hc
      rw [Nat.testBit_or, Bool.or_eq_true] at hi
      rcases hi with hi | hi
      · exact ih i hi
      · exact re_closed h (by omega) (ih _ hc.1) (hWV k (by omega) hc.2) i hi
    · exact ih i hi
theorem re_subIt {R : Ru} {W V X : Nat} (h : rpTo R V X R.length = X) (hWV : ∀ k, k < R.length → (R.getD k (0, [])).2.all (fun x => W.testBit x.toNat) = true → (R.getD k (0, [])).2.all (fun x => V.testBit x.toNat) = true) {M : Nat} (hM : ∀ i, M.testBit i = true → X.testBit i = true) : ∀ j i, (rpIt R W M j).testBit i = true → X.testBit i = true
  | 0, i, hi => hM i hi
  | j + 1, i, hi => re_sub h hWV (re_subIt h hWV hM j) R.length (Nat.le_refl _) i hi
theorem rp_bits (R : Ru) (W M : Nat) {i : Nat} (hi : M.testBit i = true) : ∀ k, (rpTo R W M k).testBit i = true
  | 0 => hi
  | k + 1 => by
    rw [rpTo]; split
    · rw [Nat.testBit_or, rp_bits R W M hi k, Bool.true_or]
    · exact rp_bits R W M hi k
theorem rpIt_bits (R : Ru) (W M : Nat) {i : Nat} (hi : M.testBit i = true) : ∀ j, (rpIt R W M j).testBit i = true
  | 0 => hi
  | j + 1 => rp_bits R W _ (rpIt_bits R W M hi j) _
/-- What begins goes along the rules. -/
theorem bq_step (nul l : Nat) (r : List Int) (S : Nat → Nat) (x q : Nat) : bqTo nul l r S q x ≤ bqTo nul l r S (q + 1) x := by
  rw [bqTo]; split
  · by_cases h : x = l
    · rw [h, upd_same]; exact Nat.left_le_or
    · rw [upd_other h]; exact Nat.le_refl _
  · exact Nat.le_refl _
theorem bq_mono (nul l : Nat) (r : List Int) (S : Nat → Nat) (x : Nat) : ∀ d q, bqTo nul l r S q x ≤ bqTo nul l r S (q + d) x
  | 0, q => Nat.le_refl _
  | d + 1, q => Nat.le_trans (bq_mono nul l r S x d q) (bq_step nul l r S x (q + d))
theorem bp_mono (R : Ru) (nul : Nat) (S : Nat → Nat) (x : Nat) : ∀ d k, bpTo R nul S k x ≤ bpTo R nul S (k + d) x
  | 0, k => Nat.le_refl _
  | d + 1, k => Nat.le_trans (bp_mono R nul S x d k) (by
      show _ ≤ bqTo nul _ _ (bpTo R nul S (k + d)) _ x
      exact bq_ge _ _ _ _ x _)
theorem bp_still {R : Ru} {nul : Nat} {X : Nat → Nat} {x : Nat} (h : bpTo R nul X R.length x = X x) {k : Nat} (hk : k ≤ R.length) : bpTo R nul X k x = X x := by
  have h1 := bp_ge R nul X x k
  have h2 := bp_mono R nul X x (R.length - k) k
  rw [show k + (R.length - k) = R.length by omega] at h2
  omega
theorem bq_still {R : Ru} {nul : Nat} {X : Nat → Nat} {x : Nat} (h : bpTo R nul X R.length x = X x) {k : Nat} (hk : k < R.length) {q : Nat} (hq : q ≤ (R.getD k (0, [])).2.length) : bqTo nul (R.getD k (0, [])).1 (R.getD k (0, [])).2 (bpTo R nul X k) q x = X x := by
  have h1 := bq_ge nul (R.getD k (0, [])).1 (R.getD k (0, [])).2 (bpTo R nul X k) x q
  have h2 := bq_mono nul (R.getD k (0, [])).1 (R.getD k (0, [])).2 (bpTo R nul X k) x ((R.getD k (0, [])).2.length - q) q
  rw [show q + ((R.getD k (0, [])).2.length - q) = (R.getD k (0, [])).2.length by omega] at h2
  have h3 := bp_still h (show k ≤ R.length by omega)
  have h4 : bqTo nul (R.getD k (0, [])).1 (R.getD k (0, [])).2 (bpTo R nul X k) (R.getD k (0, [])).2.length x = X x := bp_still h (show k + 1 ≤ R.length by omega)
  omega
theorem bg_closed {R : Ru} {nul n : Nat} {X : Nat → Nat} (h : ∀ x, x < 128 → bpTo R nul X R.length x = X x) (hR : RuOk R n) (hn : n ≤ 128) {k : Nat} (hk : k < R.length) {q : Nat} (hq : q < (R.getD k (0, [])).2.length) (ha : ((R.getD k (0, [])).2.take q).all (fun x => nul.testBit x.toNat) = true) : ∀ i, (X ((R.getD k (0, [])).2.getD q 0).toNat).testBit i = true → (X (R.getD k (0, [])).1).testBit i = true := by
  have hl := (hR k hk).1
  obtain ⟨s, hs, hsn⟩ := (hR k hk).2.2 q hq
  have h1 := bq_still (h _ (show (R.getD k (0, [])).1 < 128 by omega)) hk (show q + 1 ≤ _ by omega)
  rw [bqTo, if_pos ha, upd_same, bq_still (h _ (show (R.getD k (0, [])).1 < 128 by omega)) hk (show q ≤ _ by omega), bq_still (h _ (show ((R.getD k (0, [])).2.getD q 0).toNat < 128 by rw [hs]; omega)) hk (show q ≤ _ by omega)] at h1
  exact fun i hi => bit_or_left h1 hi
theorem fi_sub {G : Gs} {L : Nat} {r : List Int} : ∀ {d : Nat}, d ≤ r.length → (∀ q, r.length - d ≤ q → q < r.length → (r.take q).all (fun x => G.nul.testBit x.toNat) = true → ∀ i, (G.bg (r.getD q 0).toNat).testBit i = true → L.testBit i = true) → (r.take (r.length - d)).all (fun x => G.nul.testBit x.toNat) = true → ∀ i, (fiS G (r.drop (r.length - d))).testBit i = true → L.testBit i = true
  | 0, _, h, ha, i, hi => by rw [Nat.sub_zero, List.drop_length] at hi; simp [fiS] at hi
  | d + 1, hd, h, ha, i, hi => by
    have hq : r.length - (d + 1) < r.length := by omega
    rw [drop_one hq] at hi
    rw [fiS, Nat.testBit_or, Bool.or_eq_true] at hi
    rcases hi with hi | hi
    · exact h _ (Nat.le_refl _) hq ha i hi
    · split at hi
      · rename_i hn
        rw [show r.length - (d + 1) + 1 = r.length - d by omega] at hi
        refine fi_sub (by omega) (fun q h1 h2 => h q (by omega) h2) ?_ i hi
        rw [show r.length - d = (r.length - (d + 1)) + 1 by omega, List.take_succ_eq_append_getElem hq, List.all_append, ha, Bool.true_and]
        have hg : r.getD (r.length - (d + 1)) 0 = r[r.length - (d + 1)] := by rw [List.getD_eq_getElem?_getD, List.getElem?_eq_getElem hq]; rfl
        rw [hg] at hn
        simp [hn]
      · simp at hi
/-- What follows goes along the rules. -/
theorem fq_bits {T nul : Nat} {bg S : Nat → Nat} {nx x i : Nat} (h : (S x).testBit i = true) : ∀ r, ((fqL T nul bg S nx r).1 x).testBit i = true
  | [] => h
  | s :: r => by
    rw [fqL]
    have ih := fq_bits (T := T) (nul := nul) (bg := bg) (nx := nx) h r
    show ((if T ≤ s.toNat then upd (fqL T nul bg S nx r).1 s.toNat ((fqL T nul bg S nx r).1 s.toNat ||| (fqL T nul bg S nx r).2) else (fqL T nul bg S nx r).1) x).testBit i = true
    split
    · by_cases hx : x = s.toNat
      · rw [hx, upd_same, Nat.testBit_or]; rw [hx] at ih; rw [ih, Bool.true_or]
      · rw [upd_other hx]; exact ih
    · exact ih
theorem fp_bits {R : Ru} {RE T nul : Nat} {bg S : Nat → Nat} {x i : Nat} (h : (S x).testBit i = true) : ∀ k, ((fpTo R RE T nul bg S k) x).testBit i = true
  | 0 => h
  | k + 1 => by
    rw [fpTo]; split
    · exact fq_bits (fp_bits h k) _
    · exact fp_bits h k
theorem fpIt_bits {R : Ru} {RE T nul : Nat} {bg S : Nat → Nat} {x i : Nat} (h : (S x).testBit i = true) : ∀ j, ((fpIt R RE T nul bg S j) x).testBit i = true
  | 0 => h
  | j + 1 => fp_bits (fpIt_bits h j) _
theorem fo_start {R : Ru} {n T st nul : Nat} {bg X : Nat → Nat} (h : FoIs R n T st nul bg X) : (X st).testBit (T - 1) = true := by
  obtain ⟨RE, j, _, hX, _⟩ := h
  rw [hX]
  exact fpIt_bits (by unfold foI; rw [upd_same, Nat.testBit_two_pow]; simp) j
theorem fp_mono (R : Ru) (RE T nul : Nat) (bg S : Nat → Nat) (x : Nat) : ∀ d k, fpTo R RE T nul bg S k x ≤ fpTo R RE T nul bg S (k + d) x
  | 0, k => Nat.le_refl _
  | d + 1, k => Nat.le_trans (fp_mono R RE T nul bg S x d k) (by
      show _ ≤ fpTo R RE T nul bg S (k + d + 1) x
      rw [fpTo]; split
      · exact fq_ge _ _ _ _ _ _ _
      · exact Nat.le_refl _)
theorem fp_still {R : Ru} {RE T nul : Nat} {bg X : Nat → Nat} {x : Nat} (h : fpTo R RE T nul bg X R.length x = X x) {k : Nat} (hk : k ≤ R.length) : fpTo R RE T nul bg X k x = X x := by
  have h1 := fp_ge R RE T nul bg X x k
  have h2 := fp_mono R RE T nul bg X x (R.length - k) k
  rw [show k + (R.length - k) = R.length by omega] at h2
  omega
theorem fq_grow (T nul : Nat) (bg S : Nat → Nat) (nx x : Nat) (s : Int) (r : List Int) : (fqL T nul bg S nx r).1 x ≤ (fqL T nul bg S nx (s :: r)).1 x := by
  show _ ≤ (if T ≤ s.toNat then upd (fqL T nul bg S nx r).1 s.toNat ((fqL T nul bg S nx r).1 s.toNat ||| (fqL T nul bg S nx r).2) else (fqL T nul bg S nx r).1) x
  split
  · by_cases hx : x = s.toNat
    · rw [hx, upd_same]; exact Nat.left_le_or
    · rw [upd_other hx]; exact Nat.le_refl _
  · exact Nat.le_refl _
theorem fq_drop (T nul : Nat) (bg S : Nat → Nat) (nx x : Nat) (r : List Int) : ∀ d, d ≤ r.length → (fqL T nul bg S nx (r.drop d)).1 x ≤ (fqL T nul bg S nx r).1 x
  | 0, _ => by rw [List.drop_zero]; exact Nat.le_refl _
  | d + 1, hd => by
    refine Nat.le_trans ?_ (fq_drop T nul bg S nx x r d (by omega))
    rw [drop_one (show d < r.length by omega)]
    exact fq_grow T nul bg S nx x _ _
theorem fq_next {G : Gs} {T : Nat} {S : Nat → Nat} {nx : Nat} : ∀ (r : List Int), (∀ i, (fiS G r).testBit i = true → (fqL T G.nul G.bg S nx r).2.testBit i = true) ∧ (r.all (fun x => G.nul.testBit x.toNat) = true → ∀ i, nx.testBit i = true → (fqL T G.nul G.bg S nx r).2.testBit i = true)
  | [] => ⟨fun i hi => by simp [fiS] at hi, fun _ i hi => hi⟩
  | s :: r => by
    obtain ⟨h1, h2⟩ := fq_next (G := G) (T := T) (S := S) (nx := nx) r
    constructor
    · intro i hi
      rw [fiS, Nat.testBit_or, Bool.or_eq_true] at hi
      show ((if G.nul.testBit s.toNat then (fqL T G.nul G.bg S nx r).2 else 0) ||| G.bg s.toNat).testBit i = true
      rw [Nat.testBit_or, Bool.or_eq_true]
      rcases hi with hi | hi
      · exact .inr hi
      · split at hi
        · rename_i hn; rw [if_pos hn]; exact .inl (h1 i hi)
        · simp at hi
    · intro ha i hi
      rw [List.all_cons, Bool.and_eq_true] at ha
      show ((if G.nul.testBit s.toNat then (fqL T G.nul G.bg S nx r).2 else 0) ||| G.bg s.toNat).testBit i = true
      rw [Nat.testBit_or, Bool.or_eq_true, if_pos ha.1]
      exact .inl (h2 ha.2 i hi)
theorem fo_closed {R : Ru} {RE T n : Nat} {G : Gs} {X : Nat → Nat} (h : ∀ x, x < 128 → fpTo R RE T G.nul G.bg X R.length x = X x) (hR : RuOk R n) (hn : n ≤ 128) {k : Nat} (hk : k < R.length) (hre : RE.testBit (R.getD k (0, [])).1 = true) {d : Nat} (hd : d < (R.getD k (0, [])).2.length) (hT : T ≤ ((R.getD k (0, [])).2.getD d 0).toNat) :
    (∀ i, (fiS G ((R.getD k (0, [])).2.drop (d + 1))).testBit i = true → (X ((R.getD k (0, [])).2.getD d 0).toNat).testBit i = true) ∧ (((R.getD k (0, [])).2.drop (d + 1)).all (fun x => G.nul.testBit x.toNat) = true → ∀ i, (X (R.getD k (0, [])).1).testBit i = true → (X ((R.getD k (0, [])).2.getD d 0).toNat).testBit i = true) := by
  have hl := (hR k hk).1
  obtain ⟨s, hs, hsn⟩ := (hR k hk).2.2 d hd
  have hs' : ((R.getD k (0, [])).2.getD d 0).toNat = s := by rw [hs]; rfl
  rw [hs'] at hT ⊢
  have e1 := fp_still (h s (by omega)) (show k + 1 ≤ R.length by omega)
  have e0 := fp_still (h s (by omega)) (show k ≤ R.length by omega)
  have el := fp_still (h _ (show (R.getD k (0, [])).1 < 128 by omega)) (show k ≤ R.length by omega)
  rw [fpTo, if_pos hre, el] at e1
  generalize fpTo R RE T G.nul G.bg X k = S at *
  generalize (R.getD k (0, [])).2 = r at *
  generalize X (R.getD k (0, [])).1 = nx at *
  have g1 := fq_drop T G.nul G.bg S nx s r d (by omega)
  rw [drop_one hd, hs] at g1
  have g0 := fq_ge T G.nul G.bg S nx s (r.drop (d + 1))
  have gq : (fqL T G.nul G.bg S nx ((s : Int) :: r.drop (d + 1))).1 s = (fqL T G.nul G.bg S nx (r.drop (d + 1))).1 s ||| (fqL T G.nul G.bg S nx (r.drop (d + 1))).2 := by
    show (if T ≤ (s : Int).toNat then upd (fqL T G.nul G.bg S nx (r.drop (d + 1))).1 (s : Int).toNat ((fqL T G.nul G.bg S nx (r.drop (d + 1))).1 (s : Int).toNat ||| (fqL T G.nul G.bg S nx (r.drop (d + 1))).2) else (fqL T G.nul G.bg S nx (r.drop (d + 1))).1) s = _
    rw [Int.toNat_natCast, if_pos hT, upd_same]
  have gle : (fqL T G.nul G.bg S nx (r.drop (d + 1))).1 s ≤ (fqL T G.nul G.bg S nx ((s : Int) :: r.drop (d + 1))).1 s := fq_grow _ _ _ _ _ _ _ _
  have h5 : (fqL T G.nul G.bg S nx (r.drop (d + 1))).1 s = X s := by omega
  have h6 : X s ||| (fqL T G.nul G.bg S nx (r.drop (d + 1))).2 = X s := by rw [← h5, ← gq]; omega
  obtain ⟨q1, q2⟩ := fq_next (G := G) (T := T) (S := S) (nx := nx) (r.drop (d + 1))
  exact ⟨fun i hi => bit_or_left h6 (q1 i hi), fun ha i hi => bit_or_left h6 (q2 ha i hi)⟩
/-- The numbers of a set's list. -/
theorem li_mem {M : Nat} : ∀ {k : Nat} {x : Int}, x ∈ liTo M k ↔ ∃ i : Nat, x = (i : Int) ∧ i < k ∧ M.testBit i = true
  | 0, x => by simp [liTo]
  | k + 1, x => by
    rw [liTo]
    split
    · rename_i h
      rw [List.mem_append, li_mem, List.mem_singleton]
      constructor
      · rintro (⟨i, h1, h2, h3⟩ | h1)
        · exact ⟨i, h1, by omega, h3⟩
        · exact ⟨k, h1, by omega, h⟩
      · rintro ⟨i, h1, h2, h3⟩
        by_cases hi : i = k
        · exact .inr (by rw [h1, hi])
        · exact .inl ⟨i, h1, by omega, h3⟩
    · rename_i h
      rw [li_mem]
      constructor
      · rintro ⟨i, h1, h2, h3⟩; exact ⟨i, h1, by omega, h3⟩
      · rintro ⟨i, h1, h2, h3⟩
        by_cases hi : i = k
        · rw [hi] at h3; exact absurd h3 h
        · exact ⟨i, h1, by omega, h3⟩
theorem sub_li {M N : Nat} (h : ∀ i, M.testBit i = true → N.testBit i = true) : subL (liTo M 128) (liTo N 128) = true := by
  rw [subL, List.all_eq_true]
  intro x hx
  obtain ⟨i, h1, h2, h3⟩ := li_mem.1 hx
  rw [List.contains_iff_mem]
  exact li_mem.2 ⟨i, h1, h2, h i h3⟩
theorem has_li {M i : Nat} (hi : i < 128) (h : M.testBit i = true) : (liTo M 128).contains (i : Int) = true := by
  rw [List.contains_iff_mem]
  exact li_mem.2 ⟨i, rfl, hi, h⟩
theorem us_not {E X T : Nat} : ∀ {k l : Nat}, T ≤ l → l < T + k → (usTo E X T k).contains (l : Int) = false → E.testBit l = true ∧ X.testBit l = true
  | 0, l, h1, h2, _ => by omega
  | k + 1, l, h1, h2, h => by
    rw [usTo] at h
    split at h
    · rename_i hc
      by_cases hl : l = T + k
      · rw [hl]; rw [Bool.and_eq_true] at hc; exact hc
      · exact us_not h1 (by omega) h
    · by_cases hl : l = T + k
      · rw [List.contains_eq_any_beq, List.any_append] at h
        simp [hl] at h
      · refine us_not (k := k) h1 (by omega) ?_
        cases hq : (usTo E X T k).contains (l : Int) with
        | false => rfl
        | true =>
          rw [List.contains_iff_mem] at hq
          have : (usTo E X T k ++ [((T + k : Nat) : Int)]).contains (l : Int) = true := by rw [List.contains_iff_mem]; exact List.mem_append_left _ hq
          rw [this] at h; cases h
end Go.Proofs.YtgmbkelmgolkpaaDoor
