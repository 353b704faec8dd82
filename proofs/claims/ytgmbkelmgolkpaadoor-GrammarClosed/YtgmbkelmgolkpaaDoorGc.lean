/- Texts of one proof, one behind the other. -/
import Derived.Test.YtgmbkelmgolkpaaDoorGb
import Derived.Test.YtgmbkelmgolkpaaDoorUsl
import Derived.Test.YtgmbkelmgolkpaaDoorGnl
import Derived.Test.YtgmbkelmgolkpaaDoorRul
/- Plain facts: what can be nothing, begins and follows goes along the rules. -/
namespace Go.Proofs.YtgmbkelmgolkpaaDoor
open Go.RowKit
set_option linter.unusedVariables false

abbrev Ru := List (Nat × List Int)
theorem bit_or_left {A B : Nat} (h : A ||| B = A) {i : Nat} (hi : B.testBit i = true) : A.testBit i = true := by
  rw [← h, Nat.testBit_or, hi, Bool.or_true]
/-- Passes only add. -/
theorem gp_step (R : Ru) (M : Nat) (k : Nat) : gpTo R M k ≤ gpTo R M (k + 1) := by
  rw [gpTo]; split
  · exact Nat.left_le_or
  · exact Nat.le_refl _
theorem gp_mono (R : Ru) (M : Nat) : ∀ d k, gpTo R M k ≤ gpTo R M (k + d)
  | 0, k => Nat.le_refl _
  | d + 1, k => Nat.le_trans (gp_mono R M d k) (gp_step R M (k + d))
theorem gp_still {R : Ru} {X : Nat} (h : gpS R X = X) {k : Nat} (hk : k ≤ R.length) : gpTo R X k = X := by
  have h1 := gp_ge R X k
  have h2 := gp_mono R X (R.length - k) k
  rw [show k + (R.length - k) = R.length by omega] at h2
  have h3 : gpTo R X R.length = X := h
  omega
theorem gr_closed {R : Ru} {M X : Nat} (h : GrIs R M X) {k : Nat} (hk : k < R.length) (ha : (R.getD k (0, [])).2.all (fun x => X.testBit x.toNat) = true) : X.testBit (R.getD k (0, [])).1 = true := by
  obtain ⟨j, _, hs⟩ := h
  have h1 := gp_still hs (show k + 1 ≤ R.length by omega)
  rw [gpTo, gp_still hs (show k ≤ R.length by omega), if_pos ha] at h1
  exact bit_or_left h1 (by rw [Nat.testBit_two_pow]; simp)
theorem rp_step (R : Ru) (W M : Nat) (k : Nat) : rpTo R W M k ≤ rpTo R W M (k + 1) := by
  rw [rpTo]; split
  · exact Nat.left_le_or
  · exact Nat.le_refl _
theorem rp_mono (R : Ru) (W M : Nat) : ∀ d k, rpTo R W M k ≤ rpTo R W M (k + d)
  | 0, k => Nat.le_refl _
  | d + 1, k => Nat.le_trans (rp_mono R W M d k) (rp_step R W M (k + d))
theorem rp_still {R : Ru} {W X : Nat} (h : rpTo R W X R.length = X) {k : Nat} (hk : k ≤ R.length) : rpTo R W X k = X := by
  have h1 := rp_ge R W X k
  have h2 := rp_mono R W X (R.length - k) k
  rw [show k + (R.length - k) = R.length by omega] at h2
  omega
theorem re_closed {R : Ru} {W X : Nat} (h : rpTo R W X R.length = X) {k : Nat} (hk : k < R.length) (hl : X.testBit (R.getD k (0, [])).1 = true) (ha : (R.getD k (0, [])).2.all (fun x => W.testBit x.toNat) = true) : ∀ i, (riTo (R.getD k (0, [])).2 (R.getD k (0, [])).2.length).testBit i = true → X.testBit i = true := by
  have h1 := rp_still h (show k + 1 ≤ R.length by omega)
  rw [rpTo, rp_still h (show k ≤ R.length by omega), hl, ha, if_pos (show (true && true) = true from rfl)] at h1
  exact fun i hi => bit_or_left h1 hi
/-- What is reached within fewer is reached within more. -/
theorem re_sub {R : Ru} {W V X : Nat} (h : rpTo R V X R.length = X) (hWV : ∀ k, k < R.length → (R.getD k (0, [])).2.all (fun x => W.testBit x.toNat) = true → (R.getD k (0, [])).2.all (fun x => V.testBit x.toNat) = true) {M : Nat} (hM : ∀ i, M.testBit i = true → X.testBit i = true) : ∀ k, k ≤ R.length → ∀ i, (rpTo R W M k).testBit i = true → X.testBit i = true
  | 0, _, i, hi => hM i hi
  | k + 1, hk, i, hi => by
    have ih := re_sub h hWV hM k (by omega)
    rw [rpTo] at hi
    split at hi
    · rename_i hc
      rw [Bool.and_eq_true] at hc
      rw [Nat.testBit_or, Bool.or_eq_true] at hi
      rcases hi with hi | hi
      · exact ih i hi
      · exact re_closed h (by omega) (ih _ hc.1) (hWV k (by omega) hc.2) i hi
    · exact ih i hi
theorem re_subIt {R : Ru} {W V X : Nat} (h : rpTo R V X R.length = X) (hWV : ∀ k, k < R.length → (R.getD k (0, [])).2.all (fun x => W.testBit x.toNat) = true → (R.getD k (0, [])).2.all (fun x => V.testBit x.toNat) = true) {M : Nat} (hM : ∀ i, M.testBit i = true → X.testBit i = true) : ∀ j i, (rpIt R W M j).testBit i = true → X.testBit i = true
  | 0, i, hi => hM i hi
  | j + 1, i, hi => re_sub h hWV (re_subIt h hWV hM j) R.length (Nat.le_refl _) i hi
theorem rp_bits (R : Ru) (W M : Nat) {i : Nat} (hi : M.testBit i = true) : ∀ k, (rpTo R W M k).testBit i = true
  | 0 => hi
  | k + 1 => by
    rw [rpTo]; split
    · rw [Nat.testBit_or, rp_bits R W M hi k, Bool.true_or]
    · exact rp_bits R W M hi k
theorem rpIt_bits (R : Ru) (W M : Nat) {i : Nat} (hi : M.testBit i = true) : ∀ j, (rpIt R W M j).testBit i = true
  | 0 => hi
  | j + 1 => rp_bits R W _ (rpIt_bits R W M hi j) _
/-- What begins goes along the rules. -/
theorem bq_step (nul l : Nat) (r : List Int) (S : Nat → Nat) (x q : Nat) : bqTo nul l r S q x ≤ bqTo nul l r S (q + 1) x := by
  rw [bqTo]; split
  · by_cases h : x = l
    · rw [h, upd_same]; exact Nat.left_le_or
    · rw [upd_other h]; exact Nat.le_refl _
  · exact Nat.le_refl _
theorem bq_mono (nul l : Nat) (r : List Int) (S : Nat → Nat) (x : Nat) : ∀ d q, bqTo nul l r S q x ≤ bqTo nul l r S (q + d) x
  | 0, q => Nat.le_refl _
  | d + 1, q => Nat.le_trans (bq_mono nul l r S x d q) (bq_step nul l r S x (q + d))
theorem bp_mono (R : Ru) (nul : Nat) (S : Nat → Nat) (x : Nat) : ∀ d k, bpTo R nul S k x ≤ bpTo R nul S (k + d) x
  | 0, k => Nat.le_refl _
  | d + 1, k => Nat.le_trans (bp_mono R nul S x d k) (by
      show _ ≤ bqTo nul _ _ (bpTo R nul S (k + d)) _ x
      exact bq_ge _ _ _ _ x _)
theorem bp_still {R : Ru} {nul : Nat} {X : Nat → Nat} {x : Nat} (h : bpTo R nul X R.length x = X x) {k : Nat} (hk : k ≤ R.length) : bpTo R nul X k x = X x := by
  have h1 := bp_ge R nul X x k
  have h2 := bp_mono R nul X x (R.length - k) k
  rw [show k + (R.length - k) = R.length by omega] at h2
  omega
theorem bq_still {R : Ru} {nul : Nat} {X : Nat → Nat} {x : Nat} (h : bpTo R nul X R.length x = X x) {k : Nat} (hk : k < R.length) {q : Nat} (hq : q ≤ (R.getD k (0, [])).2.length) : bqTo nul (R.getD k (0, [])).1 (R.getD k (0, [])).2 (bpTo R nul X k) q x = X x := by
  have h1 := bq_ge nul (R.getD k (0, [])).1 (R.getD k (0, [])).2 (bpTo R nul X k) x q
  have h2 := bq_mono nul (R.getD k (0, [])).1 (R.getD k (0, [])).2 (bpTo R nul X k) x ((R.getD k (0, [])).2.length - q) q
  rw [show q + ((R.getD k (0, [])).2.length - q) = (R.getD k (0, [])).2.length by omega] at h2
  have h3 := bp_still h (show k ≤ R.length by omega)
  have h4 : bqTo nul (R.getD k (0, [])).1 (R.getD k (0, [])).2 (bpTo R nul X k) (R.getD k (0, [])).2.length x = X x := bp_still h (show k + 1 ≤ R.length by omega)
  omega
theorem bg_closed {R : Ru} {nul n : Nat} {X : Nat → Nat} (h : ∀ x, x < 128 → bpTo R nul X R.length x = X x) (hR : RuOk R n) (hn : n ≤ 128) {k : Nat} (hk : k < R.length) {q : Nat} (hq : q < (R.getD k (0, [])).2.length) (ha : ((R.getD k (0, [])).2.take q).all (fun x => nul.testBit x.toNat) = true) : ∀ i, (X ((R.getD k (0, [])).2.getD q 0).toNat).testBit i = true → (X (R.getD k (0, [])).1).testBit i = true := by
  have hl := (hR k hk).1
  obtain ⟨s, hs, hsn⟩ := (hR k hk).2.2 q hq
  have h1 := bq_still (h _ (show (R.getD k (0, [])).1 < 128 by omega)) hk (show q + 1 ≤ _ by omega)
  rw [bqTo, if_pos ha, upd_same, bq_still (h _ (show (R.getD k (0, [])).1 < 128 by omega)) hk (show q ≤ _ by omega), bq_still (h _ (show ((R.getD k (0, [])).2.getD q 0).toNat < 128 by rw [hs]; omega)) hk (show q ≤ _ by omega)] at h1
  exact fun i hi => bit_or_left h1 hi
theorem fi_sub {G : Gs} {L : Nat} {r : List Int} : ∀ {d : Nat}, d ≤ r.length → (∀ q, r.length - d ≤ q → q < r.length → (r.take q).all (fun x => G.nul.testBit x.toNat) = true → ∀ i, (G.bg (r.getD q 0).toNat).testBit i = true → L.testBit i = true) → (r.take (r.length - d)).all (fun x => G.nul.testBit x.toNat) = true → ∀ i, (fiS G (r.drop (r.length - d))).testBit i = true → L.testBit i = true
  | 0, _, h, ha, i, hi => by rw [Nat.sub_zero, List.drop_length] at hi; simp [fiS] at hi
  | d + 1, hd, h, ha, i, hi => by
    have hq : r.length - (d + 1) < r.length := by omega
    rw [drop_one hq] at hi
    rw [fiS, Nat.testBit_or, Bool.or_eq_true] at hi
    rcases hi with hi | hi
    · exact h _ (Nat.le_refl _) hq ha i hi
    · split at hi
      · rename_i hn
        rw [show r.length - (d + 1) + 1 = r.length - d by omega] at hi
        refine fi_sub (by omega) (fun q h1 h2 => h q (by omega) h2) ?_ i hi
        rw [show r.length - d = (r.length - (d + 1)) + 1 by omega, List.take_succ_eq_append_getElem hq, List.all_append, ha, Bool.true_and]
        have hg : r.getD (r.length - (d + 1)) 0 = r[r.length - (d + 1)] := by rw [List.getD_eq_getElem?_getD, List.getElem?_eq_getElem hq]; rfl
        rw [hg] at hn
        simp [hn]
      · simp at hi
/-- What follows goes along the rules. -/
theorem fq_bits {T nul : Nat} {bg S : Nat → Nat} {nx x i : Nat} (h : (S x).testBit i = true) : ∀ r, ((fqL T nul bg S nx r).1 x).testBit i = true
  | [] => h
  | s :: r => by
    rw [fqL]
    have ih := fq_bits (T := T) (nul := nul) (bg := bg) (nx := nx) h r
    show ((if T ≤ s.toNat then upd (fqL T nul bg S nx r).1 s.toNat ((fqL T nul bg S nx r).1 s.toNat ||| (fqL T nul bg S nx r).2) else (fqL T nul bg S nx r).1) x).testBit i = true
    split
    · by_cases hx : x = s.toNat
      · rw [hx, upd_same, Nat.testBit_or]; rw [hx] at ih; rw [ih, Bool.true_or]
      · rw [upd_other hx]; exact ih
    · exact ih
theorem fp_bits {R : Ru} {RE T nul : Nat} {bg S : Nat → Nat} {x i : Nat} (h : (S x).testBit i = true) : ∀ k, ((fpTo R RE T nul bg S k) x).testBit i = true
  | 0 => h
  | k + 1 => by
    rw [fpTo]; split
    · exact fq_bits (fp_bits h k) _
    · exact fp_bits h k
theorem fpIt_bits {R : Ru} {RE T nul : Nat} {bg S : Nat → Nat} {x i : Nat} (h : (S x).testBit i = true) : ∀ j, ((fpIt R RE T nul bg S j) x).testBit i = true
  | 0 => h
  | j + 1 => fp_bits (fpIt_bits h j) _
theorem fo_start {R : Ru} {n T st nul : Nat} {bg X : Nat → Nat} (h : FoIs R n T st nul bg X) : (X st).testBit (T - 1) = true := by
  obtain ⟨RE, j, _, hX, _⟩ := h
  rw [hX]
  exact fpIt_bits (by unfold foI; rw [upd_same, Nat.testBit_two_pow]; simp) j
theorem fp_mono (R : Ru) (RE T nul : Nat) (bg S : Nat → Nat) (x : Nat) : ∀ d k, fpTo R RE T nul bg S k x ≤ fpTo R RE T nul bg S (k + d) x
  | 0, k => Nat.le_refl _
  | d + 1, k => Nat.le_trans (fp_mono R RE T nul bg S x d k) (by
      show _ ≤ fpTo R RE T nul bg S (k + d + 1) x
      rw [fpTo]; split
      · exact fq_ge _ _ _ _ _ _ _
      · exact Nat.le_refl _)
theorem fp_still {R : Ru} {RE T nul : Nat} {bg X : Nat → Nat} {x : Nat} (h : fpTo R RE T nul bg X R.length x = X x) {k : Nat} (hk : k ≤ R.length) : fpTo R RE T nul bg X k x = X x := by
  have h1 := fp_ge R RE T nul bg X x k
  have h2 := fp_mono R RE T nul bg X x (R.length - k) k
  rw [show k + (R.length - k) = R.length by omega] at h2
  omega
theorem fq_grow (T nul : Nat) (bg S : Nat → Nat) (nx x : Nat) (s : Int) (r : List Int) : (fqL T nul bg S nx r).1 x ≤ (fqL T nul bg S nx (s :: r)).1 x := by
  show _ ≤ (if T ≤ s.toNat then upd (fqL T nul bg S nx r).1 s.toNat ((fqL T nul bg S nx r).1 s.toNat ||| (fqL T nul bg S nx r).2) else (fqL T nul bg S nx r).1) x
  split
  · by_cases hx : x = s.toNat
    · rw [hx, upd_same]; exact Nat.left_le_or
    · rw [upd_other hx]; exact Nat.le_refl _
  · exact Nat.le_refl _
theorem fq_drop (T nul : Nat) (bg S : Nat → Nat) (nx x : Nat) (r : List Int) : ∀ d, d ≤ r.length → (fqL T nul bg S nx (r.drop d)).1 x ≤ (fqL T nul bg S nx r).1 x
  | 0, _ => by rw [List.drop_zero]; exact Nat.le_refl _
  | d + 1, hd => by
    refine Nat.le_trans ?_ (fq_drop T nul bg S nx x r d (by omega))
    rw [drop_one (show d < r.length by omega)]
    exact fq_grow T nul bg S nx x _ _
theorem fq_next {G : Gs} {T : Nat} {S : Nat → Nat} {nx : Nat} : ∀ (r : List Int), (∀ i, (fiS G r).testBit i = true → (fqL T G.nul G.bg S nx r).2.testBit i = true) ∧ (r.all (fun x => G.nul.testBit x.toNat) = true → ∀ i, nx.testBit i = true → (fqL T G.nul G.bg S nx r).2.testBit i = true)
  | [] => ⟨fun i hi => by simp [fiS] at hi, fun _ i hi => hi⟩
  | s :: r => by
    obtain ⟨h1, h2⟩ := fq_next (G := G) (T := T) (S := S) (nx := nx) r
    constructor
    · intro i hi
      rw [fiS, Nat.testBit_or, Bool.or_eq_true] at hi
      show ((if G.nul.testBit s.toNat then (fqL T G.nul G.bg S nx r).2 else 0) ||| G.bg s.toNat).testBit i = true
      rw [Nat.testBit_or, Bool.or_eq_true]
      rcases hi with hi | hi
      · exact .inr hi
      · split at hi
        · rename_i hn; rw [if_pos hn]; exact .inl (h1 i hi)
        · simp at hi
    · intro ha i hi
      rw [List.all_cons, Bool.and_eq_true] at ha
      show ((if G.nul.testBit s.toNat then (fqL T G.nul G.bg S nx r).2 else 0) ||| G.bg s.toNat).testBit i = true
      rw [Nat.testBit_or, Bool.or_eq_true, if_pos ha.1]
      exact .inl (h2 ha.2 i hi)
theorem fo_closed {R : Ru} {RE T n : Nat} {G : Gs} {X : Nat → Nat} (h : ∀ x, x < 128 → fpTo R RE T G.nul G.bg X R.length x = X x) (hR : RuOk R n) (hn : n ≤ 128) {k : Nat} (hk : k < R.length) (hre : RE.testBit (R.getD k (0, [])).1 = true) {d : Nat} (hd : d < (R.getD k (0, [])).2.length) (hT : T ≤ ((R.getD k (0, [])).2.getD d 0).toNat) :
    (∀ i, (fiS G ((R.getD k (0, [])).2.drop (d + 1))).testBit i = true → (X ((R.getD k (0, [])).2.getD d 0).toNat).testBit i = true) ∧ (((R.getD k (0, [])).2.drop (d + 1)).all (fun x => G.nul.testBit x.toNat) = true → ∀ i, (X (R.getD k (0, [])).1).testBit i = true → (X ((R.getD k (0, [])).2.getD d 0).toNat).testBit i = true) := by
  have hl := (hR k hk).1
  obtain ⟨s, hs, hsn⟩ := (hR k hk).2.2 d hd
  have hs' : ((R.getD k (0, [])).2.getD d 0).toNat = s := by rw [hs]; rfl
  rw [hs'] at hT ⊢
  have e1 := fp_still (h s (by omega)) (show k + 1 ≤ R.length by omega)
  have e0 := fp_still (h s (by omega)) (show k ≤ R.length by omega)
  have el := fp_still (h _ (show (R.getD k (0, [])).1 < 128 by omega)) (show k ≤ R.length by omega)
  rw [fpTo, if_pos hre, el] at e1
  generalize fpTo R RE T G.nul G.bg X k = S at *
  generalize (R.getD k (0, [])).2 = r at *
  generalize X (R.getD k (0, [])).1 = nx at *
  have g1 := fq_drop T G.nul G.bg S nx s r d (by omega)
  rw [drop_one hd, hs] at g1
  have g0 := fq_ge T G.nul G.bg S nx s (r.drop (d + 1))
  have gq : (fqL T G.nul G.bg S nx ((s : Int) :: r.drop (d + 1))).1 s = (fqL T G.nul G.bg S nx (r.drop (d + 1))).1 s ||| (fqL T G.nul G.bg S nx (r.drop (d + 1))).2 := by
    show (if T ≤ (s : Int).toNat then upd (fqL T G.nul G.bg S nx (r.drop (d + 1))).1 (s : Int).toNat ((fqL T G.nul G.bg S nx (r.drop (d + 1))).1 (s : Int).toNat ||| (fqL T G.nul G.bg S nx (r.drop (d + 1))).2) else (fqL T G.nul G.bg S nx (r.drop (d + 1))).1) s = _
    rw [Int.toNat_natCast, if_pos hT, upd_same]
  have gle : (fqL T G.nul G.bg S nx (r.drop (d + 1))).1 s ≤ (fqL T G.nul G.bg S nx ((s : Int) :: r.drop (d + 1))).1 s := fq_grow _ _ _ _ _ _ _ _
  have h5 : (fqL T G.nul G.bg S nx (r.drop (d + 1))).1 s = X s := by omega
  have h6 : X s ||| (fqL T G.nul G.bg S nx (r.drop (d + 1))).2 = X s := by rw [← h5, ← gq]; omega
  obtain ⟨q1, q2⟩ := fq_next (G := G) (T := T) (S := S) (nx := nx) (r.drop (d + 1))
  exact ⟨fun i hi => bit_or_left h6 (q1 i hi), fun ha i hi => bit_or_left h6 (q2 ha i hi)⟩
/-- The numbers of a set's list. -/
theorem li_mem {M : Nat} : ∀ {k : Nat} {x : Int}, x ∈ liTo M k ↔ ∃ i : Nat, x = (i : Int) ∧ i < k ∧ M.testBit i = true
  | 0, x => by simp [liTo]
  | k + 1, x => by
    rw [liTo]
    split
    · rename_i h
      rw [List.mem_append, li_mem, List.mem_singleton]
      constructor
      · rintro (⟨i, h1, h2, h3⟩ | h1)
        · exact ⟨i, h1, by omega, h3⟩
        · exact ⟨k, h1, by omega, h⟩
      · rintro ⟨i, h1, h2, h3⟩
        by_cases hi : i = k
        · exact .inr (by rw [h1, hi])
        · exact .inl ⟨i, h1, by omega, h3⟩
    · rename_i h
      rw [li_mem]
      constructor
      · rintro ⟨i, h1, h2, h3⟩; exact ⟨i, h1, by omega, h3⟩
      · rintro ⟨i, h1, h2, h3⟩
        by_cases hi : i = k
        · rw [hi] at h3; exact absurd h3 h
        · exact ⟨i, h1, by omega, h3⟩
theorem sub_li {M N : Nat} (h : ∀ i, M.testBit i = true → N.testBit i = true) : subL (liTo M 128) (liTo N 128) = true := by
  rw [subL, List.all_eq_true]
  intro x hx
  obtain ⟨i, h1, h2, h3⟩ := li_mem.1 hx
  rw [List.contains_iff_mem]
  exact li_mem.2 ⟨i, h1, h2, h i h3⟩
theorem has_li {M i : Nat} (hi : i < 128) (h : M.testBit i = true) : (liTo M 128).contains (i : Int) = true := by
  rw [List.contains_iff_mem]
  exact li_mem.2 ⟨i, rfl, hi, h⟩
theorem us_not {E X T : Nat} : ∀ {k l : Nat}, T ≤ l → l < T + k → (usTo E X T k).contains (l : Int) = false → E.testBit l = true ∧ X.testBit l = true
  | 0, l, h1, h2, _ => by omega
  | k + 1, l, h1, h2, h => by
    rw [usTo] at h
    split at h
    · rename_i hc
      by_cases hl : l = T + k
      · rw [hl]; rw [Bool.and_eq_true] at hc; exact hc
      · exact us_not h1 (by omega) h
    · by_cases hl : l = T + k
      · rw [List.contains_eq_any_beq, List.any_append] at h
        simp [hl] at h
      · refine us_not (k := k) h1 (by omega) ?_
        cases hq : (usTo E X T k).contains (l : Int) with
        | false => rfl
        | true =>
          rw [List.contains_iff_mem] at hq
          have : (usTo E X T k ++ [((T + k : Nat) : Int)]).contains (l : Int) = true := by rw [List.contains_iff_mem]; exact List.mem_append_left _ hq
          rw [this] at h; cases h
end Go.Proofs.YtgmbkelmgolkpaaDoor
/- The law GrammarClosed: true of any text. -/
namespace Go.Proofs.YtgmbkelmgolkpaaDoor
open Go.RowKit Go.Maps
set_option linter.unusedVariables false

theorem GfAt.rules {w : World} {p : Nat} {T O : List Tx} {st : Nat} {R : List (Nat × List Int)} {nul : Nat} {bg fo : Nat → Nat} (h : GfAt w p T O st R nul bg fo) : Calls Tryd.prog 32 #[.pointer (some ⟨p, 0, none⟩)] w fun e w' => ∃ u, e = .returned u ∧ RuAt w' u R ∧ Below w.heap.size w w' := by
  obtain ⟨cs, h1, _, _, h2, h3, ⟨vr, h4, h5⟩, _⟩ := h.cs
  exact rules_any R _ h.ok (by have := h.len; omega) vr w h1.lt (by rw [h1.cell]; exact h4) h5
/-- A left side is no terminal. -/
theorem left_other {x : Tx} (h : (prR x).2 = 0) {k : Nat} (hk : k < ((parsL x).map (rnF (nuF (teS (parsL x)) (otS (parsL x))))).length) : (teS (parsL x)).length < (((parsL x).map (rnF (nuF (teS (parsL x)) (otS (parsL x))))).getD k (0, [])).1 := by
  rw [List.length_map] at hk
  have hall : (parsL x).all (roF (nuF (teS (parsL x)) (otS (parsL x))) (teS (parsL x)).length) = true := by
    unfold prR at h
    split at h
    · cases h
    · split at h
      · split at h
        · rename_i he
          unfold prE newE at he
          split at he
          · split at he
            · rename_i hc
              rw [Bool.and_eq_true] at hc
              exact hc.1
            · cases he
          · cases he
        · rename_i he; exact absurd h he
      · cases h
  rw [List.all_eq_true] at hall
  have h1 := hall ((parsL x)[k]) (List.getElem_mem hk)
  rw [List.getD_eq_getElem?_getD, List.getElem?_map, List.getElem?_eq_getElem hk]
  show _ < (rnF _ _).1
  unfold roF at h1
  rw [Bool.and_eq_true, Bool.and_eq_true] at h1
  have h2 := of_decide_eq_true h1.1.2
  unfold rnF
  show _ < (vaF _ _).toNat
  omega
structure Cl (w : World) (p : Nat) (R : List (Nat × List Int)) (G : Gs) (E X : Nat) (us : List Int) : Prop where
  gm : GmAt w p G
  us1 : us.length ≤ 128
  sn : G.s < G.n
  tn : G.t ≤ 128
  nn : ∀ k, k < R.length → (R.getD k (0, [])).2.all (nulS G) = true → [((R.getD k (0, [])).1 : Int)].all (nulS G) = true
  fi : ∀ k, k < R.length → subL (liTo (fiS G (R.getD k (0, [])).2) 128) (liTo (fiS G [((R.getD k (0, [])).1 : Int)]) 128) = true
  fo : ∀ k, k < R.length → us.contains ((R.getD k (0, [])).1 : Int) = false → ∀ d, d < (R.getD k (0, [])).2.length → (G.t : Int) ≤ ((R.getD k (0, [])).2.getD d 0) → subL (liTo (fiS G ((R.getD k (0, [])).2.drop (d + 1))) 128) (liTo (G.fo ((R.getD k (0, [])).2.getD d 0).toNat) 128) = true ∧ (((R.getD k (0, [])).2.drop (d + 1)).all (nulS G) = true → subL (liTo (G.fo (R.getD k (0, [])).1) 128) (liTo (G.fo ((R.getD k (0, [])).2.getD d 0).toNat) 128) = true)
  st : (liTo (G.fo G.s) 128).contains ((G.t : Int) - 1) = true
  hs : ∀ k, k < R.length → hasS G ((R.getD k (0, [])).1 : Int) = true ∧ (R.getD k (0, [])).2.length ≤ 1048576 ∧ ∀ j, j < (R.getD k (0, [])).2.length → hasS G ((R.getD k (0, [])).2.getD j 0) = true
theorem all_nul {G : Gs} {l : List Int} (h : l.all (nulS G) = true) : l.all (fun x => G.nul.testBit x.toNat) = true := by
  rw [List.all_eq_true] at h ⊢
  intro x hx
  have := h x hx
  unfold nulS at this
  rw [Bool.and_eq_true] at this
  exact this.2
theorem has_of {G : Gs} {s : Nat} (h : s < G.n) : hasS G (s : Int) = true := by
  unfold hasS
  rw [decide_eq_true (show (0 : Int) ≤ (s : Int) by omega), decide_eq_true (show (s : Int) < ((G.n : Nat) : Int) by omega)]; rfl
theorem cl_of {w : World} {p : Nat} {T O : List Tx} {st : Nat} {R : List (Nat × List Int)} {nul : Nat} {bg fo : Nat → Nat} (h : GfAt w p T O st R nul bg fo) (hl : ∀ k, k < R.length → T.length < (R.getD k (0, [])).1) {E X : Nat} (hX : ReIs R E (2 ^ st) X) : Cl w p R (gsOf T O st nul bg fo) E X (usTo E X (T.length + 1) O.length) := by
  have hn := h.few
  obtain ⟨RE, j, hre, hfe, hff⟩ := h.fs
  obtain ⟨jb, hbe, hbb⟩ := h.bs
  have hal := allN_len T O
  refine ⟨h.gm, Nat.le_trans (us_len _ _ _ _) (by omega), h.stl.2, (by show T.length + 1 ≤ 128; omega), ?_, ?_, ?_, ?_, ?_⟩
  · intro k hk ha
    have h1 := gr_closed h.gr hk (all_nul (G := gsOf T O st nul bg fo) ha)
    rw [List.all_cons, List.all_nil, Bool.and_true]
    unfold nulS
    rw [has_of (show (R.getD k (0, [])).1 < (gsOf T O st nul bg fo).n from (h.ok k hk).1), Bool.true_and, Int.toNat_natCast]
    exact h1
  · intro k hk
    refine sub_li fun i hi => ?_
    have h1 : fiS (gsOf T O st nul bg fo) [((R.getD k (0, [])).1 : Int)] = bg (R.getD k (0, [])).1 := by
      show bg _ ||| (if nul.testBit _ then 0 else 0) = _
      rw [ite_self, Nat.or_zero, Int.toNat_natCast]
    rw [h1]
    have h2 := fi_sub (G := gsOf T O st nul bg fo) (L := bg (R.getD k (0, [])).1) (r := (R.getD k (0, [])).2) (d := (R.getD k (0, [])).2.length) (Nat.le_refl _) (fun q _ hq ha i hi => bg_closed hbb h.ok hn hk hq ha i hi) (by rw [Nat.sub_self, List.take_zero]; rfl) i
    rw [Nat.sub_self, List.drop_zero] at h2
    exact h2 hi
  · intro k hk hu d hd ht
    have hll := (h.ok k hk).1
    have h1 := us_not (E := E) (X := X) (T := T.length + 1) (k := O.length) (l := (R.getD k (0, [])).1) (hl k hk) (by omega) hu
    have h2 : RE.testBit (R.getD k (0, [])).1 = true := by
      obtain ⟨j1, e1, e2⟩ := hX
      obtain ⟨j2, e3, e4⟩ := hre
      have h3 := h1.2
      rw [e1] at h3
      refine re_subIt e4 (fun q hq _ => ?_) (fun i hi => ?_) j1 _ h3
      · rw [List.all_eq_true]
        intro y hy
        obtain ⟨z, hz, he⟩ := List.mem_iff_getElem.1 hy
        obtain ⟨s, hs, hsn⟩ := (h.ok q hq).2.2 z hz
        rw [List.getD_eq_getElem?_getD, List.getElem?_eq_getElem hz, Option.getD_some, he] at hs
        rw [hs, Int.toNat_natCast, ut_bit, decide_eq_true hsn]
      · rw [e3]; exact rpIt_bits _ _ _ hi _
    have h4 := fo_closed (G := gsOf T O st nul bg fo) hff h.ok hn hk h2 hd (by
      have : ((T.length + 1 : Nat) : Int) ≤ (R.getD k (0, [])).2.getD d 0 := ht
      omega)
    exact ⟨sub_li h4.1, fun ha => sub_li (h4.2 (all_nul ha))⟩
  · have h1 := fo_start h.fs
    have h2 := h.stl
    show (liTo (fo st) 128).contains (((T.length + 1 : Nat) : Int) - 1) = true
    rw [show ((T.length + 1 : Nat) : Int) - 1 = ((T.length + 1 - 1 : Nat) : Int) by omega]
    exact has_li (by omega) h1
  · intro k hk
    refine ⟨has_of (h.ok k hk).1, (h.ok k hk).2.1, fun j hj => ?_⟩
    obtain ⟨s, hs, hsn⟩ := (h.ok k hk).2.2 j hj
    rw [hs]; exact has_of hsn
theorem Cl.next {w w' : World} {p : Nat} {R : List (Nat × List Int)} {G : Gs} {E X : Nat} {us : List Int} (h : Cl w p R G E X us) (hb : Below w.heap.size w w') : Cl w' p R G E X us := { h with gm := h.gm.next hb }
theorem sliceL43 (a : Option Addr) (len cap C : Nat) (hC : C ≤ len) (w : World) : (Instr.sliceAt 43 (.slice a len cap) (some (.int .i64 (C : Int))) none none).run Tryd.prog w = .ok (.slice (if cap = C then a else a.map (·.add C)) (len - C) (cap - C)) w := by
  have hu : Tryd.prog.underlying 43 = some (.slice (Tryd.prog.elem 43)) := by kernel_rfl
  have he : Tryd.prog.elem 43 = 3 := by kernel_rfl
  obtain ⟨i0, hin, _, hz1, _⟩ := info_parts Tryd.info3
  rw [run_sliceAt_slice w 43 _ _ _ _ hu, run_slice_l w 43 a len cap hu .i64 (C : Int) (by omega) (by omega), he, run_sizeOf w hin, Result.andThen_ok]
  simp only [sliced, Int.toNat_natCast]
  rw [show Tryd.prog.cellsOf 3 = 1 by kernel_rfl, Nat.mul_one]
/-- Numbers but the first ones. -/
theorem il_from {w0 : World} {a : Option Addr} {cap : Nat} {L : List Int} {n : Nat} (hb : IlAt w0 (.slice a n cap) L) (C : Nat) (hC : C ≤ n) : ∃ a2 c2, (∀ w, (Instr.sliceAt 43 (.slice a n cap) (some (.int .i64 (C : Int))) none none).run Tryd.prog w = .ok (.slice a2 (n - C) c2) w) ∧ IlAt w0 (.slice a2 (n - C) c2) (L.drop C) := by
  obtain ⟨a', cap', e, h1, h2, h3⟩ := hb
  cases e
  refine ⟨if cap = C then a else a.map (·.add C), cap - C, fun w => sliceL43 a _ cap C hC w, if cap = C then a else a.map (·.add C), cap - C, by rw [List.length_drop], by rw [List.length_drop]; omega, by omega, fun k hk => ?_⟩
  rw [List.length_drop] at hk
  obtain ⟨g, o, e1, e2, e3⟩ := h3 (C + k) (by omega)
  refine ⟨g, o + C, ?_, e2, ?_⟩
  · rw [if_neg (by omega), e1]; show some ((⟨g, o, none⟩ : Addr).add C) = _; rw [Addr.add_lit]
  · rw [List.getD_eq_getElem?_getD, List.getElem?_drop, ← List.getD_eq_getElem?_getD, ← e3, Nat.add_assoc]
theorem IlAt.at {w : World} {a : Option Addr} {n c : Nat} {l : List Int} (h : IlAt w (.slice a n c) l) : n ≤ c ∧ c ≤ 9223372036854775807 ∧ ∀ q, q < n → ∃ g o, a = some ⟨g, o, none⟩ ∧ g < w.heap.size ∧ w.cell? ⟨g, o + q, none⟩ = some (.int .i64 (l.getD q 0)) := by
  obtain ⟨a', c', e, h1, h2, h3⟩ := h
  cases e
  exact ⟨h1, h2, h3⟩
/-- What the calls answer of lists that need not be told. -/
def FiC (w : World) (p : Nat) (l A : List Int) : Prop := ∀ v w', Below w.heap.size w w' → IlAt w' v l → Calls Tryd.prog 21 #[.pointer (some ⟨p, 0, none⟩), v] w' fun e w'' => ∃ u, e = .returned u ∧ IlAt w'' u A ∧ Below w'.heap.size w' w''
def FoC (w : World) (p : Nat) (s : Int) (F : List Int) : Prop := ∀ w', Below w.heap.size w w' → Calls Tryd.prog 23 #[.pointer (some ⟨p, 0, none⟩), .int .i64 s] w' fun e w'' => ∃ u, e = .returned u ∧ IlAt w'' u F ∧ Below w'.heap.size w' w''
def NuC (w : World) (p : Nat) (l : List Int) (b : Bool) : Prop := ∀ v w', Below w.heap.size w w' → IlAt w' v l → Calls Tryd.prog 18 #[.pointer (some ⟨p, 0, none⟩), v] w' fun e w'' => e = .returned (.bool b) ∧ Below w'.heap.size w' w''
def WiC (A B : List Int) : Prop := ∀ u v w', IlAt w' u A → IlAt w' v B → Calls Tryd.prog 36 #[u, v] w' fun e w'' => e = .returned (.bool true) ∧ Below w'.heap.size w' w''
def HsC (A : List Int) (x : Int) (b : Bool) : Prop := ∀ u w', IlAt w' u A → Calls Tryd.prog 33 #[u, .int .i64 x] w' fun e w'' => e = .returned (.bool b) ∧ Below w'.heap.size w' w''
theorem wi_of {M N : Nat} (h : subL (liTo M 128) (liTo N 128) = true) : WiC (liTo M 128) (liTo N 128) := fun u v w' hu hv => by
  have := within_any (liTo M 128) (liTo N 128) (Nat.le_trans (liTo_len _ _) (by decide)) (Nat.le_trans (liTo_len _ _) (by decide)) u v w' hu hv
  rw [h] at this
  exact this
theorem Cl.start {w : World} {p : Nat} {R : List (Nat × List Int)} {G : Gs} {E X : Nat} {us : List Int} (h : Cl w p R G E X us) : ∃ F, FoC w p (G.s : Int) F ∧ HsC F ((G.t : Int) - 1) true := by
  refine ⟨_, fun w' hb => follow_any G.s h.sn w' (h.gm.next hb), fun u w' hu => ?_⟩
  have := lawHas_any _ (Nat.le_trans (liTo_len _ _) (by decide)) ((G.t : Int) - 1) u w' hu
  rw [h.st] at this
  exact this
theorem Cl.right {w : World} {p : Nat} {R : List (Nat × List Int)} {G : Gs} {E X : Nat} {us : List Int} (h : Cl w p R G E X us) {k : Nat} (hk : k < R.length) : ∃ A B nb, FiC w p (R.getD k (0, [])).2 A ∧ FiC w p [((R.getD k (0, [])).1 : Int)] B ∧ WiC A B ∧ NuC w p (R.getD k (0, [])).2 nb ∧ (nb = true → NuC w p [((R.getD k (0, [])).1 : Int)] true) := by
  obtain ⟨h1, h2, h3⟩ := h.hs k hk
  refine ⟨_, _, _, fun v w' hb hv => first_any _ (by omega) h3 v w' (h.gm.next hb) hv, fun v w' hb hv => first_any _ (by rw [List.length_singleton]; omega) (fun j hj => ?_) v w' (h.gm.next hb) hv, wi_of (h.fi k hk), fun v w' hb hv => nullable_any _ (by omega) v w' (h.gm.next hb) hv, fun hn v w' hb hv => ?_⟩
  · have hj1 : j < 1 := hj
    obtain rfl : j = 0 := by omega
    exact h1
  · have := nullable_any _ (by rw [List.length_singleton]; omega) v w' (h.gm.next hb) hv
    rw [h.nn k hk hn] at this
    exact this
theorem Cl.rest {w : World} {p : Nat} {R : List (Nat × List Int)} {G : Gs} {E X : Nat} {us : List Int} (h : Cl w p R G E X us) {k : Nat} (hk : k < R.length) (hu : us.contains ((R.getD k (0, [])).1 : Int) = false) {d : Nat} (hd : d < (R.getD k (0, [])).2.length) (ht : (G.t : Int) ≤ ((R.getD k (0, [])).2.getD d 0)) : ∃ C D F nd, FiC w p ((R.getD k (0, [])).2.drop (d + 1)) C ∧ FoC w p ((R.getD k (0, [])).2.getD d 0) D ∧ WiC C D ∧ NuC w p ((R.getD k (0, [])).2.drop (d + 1)) nd ∧ FoC w p ((R.getD k (0, [])).1 : Int) F ∧ (nd = true → WiC F D) := by
  obtain ⟨h1, h2, h3⟩ := h.hs k hk
  obtain ⟨q1, q2⟩ := h.fo k hk hu d hd ht
  obtain ⟨s, hs, hsn⟩ := has_nat (h3 d hd)
  obtain ⟨l, hl, hln⟩ := has_nat h1
  have hl' : (R.getD k (0, [])).1 = l := by omega
  refine ⟨_, _, _, _, fun v w' hb hv => first_any _ (by rw [List.length_drop]; omega) (fun j hj => ?_) v w' (h.gm.next hb) hv, ?_, wi_of q1, fun v w' hb hv => nullable_any _ (by rw [List.length_drop]; omega) v w' (h.gm.next hb) hv, ?_, fun hn => wi_of (q2 hn)⟩
  · rw [List.length_drop] at hj
    rw [List.getD_eq_getElem?_getD, List.getElem?_drop, ← List.getD_eq_getElem?_getD]
    exact h3 _ (by omega)
  · intro w' hb
    rw [hs, Int.toNat_natCast]
    exact follow_any s hsn w' (h.gm.next hb)
  · intro w' hb
    rw [hl']
    exact follow_any l hln w' (h.gm.next hb)
end Go.Proofs.YtgmbkelmgolkpaaDoor
