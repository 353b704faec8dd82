/- Texts of one proof, one behind the other. -/
import Derived.Test.YtgmbkelmgolkpabDoorStc
import Derived.Test.YtgmbkelmgolkpabDoorUsl
import Derived.Test.YtgmbkelmgolkpabDoorGf
import Derived.Test.YtgmbkelmgolkpabDoorGnl
import Derived.Test.YtgmbkelmgolkpabDoorLhs
/- Plain facts: what can be nothing, begins and follows goes along the rules. -/
namespace Go.Proofs.YtgmbkelmgolkpabDoor
open Go.RowKit
set_option linter.unusedVariables false

abbrev Ru := List (Nat × List Int)
theorem bit_or_left {A B : Nat} (h : A ||| B = A) {i : Nat} (hi : B.testBit i = true) : A.testBit i = true := by
  rw [← h, Nat.testBit_or, hi, Bool.or_true]
/-- Passes only add. -/
theorem gp_step (R : Ru) (M : Nat) (k : Nat) : gpTo R M k ≤ gpTo R M (k + 1) := by
  rw [gpTo]; split
  · exact Nat.left_le_or
  · exact Nat.le_refl _
theorem gp_mono (R : Ru) (M : Nat) : ∀ d k, gpTo R M k ≤ gpTo R M (k + d)
  | 0, k => Nat.le_refl _
  | d + 1, k => Nat.le_trans (gp_mono R M d k) (gp_step R M (k + d))
theorem gp_still {R : Ru} {X : Nat} (h : gpS R X = X) {k : Nat} (hk : k ≤ R.length) : gpTo R X k = X := by
  have h1 := gp_ge R X k
  have h2 := gp_mono R X (R.length - k) k
  rw [show k + (R.length - k) = R.length by omega] at h2
  have h3 : gpTo R X R.length = X := h
  omega
theorem gr_closed {R : Ru} {M X : Nat} (h : GrIs R M X) {k : Nat} (hk : k < R.length) (ha : (R.getD k (0, [])).2.all (fun x => X.testBit x.toNat) = true) : X.testBit (R.getD k (0, [])).1 = true := by
  obtain ⟨j, _, hs⟩ := h
  have h1 := gp_still hs (show k + 1 ≤ R.length by omega)
  rw [gpTo, gp_still hs (show k ≤ R.length by omega), if_pos ha] at h1
  exact bit_or_left h1 (by rw [Nat.testBit_two_pow]; simp)
theorem rp_step (R : Ru) (W M : Nat) (k : Nat) : rpTo R W M k ≤ rpTo R W M (k + 1) := by
  rw [rpTo]; split
  · exact Nat.left_le_or
  · exact Nat.le_refl _
theorem rp_mono (R : Ru) (W M : Nat) : ∀ d k, rpTo R W M k ≤ rpTo R W M (k + d)
  | 0, k => Nat.le_refl _
  | d + 1, k => Nat.le_trans (rp_mono R W M d k) (rp_step R W M (k + d))
theorem rp_still {R : Ru} {W X : Nat} (h : rpTo R W X R.length = X) {k : Nat} (hk : k ≤ R.length) : rpTo R W X k = X := by
  have h1 := rp_ge R W X k
  have h2 := rp_mono R W X (R.length - k) k
  rw [show k + (R.length - k) = R.length by omega] at h2
  omega
theorem re_closed {R : Ru} {W X : Nat} (h : rpTo R W X R.length = X) {k : Nat} (hk : k < R.length) (hl : X.testBit (R.getD k (0, [])).1 = true) (ha : (R.getD k (0, [])).2.all (fun x => W.testBit x.toNat) = true) : ∀ i, (riTo (R.getD k (0, [])).2 (R.getD k (0, [])).2.length).testBit i = true → X.testBit i = true := by
  have h1 := rp_still h (show k + 1 ≤ R.length by omega)
  rw [rpTo, rp_still h (show k ≤ R.length by omega), hl, ha, if_pos (show (true && true) = true from rfl)] at h1
  exact fun i hi => bit_or_left h1 hi
/-- What is reached within fewer is reached within more. -/
theorem re_sub {R : Ru} {W V X : Nat} (h : rpTo R V X R.length = X) (hWV : ∀ k, k < R.length → (R.getD k (0, [])).2.all (fun x => W.testBit x.toNat) = true → (R.getD k (0, [])).2.all (fun x => V.testBit x.toNat) = true) {M : Nat} (hM : ∀ i, M.testBit i = true → X.testBit i = true) : ∀ k, k ≤ R.length → ∀ i, (rpTo R W M k).testBit i = true → X.testBit i = true
  | 0, _, i, hi => hM i hi
  | k + 1, hk, i, hi => by
    have ih := re_sub h hWV hM k (by omega)
    rw [rpTo] at hi
    split at hi
    · rename_i hc
      rw [Bool.and_eq_true] at hc
      rw [Nat.testBit_or, Bool.or_eq_true] at hi
      rcases hi with hi | hi
      · exact ih i hi
      · exact re_closed h (by omega) (ih _ hc.1) (hWV k (by omega) hc.2) i hi
    · exact ih i hi
theorem re_subIt {R : Ru} {W V X : Nat} (h : rpTo R V X R.length = X) (hWV : ∀ k, k < R.length → (R.getD k (0, [])).2.all (fun x => W.testBit x.toNat) = true → (R.getD k (0, [])).2.all (fun x => V.testBit x.toNat) = true) {M : Nat} (hM : ∀ i, M.testBit i = true → X.testBit i = true) : ∀ j i, (rpIt R W M j).testBit i = true → X.testBit i = true
  | 0, i, hi => hM i hi
  | j + 1, i, hi => re_sub h hWV (re_subIt h hWV hM j) R.length (Nat.le_refl _) i hi
theorem rp_bits (R : Ru) (W M : Nat) {i : Nat} (hi : M.testBit i = true) : ∀ k, (rpTo R W M k).testBit i = true
  | 0 => hi
  | k + 1 => by
    rw [rpTo]; split
    · rw [Nat.testBit_or, rp_bits R W M hi k, Bool.true_or]
    · exact rp_bits R W M hi k
theorem rpIt_bits (R : Ru) (W M : Nat) {i : Nat} (hi : M.testBit i = true) : ∀ j, (rpIt R W M j).testBit i = true
  | 0 => hi
  | j + 1 => rp_bits R W _ (rpIt_bits R W M hi j) _
/-- What begins goes along the rules. -/
theorem bq_step (nul l : Nat) (r : List Int) (S : Nat → Nat) (x q : Nat) : bqTo nul l r S q x ≤ bqTo nul l r S (q + 1) x := by
  rw [bqTo]; split
  · by_cases h : x = l
    · rw [h, upd_same]; exact Nat.left_le_or
    · rw [upd_other h]; exact Nat.le_refl _
  · exact Nat.le_refl _
theorem bq_mono (nul l : Nat) (r : List Int) (S : Nat → Nat) (x : Nat) : ∀ d q, bqTo nul l r S q x ≤ bqTo nul l r S (q + d) x
  | 0, q => Nat.le_refl _
  | d + 1, q => Nat.le_trans (bq_mono nul l r S x d q) (bq_step nul l r S x (q + d))
theorem bp_mono (R : Ru) (nul : Nat) (S : Nat → Nat) (x : Nat) : ∀ d k, bpTo R nul S k x ≤ bpTo R nul S (k + d) x
  | 0, k => Nat.le_refl _
  | d + 1, k => Nat.le_trans (bp_mono R nul S x d k) (by
      show _ ≤ bqTo nul _ _ (bpTo R nul S (k + d)) _ x
      exact bq_ge _ _ _ _ x _)
theorem bp_still {R : Ru} {nul : Nat} {X : Nat → Nat} {x : Nat} (h : bpTo R nul X R.length x = X x) {k : Nat} (hk : k ≤ R.length) : bpTo R nul X k x = X x := by
  have h1 := bp_ge R nul X x k
  have h2 := bp_mono R nul X x (R.length - k) k
  rw [show k + (R.length - k) = R.length by omega] at h2
  omega
theorem bq_still {R : Ru} {nul : Nat} {X : Nat → Nat} {x : Nat} (h : bpTo R nul X R.length x = X x) {k : Nat} (hk : k < R.length) {q : Nat} (hq : q ≤ (R.getD k (0, [])).2.length) : bqTo nul (R.getD k (0, [])).1 (R.getD k (0, [])).2 (bpTo R nul X k) q x = X x := by
  have h1 := bq_ge nul (R.getD k (0, [])).1 (R.getD k (0, [])).2 (bpTo R nul X k) x q
  have h2 := bq_mono nul (R.getD k (0, [])).1 (R.getD k (0, [])).2 (bpTo R nul X k) x ((R.getD k (0, [])).2.length - q) q
  rw [show q + ((R.getD k (0, [])).2.length - q) = (R.getD k (0, [])).2.length by omega] at h2
  have h3 := bp_still h (show k ≤ R.length by omega)
  have h4 : bqTo nul (R.getD k (0, [])).1 (R.getD k (0, [])).2 (bpTo R nul X k) (R.getD k (0, [])).2.length x = X x := bp_still h (show k + 1 ≤ R.length by omega)
  omega
theorem bg_closed {R : Ru} {nul n : Nat} {X : Nat → Nat} (h : ∀ x, x < 128 → bpTo R nul X R.length x = X x) (hR : RuOk R n) (hn : n ≤ 128) {k : Nat} (hk : k < R.length) {q : Nat} (hq : q < (R.getD k (0, [])).2.length) (ha : ((R.getD k (0, [])).2.take q).all (fun x => nul.testBit x.toNat) = true) : ∀ i, (X ((R.getD k (0, [])).2.getD q 0).toNat).testBit i = true → (X (R.getD k (0, [])).1).testBit i = true := by
  have hl := (hR k hk).1
  obtain ⟨s, hs, hsn⟩ := (hR k hk).2.2 q hq
  have h1 := bq_still (h _ (show (R.getD k (0, [])).1 < 128 by omega)) hk (show q + 1 ≤ _ by omega)
  rw [bqTo, if_pos ha, upd_same, bq_still (h _ (show (R.getD k (0, [])).1 < 128 by omega)) hk (show q ≤ _ by omega), bq_still (h _ (show ((R.getD k (0, [])).2.getD q 0).toNat < 128 by rw [hs]; omega)) hk (show q ≤ _ by omega)] at h1
  exact fun i hi => bit_or_left h1 hi
theorem fi_sub {G : Gs} {L : Nat} {r : List Int} : ∀ {d : Nat}, d ≤ r.length → (∀ q, r.length - d ≤ q → q < r.length → (r.take q).all (fun x => G.nul.testBit x.toNat) = true → ∀ i, (G.bg (r.getD q 0).toNat).testBit i = true → L.testBit i = true) → (r.take (r.length - d)).all (fun x => G.nul.testBit x.toNat) = true → ∀ i, (fiS G (r.drop (r.length - d))).testBit i = true → L.testBit i = true
  | 0, _, h, ha, i, hi => by rw [Nat.sub_zero, List.drop_length] at hi; simp [fiS] at hi
  | d + 1, hd, h, ha, i, hi => by
    have hq : r.length - (d + 1) < r.length := by omega
    rw [drop_one hq] at hi
    rw [fiS, Nat.testBit_or, Bool.or_eq_true] at hi
    rcases hi with hi | hi
    · exact h _ (Nat.le_refl _) hq ha i hi
    · split at hi
      · rename_i hn
        rw [show r.length - (d + 1) + 1 = r.length - d by omega] at hi
        refine fi_sub (by omega) (fun q h1 h2 => h q (by omega) h2) ?_ i hi
        rw [show r.length - d = (r.length - (d + 1)) + 1 by omega, List.take_succ_eq_append_getElem hq, List.all_append, ha, Bool.true_and]
        have hg : r.getD (r.length - (d + 1)) 0 = r[r.length - (d + 1)] := by rw [List.getD_eq_getElem?_getD, List.getElem?_eq_getElem hq]; rfl
        rw [hg] at hn
        simp [hn]
      · simp at hi
/-- What follows goes along the rules. -/
theorem fq_bits {T nul : Nat} {bg S : Nat → Nat} {nx x i : Nat} (h : (S x).testBit i = true) : ∀ r, ((fqL T nul bg S nx r).1 x).testBit i = true
  | [] => h
  | s :: r => by
    rw [fqL]
    have ih := fq_bits (T := T) (nul := nul) (bg := bg) (nx := nx) h r
    show ((if T ≤ s.toNat then upd (fqL T nul bg S nx r).1 s.toNat ((fqL T nul bg S nx r).1 s.toNat ||| (fqL T nul bg S nx r).2) else (fqL T nul bg S nx r).1) x).testBit i = true
    split
    · by_cases hx : x = s.toNat
      · rw [hx, upd_same, Nat.testBit_or]; rw [hx] at ih; rw [ih, Bool.true_or]
      · rw [upd_other hx]; exact ih
    · exact ih
theorem fp_bits {R : Ru} {RE T nul : Nat} {bg S : Nat → Nat} {x i : Nat} (h : (S x).testBit i = true) : ∀ k, ((fpTo R RE T nul bg S k) x).testBit i = true
  | 0 => h
  | k + 1 => by
    rw [fpTo]; split
    · exact fq_bits (fp_bits h k) _
    · exact fp_bits h k
theorem fpIt_bits {R : Ru} {RE T nul : Nat} {bg S : Nat → Nat} {x i : Nat} (h : (S x).testBit i = true) : ∀ j, ((fpIt R RE T nul bg S j) x).testBit i = true
  | 0 => h
  | j + 1 => fp_bits (fpIt_bits h j) _
theorem fo_start {R : Ru} {n T st nul : Nat} {bg X : Nat → Nat} (h : FoIs R n T st nul bg X) : (X st).testBit (T - 1) = true := by
  obtain ⟨RE, j, _, hX, _⟩ := h
  rw [hX]
  exact fpIt_bits (by unfold foI; rw [upd_same, Nat.testBit_two_pow]; simp) j
theorem fp_mono (R : Ru) (RE T nul : Nat) (bg S : Nat → Nat) (x : Nat) : ∀ d k, fpTo R RE T nul bg S k x ≤ fpTo R RE T nul bg S (k + d) x
  | 0, k => Nat.le_refl _
  | d + 1, k => Nat.le_trans (fp_mono R RE T nul bg S x d k) (by
      show _ ≤ fpTo R RE T nul bg S (k + d + 1) x
      rw [fpTo]; split
      · exact fq_ge _ _ _ _ _ _ _
      · exact Nat.le_refl _)
theorem fp_still {R : Ru} {RE T nul : Nat} {bg X : Nat → Nat} {x : Nat} (h : fpTo R RE T nul bg X R.length x = X x) {k : Nat} (hk : k ≤ R.length) : fpTo R RE T nul bg X k x = X x := by
  have h1 := fp_ge R RE T nul bg X x k
  have h2 := fp_mono R RE T nul bg X x (R.length - k) k
  rw [show k + (R.length - k) = R.length by omega] at h2
  omega
theorem fq_grow (T nul : Nat) (bg S : Nat → Nat) (nx x : Nat) (s : Int) (r : List Int) : (fqL T nul bg S nx r).1 x ≤ (fqL T nul bg S nx (s :: r)).1 x := by
  show _ ≤ (if T ≤ s.toNat then upd (fqL T nul bg S nx r).1 s.toNat ((fqL T nul bg S nx r).1 s.toNat ||| (fqL T nul bg S nx r).2) else (fqL T nul bg S nx r).1) x
  split
  · by_cases hx : x = s.toNat
    · rw [hx, upd_same]; exact Nat.left_le_or
    · rw [upd_other hx]; exact Nat.le_refl _
  · exact Nat.le_refl _
theorem fq_drop (T nul : Nat) (bg S : Nat → Nat) (nx x : Nat) (r : List Int) : ∀ d, d ≤ r.length → (fqL T nul bg S nx (r.drop d)).1 x ≤ (fqL T nul bg S nx r).1 x
  | 0, _ => by rw [List.drop_zero]; exact Nat.le_refl _
  | d + 1, hd => by
    refine Nat.le_trans ?_ (fq_drop T nul bg S nx x r d (by omega))
    rw [drop_one (show d < r.length by omega)]
    exact fq_grow T nul bg S nx x _ _
theorem fq_next {G : Gs} {T : Nat} {S : Nat → Nat} {nx : Nat} : ∀ (r : List Int), (∀ i, (fiS G r).testBit i = true → (fqL T G.nul G.bg S nx r).2.testBit i = true) ∧ (r.all (fun x => G.nul.testBit x.toNat) = true → ∀ i, nx.testBit i = true → (fqL T G.nul G.bg S nx r).2.testBit i = true)
  | [] => ⟨fun i hi => by simp [fiS] at hi, fun _ i hi => hi⟩
  | s :: r => by
    obtain ⟨h1, h2⟩ := fq_next (G := G) (T := T) (S := S) (nx := nx) r
    constructor
    · intro i hi
      rw [fiS, Nat.testBit_or, Bool.or_eq_true] at hi
      show ((if G.nul.testBit s.toNat then (fqL T G.nul G.bg S nx r).2 else 0) ||| G.bg s.toNat).testBit i = true
      rw [Nat.testBit_or, Bool.or_eq_true]
      rcases hi with hi | hi
      · exact .inr hi
      · split at hi
        · rename_i hn; rw [if_pos hn]; exact .inl (h1 i hi)
        · simp at hi
    · intro ha i hi
      rw [List.all_cons, Bool.and_eq_true] at ha
      show ((if G.nul.testBit s.toNat then (fqL T G.nul G.bg S nx r).2 else 0) ||| G.bg s.toNat).testBit i = true
      rw [Nat.testBit_or, Bool.or_eq_true, if_pos ha.1]
      exact .inl (h2 ha.2 i hi)
theorem fo_closed {R : Ru} {RE T n : Nat} {G : Gs} {X : Nat → Nat} (h : ∀ x, x < 128 → fpTo R RE T G.nul G.bg X R.length x = X x) (hR : RuOk R n) (hn : n ≤ 128) {k : Nat} (hk : k < R.length) (hre : RE.testBit (R.getD k (0, [])).1 = true) {d : Nat} (hd : d < (R.getD k (0, [])).2.length) (hT : T ≤ ((R.getD k (0, [])).2.getD d 0).toNat) :
    (∀ i, (fiS G ((R.getD k (0, [])).2.drop (d + 1))).testBit i = true → (X ((R.getD k (0, [])).2.getD d 0).toNat).testBit i = true) ∧ (((R.getD k (0, [])).2.drop (d + 1)).all (fun x => G.nul.testBit x.toNat) = true → ∀ i, (X (R.getD k (0, [])).1).testBit i = true → (X ((R.getD k (0, [])).2.getD d 0).toNat).testBit i = true) := by
  have hl := (hR k hk).1
  obtain ⟨s, hs, hsn⟩ := (hR k hk).2.2 d hd
  have hs' : ((R.getD k (0, [])).2.getD d 0).toNat = s := by rw [hs]; rfl
  rw [hs'] at hT ⊢
  have e1 := fp_still (h s (by omega)) (show k + 1 ≤ R.length by omega)
  have e0 := fp_still (h s (by omega)) (show k ≤ R.length by omega)
  have el := fp_still (h _ (show (R.getD k (0, [])).1 < 128 by omega)) (show k ≤ R.length by omega)
  rw [fpTo, if_pos hre, el] at e1
  generalize fpTo R RE T G.nul G.bg X k = S at *
  generalize (R.getD k (0, [])).2 = r at *
  generalize X (R.getD k (0, [])).1 = nx at *
  have g1 := fq_drop T G.nul G.bg S nx s r d (by omega)
  rw [drop_one hd, hs] at g1
  have g0 := fq_ge T G.nul G.bg S nx s (r.drop (d + 1))
  have gq : (fqL T G.nul G.bg S nx ((s : Int) :: r.drop (d + 1))).1 s = (fqL T G.nul G.bg S nx (r.drop (d + 1))).1 s ||| (fqL T G.nul G.bg S nx (r.drop (d + 1))).2 := by
    show (if T ≤ (s : Int).toNat then upd (fqL T G.nul G.bg S nx (r.drop (d + 1))).1 (s : Int).toNat ((fqL T G.nul G.bg S nx (r.drop (d + 1))).1 (s : Int).toNat ||| (fqL T G.nul G.bg S nx (r.drop (d + 1))).2) else (fqL T G.nul G.bg S nx (r.drop (d + 1))).1) s = _
    rw [Int.toNat_natCast, if_pos hT, upd_same]
  have gle : (fqL T G.nul G.bg S nx (r.drop (d + 1))).1 s ≤ (fqL T G.nul G.bg S nx ((s : Int) :: r.drop (d + 1))).1 s := fq_grow _ _ _ _ _ _ _ _
  have h5 : (fqL T G.nul G.bg S nx (r.drop (d + 1))).1 s = X s := by omega
  have h6 : X s ||| (fqL T G.nul G.bg S nx (r.drop (d + 1))).2 = X s := by rw [← h5, ← gq]; omega
  obtain ⟨q1, q2⟩ := fq_next (G := G) (T := T) (S := S) (nx := nx) (r.drop (d + 1))
  exact ⟨fun i hi => bit_or_left h6 (q1 i hi), fun ha i hi => bit_or_left h6 (q2 ha i hi)⟩
/-- The numbers of a set's list. -/
theorem li_mem {M : Nat} : ∀ {k : Nat} {x : Int}, x ∈ liTo M k ↔ ∃ i : Nat, x = (i : Int) ∧ i < k ∧ M.testBit i = true
  | 0, x => by simp [liTo]
  | k + 1, x => by
    rw [liTo]
    split
    · rename_i h
      rw [List.mem_append, li_mem, List.mem_singleton]
      constructor
      · rintro (⟨i, h1, h2, h3⟩ | h1)
        · exact ⟨i, h1, by omega, h3⟩
        · exact ⟨k, h1, by omega, h⟩
      · rintro ⟨i, h1, h2, h3⟩
        by_cases hi : i = k
        · exact .inr (by rw [h1, hi])
        · exact .inl ⟨i, h1, by omega, h3⟩
    · rename_i h
      rw [li_mem]
      constructor
      · rintro ⟨i, h1, h2, h3⟩; exact ⟨i, h1, by omega, h3⟩
      · rintro ⟨i, h1, h2, h3⟩
        by_cases hi : i = k
        · rw [hi] at h3; exact absurd h3 h
        · exact ⟨i, h1, by omega, h3⟩
theorem has_li {M i : Nat} (hi : i < 128) (h : M.testBit i = true) : (liTo M 128).contains (i : Int) = true := by
  rw [List.contains_iff_mem]
  exact li_mem.2 ⟨i, rfl, hi, h⟩
theorem us_not {E X T : Nat} : ∀ {k l : Nat}, T ≤ l → l < T + k → (usTo E X T k).contains (l : Int) = false → E.testBit l = true ∧ X.testBit l = true
  | 0, l, h1, h2, _ => by omega
  | k + 1, l, h1, h2, h => by
    rw [usTo] at h
    split at h
    · rename_i hc
      by_cases hl : l = T + k
      · rw [hl]; rw [Bool.and_eq_true] at hc; exact hc
      · exact us_not h1 (by omega) h
    · by_cases hl : l = T + k
      · rw [List.contains_eq_any_beq, List.any_append] at h
        simp [hl] at h
      · refine us_not (k := k) h1 (by omega) ?_
        cases hq : (usTo E X T k).contains (l : Int) with
        | false => rfl
        | true =>
          rw [List.contains_iff_mem] at hq
          have : (usTo E X T k ++ [((T + k : Nat) : Int)]).contains (l : Int) = true := by rw [List.contains_iff_mem]; exact List.mem_append_left _ hq
          rw [this] at h; cases h
end Go.Proofs.YtgmbkelmgolkpabDoor
/- Plain facts: the least texts are of terminals, empty just where nothing can be, and begin as is told. -/
namespace Go.Proofs.YtgmbkelmgolkpabDoor
open Go.RowKit
set_option linter.unusedVariables false

theorem cat_nil {F : Nat → Of} {l : List Int} : ∀ {m : Nat}, catTo F l m = [] → ∀ j, j < m → (F (l.getD j 0).toNat).t = []
  | 0, _, j, hj => absurd hj (by omega)
  | m + 1, h, j, hj => by
    rw [catTo, List.append_eq_nil_iff] at h
    by_cases hjm : j = m
    · rw [hjm]; exact h.2
    · exact cat_nil h.1 j (by omega)
theorem nil_cat {F : Nat → Of} {l : List Int} : ∀ {m : Nat}, (∀ j, j < m → (F (l.getD j 0).toNat).t = []) → catTo F l m = []
  | 0, _ => rfl
  | m + 1, h => by rw [catTo, nil_cat (fun j hj => h j (by omega)), h m (by omega)]; rfl
theorem cat_mem {F : Nat → Of} {l : List Int} {b : UInt8} : ∀ {m : Nat}, b ∈ catTo F l m → ∃ j, j < m ∧ b ∈ (F (l.getD j 0).toNat).t
  | 0, h => by cases h
  | m + 1, h => by
    rw [catTo, List.mem_append] at h
    rcases h with h | h
    · obtain ⟨j, h1, h2⟩ := cat_mem h; exact ⟨j, by omega, h2⟩
    · exact ⟨m, by omega, h⟩
theorem cat_head {F : Nat → Of} {l : List Int} {b : UInt8} : ∀ {m : Nat} {r : Tx}, catTo F l m = b :: r → ∃ q r', q < m ∧ (∀ j, j < q → (F (l.getD j 0).toNat).t = []) ∧ (F (l.getD q 0).toNat).t = b :: r'
  | 0, r, h => by cases h
  | m + 1, r, h => by
    rw [catTo] at h
    cases hc : catTo F l m with
    | nil =>
      rw [hc, List.nil_append] at h
      exact ⟨m, r, by omega, fun j hj => cat_nil hc j hj, h⟩
    | cons a r0 =>
      rw [hc, List.cons_append] at h
      obtain ⟨h1, h2⟩ := List.cons_eq_cons.1 h
      obtain ⟨q, r', e1, e2, e3⟩ := cat_head hc
      exact ⟨q, r', by omega, e2, by rw [← h1]; exact e3⟩
/-- A text that a symbol may have. -/
def TxG (Tt nul : Nat) (bg : Nat → Nat) (s : Nat) (t : Tx) : Prop := (∀ b ∈ t, b.toNat < Tt - 1) ∧ (t = [] → nul.testBit s = true) ∧ ∀ b r, t = b :: r → (bg s).testBit b.toNat = true
/-- The grammar, as the rounds want it. -/
structure Gy (R : Ru) (n Tt nul : Nat) (bg : Nat → Nat) : Prop where
  ok : RuOk R n
  few : n ≤ 128
  tn : 1 ≤ Tt ∧ Tt ≤ n
  left : ∀ k, k < R.length → Tt ≤ (R.getD k (0, [])).1
  right : ∀ k, k < R.length → ∀ j, j < (R.getD k (0, [])).2.length → (R.getD k (0, [])).2.getD j 0 ≠ ((Tt - 1 : Nat) : Int)
  gr : GrIs R 0 nul
  bs : ∀ x, x < 128 → bpTo R nul bg R.length x = bg x
  bt : ∀ x, x < Tt → (bg x).testBit x = true
structure Inv (R : Ru) (n Tt nul : Nat) (bg : Nat → Nat) (F : Nat → Of) (A : Nat → Bool) : Prop where
  len : ∀ s, s < n → (F s).t.length ≤ 1048576
  ter : ∀ s, s < Tt → F s = ⟨[UInt8.ofNat s], true, true⟩
  ok : ∀ s, Tt ≤ s → s < n → (F s).th = true → TxG Tt nul bg s (F s).t
  sth : ∀ s, s < n → (F s).se = true → (F s).th = true
  ask : ∀ k, k < R.length → A k = true → (R.getD k (0, [])).2.all (fun x => (F x.toNat).se) = true ∧ ((∀ j, j < (R.getD k (0, [])).2.length → (F ((R.getD k (0, [])).2.getD j 0).toNat).t = []) → (F (R.getD k (0, [])).1).th = true ∧ (F (R.getD k (0, [])).1).t = [])
  ph : (∀ s, Tt ≤ s → s < n → (F s).se = true → (F s).t = []) ∨ ∀ s, s < n → nul.testBit s = true → (F s).se = true ∧ (F s).t = []
theorem all_get {l : List Int} {f : Int → Bool} (h : l.all f = true) {j : Nat} (hj : j < l.length) : f (l.getD j 0) = true := by
  rw [List.all_eq_true] at h
  exact h _ (by rw [List.getD_eq_getElem?_getD, List.getElem?_eq_getElem hj]; exact List.getElem_mem hj)
/-- The texts of a rule's right symbols, one behind the other, are one that its left symbol may have. -/
theorem cat_good {R : Ru} {n Tt nul : Nat} {bg : Nat → Nat} (G : Gy R n Tt nul bg) {F : Nat → Of} {A : Nat → Bool} (I : Inv R n Tt nul bg F A) {k : Nat} (hk : k < R.length) (ha : (R.getD k (0, [])).2.all (fun x => (F x.toNat).se) = true) : TxG Tt nul bg (R.getD k (0, [])).1 (catTo F (R.getD k (0, [])).2 (R.getD k (0, [])).2.length) := by
  have hpc : ∀ j, j < (R.getD k (0, [])).2.length → ∃ s : Nat, (R.getD k (0, [])).2.getD j 0 = (s : Int) ∧ s < n ∧ ((s < Tt - 1 ∧ (F s).t = [UInt8.ofNat s]) ∨ (Tt ≤ s ∧ TxG Tt nul bg s (F s).t)) := fun j hj => by
    obtain ⟨s, hs, hsn⟩ := (G.ok k hk).2.2 j hj
    refine ⟨s, hs, hsn, ?_⟩
    have hse := all_get ha hj
    rw [hs] at hse
    have hse : (F s).se = true := hse
    have hne := G.right k hk j hj
    rw [hs] at hne
    rcases Nat.lt_or_ge s Tt with h | h
    · exact .inl ⟨by omega, by rw [I.ter s h]⟩
    · exact .inr ⟨h, I.ok s h hsn (I.sth s hsn hse)⟩
  have hbyte : ∀ s : Nat, s < Tt - 1 → (UInt8.ofNat s).toNat = s := fun s hs => by
    have := G.tn; have := G.few
    rw [UInt8.toNat_ofNat']; omega
  have hnul : ∀ j, j < (R.getD k (0, [])).2.length → (F ((R.getD k (0, [])).2.getD j 0).toNat).t = [] → nul.testBit ((R.getD k (0, [])).2.getD j 0).toNat = true := fun j hj he => by
    obtain ⟨s, hs, hsn, h⟩ := hpc j hj
    rw [hs, Int.toNat_natCast] at he ⊢
    rcases h with ⟨_, h⟩ | ⟨_, h⟩
    · rw [h] at he; cases he
    · exact h.2.1 he
  refine ⟨fun b hb => ?_, fun he => ?_, fun b r he => ?_⟩
  · obtain ⟨j, hj, hbj⟩ := cat_mem hb
    obtain ⟨s, hs, hsn, h⟩ := hpc j hj
    rw [hs, Int.toNat_natCast] at hbj
    rcases h with ⟨h1, h⟩ | ⟨_, h⟩
    · rw [h, List.mem_singleton] at hbj; rw [hbj, hbyte s h1]; exact h1
    · exact h.1 b hbj
  · exact gr_closed G.gr hk (by
      rw [List.all_eq_true]
      intro x hx
      obtain ⟨j, hj, hxj⟩ := List.mem_iff_getElem.1 hx
      have := hnul j hj (cat_nil he j hj)
      rwa [List.getD_eq_getElem?_getD, List.getElem?_eq_getElem hj, Option.getD_some, hxj] at this)
  · obtain ⟨q, r', hq, hpre, hh⟩ := cat_head he
    have hb := bg_closed G.bs G.ok G.few hk hq (by
      rw [List.all_eq_true]
      intro x hx
      obtain ⟨j, hj, hxj⟩ := List.mem_iff_getElem.1 hx
      rw [List.length_take] at hj
      have := hnul j (by omega) (hpre j (by omega))
      rw [List.getElem_take] at hxj
      rwa [List.getD_eq_getElem?_getD, List.getElem?_eq_getElem (by omega), Option.getD_some, hxj] at this) b.toNat
    refine hb ?_
    obtain ⟨s, hs, hsn, h⟩ := hpc q hq
    rw [hs, Int.toNat_natCast] at hh ⊢
    rcases h with ⟨h1, h⟩ | ⟨_, h⟩
    · rw [h] at hh
      obtain ⟨h2, _⟩ := List.cons_eq_cons.1 hh
      rw [← h2, hbyte s h1]
      exact G.bt s (by omega)
    · exact h.2.2 b r' hh
theorem inv_zero {R : Ru} {n Tt nul : Nat} {bg : Nat → Nat} (G : Gy R n Tt nul bg) : Inv R n Tt nul bg (beO Tt) (fun _ => false) := by
  refine ⟨fun s _ => ?_, fun s hs => ?_, fun s h1 _ h => ?_, fun s _ h => ?_, fun k _ h => (by cases h), .inl fun s h1 _ h => ?_⟩
  · unfold beO; split <;> simp
  · unfold beO; rw [if_pos hs]
  · unfold beO at h; rw [if_neg (by omega)] at h; cases h
  · unfold beO at h ⊢
    split at h
    · rename_i hc; rw [if_pos hc]
    · cases h
  · unfold beO at h; rw [if_neg (by omega)] at h; cases h
theorem inv_ask {R : Ru} {n Tt nul : Nat} {bg : Nat → Nat} (G : Gy R n Tt nul bg) {F F' : Nat → Of} {A : Nat → Bool} (I : Inv R n Tt nul bg F A) {k : Nat} (hk : k < R.length) (ha : (R.getD k (0, [])).2.all (fun x => (F x.toNat).se) = true) (ho : OfIs F (R.getD k (0, [])).1 (catTo F (R.getD k (0, [])).2 (R.getD k (0, [])).2.length) F') : Inv R n Tt nul bg F' (updA A k) := by
  have hL := (G.ok k hk).1
  have hLT := G.left k hk
  have hse := ho.se
  have hnil : (∀ j, j < (R.getD k (0, [])).2.length → (F ((R.getD k (0, [])).2.getD j 0).toNat).t = []) → catTo F (R.getD k (0, [])).2 (R.getD k (0, [])).2.length = [] := nil_cat
  have hall : ∀ l : List Int, l.all (fun x => (F' x.toNat).se) = l.all (fun x => (F x.toNat).se) := fun l => by
    congr 1; funext x; exact hse _
  rcases ho with ⟨hbig, rfl⟩ | ⟨hsm, ⟨rfl, h1, h2⟩ | ⟨rfl, h1⟩⟩
  · refine { I with ask := fun j hj hA => ?_ }
    by_cases hjk : j = k
    · subst hjk
      refine ⟨ha, fun h => ?_⟩
      rw [hnil h] at hbig; simp at hbig
    · exact I.ask j hj (by unfold updA at hA; rwa [if_neg hjk] at hA)
  · refine { I with ask := fun j hj hA => ?_ }
    by_cases hjk : j = k
    · subst hjk
      refine ⟨ha, fun h => ⟨h1, ?_⟩⟩
      rw [hnil h] at h2
      exact List.length_eq_zero_iff.1 (Nat.le_zero.1 h2)
    · exact I.ask j hj (by unfold updA at hA; rwa [if_neg hjk] at hA)
  · have hgood := cat_good G I hk ha
    generalize hX : catTo F (R.getD k (0, [])).2 (R.getD k (0, [])).2.length = X at *
    generalize hLF : (R.getD k (0, [])).1 = L at *
    -- where the left symbol is settled and what is offered is empty, it was empty
    have hold : X = [] → (F L).se = true → (F L).t = [] := fun hx hs => by
      rcases I.ph with h | h
      · exact h L hLT hL hs
      · exact (h L hL (hgood.2.1 hx)).2
    have hback : ∀ y, y < n → (F y).se = true → (updO F L { F L with t := X, th := true } y).t = [] → (F y).t = [] := fun y hy hs ht => by
      by_cases hyL : y = L
      · subst hyL
        rw [updO_same] at ht
        exact hold ht hs
      · rwa [updO_other hyL] at ht
    have hstay : (F L).th = true → (F L).t = [] → X = [] := fun hth ht => by
      have := h1 hth
      rw [ht] at this
      exact List.length_eq_zero_iff.1 (Nat.le_zero.1 this)
    refine ⟨fun s hs => ?_, fun s hs => ?_, fun s e1 e2 e3 => ?_, fun s e1 e2 => ?_, fun j hj hA => ?_, ?_⟩
    · by_cases hsL : s = L
      · rw [hsL, updO_same]; exact hsm
      · rw [updO_other hsL]; exact I.len s hs
    · rw [updO_other (by omega)]; exact I.ter s hs
    · by_cases hsL : s = L
      · rw [hsL, updO_same]; exact hgood
      · rw [updO_other hsL] at e3 ⊢; exact I.ok s e1 e2 e3
    · by_cases hsL : s = L
      · rw [hsL, updO_same]
      · rw [updO_other hsL] at e2 ⊢; exact I.sth s e1 e2
    · rw [hall]
      by_cases hjk : j = k
      · subst hjk
        refine ⟨ha, fun h => ?_⟩
        have hX2 : X = [] := by
          rw [← hX]
          refine nil_cat fun q hq => ?_
          obtain ⟨y, hy, hyn⟩ := (G.ok j hk).2.2 q hq
          have h3 := h q hq
          have h4 := all_get ha hq
          rw [hy, Int.toNat_natCast] at h3 ⊢
          rw [hy] at h4
          exact hback y hyn h4 h3
        rw [hLF, updO_same]
        exact ⟨rfl, hX2⟩
      · obtain ⟨a1, a2⟩ := I.ask j hj (by unfold updA at hA; rwa [if_neg hjk] at hA)
        refine ⟨a1, fun h => ?_⟩
        obtain ⟨b1, b2⟩ := a2 fun q hq => by
          obtain ⟨y, hy, hyn⟩ := (G.ok j hj).2.2 q hq
          have h3 := h q hq
          have h4 := all_get a1 hq
          rw [hy, Int.toNat_natCast] at h3 ⊢
          rw [hy] at h4
          exact hback y hyn h4 h3
        by_cases hjL : (R.getD j (0, [])).1 = L
        · rw [hjL] at b1 b2 ⊢
          rw [updO_same]
          exact ⟨rfl, hstay b1 b2⟩
        · rw [updO_other hjL]; exact ⟨b1, b2⟩
    · rcases I.ph with h | h
      · refine .inl fun s e1 e2 e3 => ?_
        by_cases hsL : s = L
        · rw [hsL, updO_same] at e3 ⊢
          exact hstay (I.sth L hL e3) (h L hLT hL e3)
        · rw [updO_other hsL] at e3 ⊢; exact h s e1 e2 e3
      · refine .inr fun s e1 e2 => ?_
        by_cases hsL : s = L
        · rw [hsL, updO_same]
          rw [hsL] at e2
          obtain ⟨q1, q2⟩ := h L hL e2
          exact ⟨q1, hstay (I.sth L hL q1) q2⟩
        · rw [updO_other hsL]; exact h s e1 e2
theorem inv_settle {R : Ru} {n Tt nul : Nat} {bg : Nat → Nat} (G : Gy R n Tt nul bg) {F : Nat → Of} {A : Nat → Bool} (I : Inv R n Tt nul bg F A) (hp : ∀ j, j < R.length → (R.getD j (0, [])).2.all (fun x => (F x.toNat).se) = true → A j = true) {s : Nat} (hlo : LoTo F n (s : Int)) : Inv R n Tt nul bg (updO F s { F s with se := true }) A := by
  obtain ⟨y, e0, hsn, hop, hmin⟩ : ∃ y : Nat, (s : Int) = (y : Int) ∧ y < n ∧ opn F y = true ∧ ∀ z, z < n → opn F z = true → (F y).t.length ≤ (F z).t.length := by
    rcases hlo with ⟨h, _⟩ | h
    · omega
    · exact h
  obtain rfl : s = y := by omega
  unfold opn at hop
  rw [Bool.and_eq_true] at hop
  have hth := hop.1
  have hse : (F s).se = false := by simpa using hop.2
  have hsT : Tt ≤ s := by
    rcases Nat.lt_or_ge s Tt with h | h
    · rw [I.ter s h] at hse; cases hse
    · exact h
  have htx : ∀ y, (updO F s { F s with se := true } y).t = (F y).t := fun y => by
    by_cases h : y = s
    · rw [h, updO_same]
    · rw [updO_other h]
  have hthx : ∀ y, (updO F s { F s with se := true } y).th = (F y).th := fun y => by
    by_cases h : y = s
    · rw [h, updO_same]
    · rw [updO_other h]
  have hsex : ∀ y, (F y).se = true → (updO F s { F s with se := true } y).se = true := fun y hy => by
    by_cases h : y = s
    · rw [h, updO_same]
    · rw [updO_other h]; exact hy
  refine ⟨fun y hy => by rw [htx]; exact I.len y hy, fun y hy => by rw [updO_other (by omega)]; exact I.ter y hy, fun y e1 e2 e3 => by rw [htx]; rw [hthx] at e3; exact I.ok y e1 e2 e3, fun y e1 e2 => ?_, fun k hk hA => ?_, ?_⟩
  · rw [hthx]
    by_cases h : y = s
    · rw [h]; exact hth
    · rw [updO_other h] at e2; exact I.sth y e1 e2
  · obtain ⟨a1, a2⟩ := I.ask k hk hA
    refine ⟨?_, fun h => ?_⟩
    · rw [List.all_eq_true] at a1 ⊢
      exact fun x hx => hsex _ (a1 x hx)
    · rw [htx, hthx]
      exact a2 fun j hj => by rw [← htx]; exact h j hj
  · by_cases he : (F s).t = []
    · rcases I.ph with h | h
      · refine .inl fun y e1 e2 e3 => ?_
        rw [htx]
        by_cases hy : y = s
        · rw [hy]; exact he
        · rw [updO_other hy] at e3; exact h y e1 e2 e3
      · exact .inr fun y e1 e2 => ⟨hsex y (h y e1 e2).1, by rw [htx]; exact (h y e1 e2).2⟩
    · -- all that can be nothing is settled
      have hstep : ∀ (M : Nat), (∀ y, M.testBit y = true → (F y).se = true ∧ (F y).t = []) → ∀ k, k ≤ R.length → ∀ y, (gpTo R M k).testBit y = true → (F y).se = true ∧ (F y).t = [] := fun M hM k => by
        induction k with
        | zero => exact fun _ y hy => hM y hy
        | succ k ih =>
          intro hk y hy
          have ihk := ih (by omega)
          rw [gpTo] at hy
          split at hy
          · rename_i hall
            rw [Nat.testBit_or, Bool.or_eq_true] at hy
            rcases hy with hy | hy
            · exact ihk y hy
            · rw [Nat.testBit_two_pow] at hy
              have hy : (R.getD k (0, [])).1 = y := by simpa using hy
              have hkl : k < R.length := by omega
              have hset : (R.getD k (0, [])).2.all (fun x => (F x.toNat).se) = true := by
                rw [List.all_eq_true] at hall ⊢
                exact fun x hx => (ihk _ (hall x hx)).1
              obtain ⟨_, a2⟩ := I.ask k hkl (hp k hkl hset)
              obtain ⟨b1, b2⟩ := a2 fun j hj => (ihk _ (all_get hall hj)).2
              rw [hy] at b1 b2
              refine ⟨?_, b2⟩
              cases hc : (F y).se with
              | true => rfl
              | false =>
                have hyn : y < n := by rw [← hy]; exact (G.ok k hkl).1
                have := hmin y hyn (by unfold opn; rw [b1, hc]; rfl)
                rw [b2] at this
                exact absurd (List.length_eq_zero_iff.1 (Nat.le_zero.1 this)) he
          · exact ihk y hy
      have hiter : ∀ j y, (gpIt R 0 j).testBit y = true → (F y).se = true ∧ (F y).t = [] := fun j => by
        induction j with
        | zero => intro y hy; simp [gpIt] at hy
        | succ j ih => exact hstep _ ih R.length (Nat.le_refl _)
      obtain ⟨j, hj, _⟩ := G.gr
      refine .inr fun y e1 e2 => ?_
      rw [hj] at e2
      obtain ⟨q1, q2⟩ := hiter j y e2
      exact ⟨hsex y q1, by rw [htx]; exact q2⟩
theorem rounds_of {R : Ru} {n Tt nul : Nat} {bg : Nat → Nat} (G : Gy R n Tt nul bg) : Rounds Tt n R (Inv R n Tt nul bg) (fun k F A => Inv R n Tt nul bg F A ∧ ∀ j, j < k → j < R.length → (R.getD j (0, [])).2.all (fun x => (F x.toNat).se) = true → A j = true) where
  zero := inv_zero G
  len := fun k F A h s hs => h.1.len s hs
  lenI := fun F A h s hs => h.len s hs
  start := fun F A h => ⟨h, fun j hj => absurd hj (by omega)⟩
  skip := fun k F A hk h hc => ⟨h.1, fun j hj hjl ha => by
    by_cases hjk : j = k
    · subst hjk
      rcases hc with hc | hc
      · exact hc
      · rw [hc] at ha; cases ha
    · exact h.2 j (by omega) hjl ha⟩
  ask := fun k F A F' hk h hA ha ho => ⟨inv_ask G h.1 hk ha ho, fun j hj hjl hs => by
    unfold updA
    by_cases hjk : j = k
    · rw [if_pos hjk]
    · rw [if_neg hjk]
      refine h.2 j (by omega) hjl ?_
      rw [← hs]
      congr 1; funext x; exact (ho.se _).symm⟩
  settle := fun F A s h hlo => inv_settle G h.1 (fun j hj ha => h.2 j hj hj ha) hlo
/-- What is told of a symbol that is settled. -/
theorem inv_told {R : Ru} {n Tt nul : Nat} {bg : Nat → Nat} {F : Nat → Of} {A : Nat → Bool} (I : Inv R n Tt nul bg F A) {s : Nat} (h1 : Tt ≤ s) (h2 : s < n) (h3 : (F s).se = true) : TxG Tt nul bg s (F s).t ∧ (nul.testBit s = true → (F s).t = []) :=
  ⟨I.ok s h1 h2 (I.sth s h2 h3), fun hn => by
    rcases I.ph with h | h
    · exact h s h1 h2 h3
    · exact (h s h2 hn).2⟩
end Go.Proofs.YtgmbkelmgolkpabDoor
/- What GrammarLasts asks, in words of the calls. -/
namespace Go.Proofs.YtgmbkelmgolkpabDoor
open Go.RowKit Go.Maps
set_option linter.unusedVariables false

theorem nu_ne (A : List Tx) (t : Nat) : ∀ k x c, nuTo A t k x = some c → c ≠ (t : Int)
  | 0, x, c, h => by cases h
  | k + 1, x, c, h => by
    rw [nuTo] at h
    split at h
    · exact nu_ne A t k x c h
    · rename_i hk
      have h : (if x = A.getD k [] then some (k : Int) else nuTo A t k x) = some c := h
      split at h
      · cases h; omega
      · exact nu_ne A t k x c h
theorem bq_bits {nul l : Nat} {r : List Int} {S : Nat → Nat} {x i : Nat} (h : (S x).testBit i = true) : ∀ q, (bqTo nul l r S q x).testBit i = true
  | 0 => h
  | q + 1 => by
    rw [bqTo]; split
    · by_cases hx : x = l
      · rw [hx, upd_same, Nat.testBit_or]; have := bq_bits (nul := nul) (l := l) (r := r) h q; rw [hx] at this; rw [this, Bool.true_or]
      · rw [upd_other hx]; exact bq_bits h q
    · exact bq_bits h q
theorem bp_bits {R : Ru} {nul : Nat} {S : Nat → Nat} {x i : Nat} (h : (S x).testBit i = true) : ∀ k, (bpTo R nul S k x).testBit i = true
  | 0 => h
  | k + 1 => bq_bits (bp_bits h k) _
theorem bpIt_bits {R : Ru} {nul : Nat} {S : Nat → Nat} {x i : Nat} (h : (S x).testBit i = true) : ∀ j, (bpIt R nul S j x).testBit i = true
  | 0 => h
  | j + 1 => bp_bits (bpIt_bits h j) _
theorem all_of_pr {x : Tx} (h : (prR x).2 = 0) : (parsL x).all (roF (nuF (teS (parsL x)) (otS (parsL x))) (teS (parsL x)).length) = true := by
  unfold prR at h
  split at h
  · cases h
  · split at h
    · split at h
      · rename_i he
        unfold prE newE at he
        split at he
        · split at he
          · rename_i hc
            rw [Bool.and_eq_true] at hc
            exact hc.1
          · cases he
        · cases he
      · rename_i he; exact absurd h he
    · cases h
theorem gy_of {w : World} {p : Nat} {x : Tx} (hE : (prR x).2 = 0) {st nul : Nat} {bg fo : Nat → Nat} (h : GfAt w p (teS (parsL x)) (otS (parsL x)) st ((parsL x).map (rnF (nuF (teS (parsL x)) (otS (parsL x))))) nul bg fo) : Gy ((parsL x).map (rnF (nuF (teS (parsL x)) (otS (parsL x))))) (allN (teS (parsL x)) (otS (parsL x))).length ((teS (parsL x)).length + 1) nul bg := by
  have hall := all_of_pr hE
  rw [List.all_eq_true] at hall
  have hlen := allN_len (teS (parsL x)) (otS (parsL x))
  obtain ⟨j, hj, hb⟩ := h.bs
  refine ⟨h.ok, h.few, ⟨by omega, by omega⟩, fun k hk => ?_, fun k hk q hq => ?_, h.gr, hb, fun y hy => ?_⟩
  · rw [List.length_map] at hk
    have h1 := hall ((parsL x)[k]) (List.getElem_mem hk)
    rw [List.getD_eq_getElem?_getD, List.getElem?_map, List.getElem?_eq_getElem hk]
    show _ ≤ (rnF _ _).1
    unfold roF at h1
    rw [Bool.and_eq_true, Bool.and_eq_true] at h1
    have h2 := of_decide_eq_true h1.1.2
    unfold rnF
    show _ ≤ (vaF _ _).toNat
    omega
  · rw [List.length_map] at hk
    have h1 := hall ((parsL x)[k]) (List.getElem_mem hk)
    have hRk : ((parsL x).map (rnF (nuF (teS (parsL x)) (otS (parsL x))))).getD k (0, []) = rnF (nuF (teS (parsL x)) (otS (parsL x))) (parsL x)[k] := by
      rw [List.getD_eq_getElem?_getD, List.getElem?_map, List.getElem?_eq_getElem hk]; rfl
    rw [hRk] at hq ⊢
    simp only [rnF, List.length_map] at hq ⊢
    unfold roF at h1
    rw [Bool.and_eq_true] at h1
    have h2 := h1.2
    rw [List.all_eq_true] at h2
    have h3 := h2 (((parsL x)[k].drop 1)[q]) (List.getElem_mem hq)
    rw [List.getD_eq_getElem?_getD, List.getElem?_map, List.getElem?_eq_getElem hq]
    simp only [Option.map_some, Option.getD_some, Nat.add_sub_cancel]
    cases hc : nuF (teS (parsL x)) (otS (parsL x)) ((parsL x)[k].drop 1)[q] with
    | none => rw [hc] at h3; cases h3
    | some c =>
      unfold vaF
      rw [hc, Option.getD_some]
      exact nu_ne _ _ _ _ _ hc
  · rw [hj]
    refine bpIt_bits ?_ j
    unfold biS
    rw [if_pos hy, Nat.testBit_two_pow]; simp
/-- What the calls answer of lists that need not be told. -/
def FiC (w : World) (p : Nat) (l A : List Int) : Prop := ∀ v w', Below w.heap.size w w' → IlAt w' v l → Calls Tryd.prog 14 #[.pointer (some ⟨p, 0, none⟩), v] w' fun e w'' => ∃ u, e = .returned u ∧ IlAt w'' u A ∧ Below w'.heap.size w' w''
def NuC (w : World) (p : Nat) (l : List Int) (b : Bool) : Prop := ∀ v w', Below w.heap.size w w' → IlAt w' v l → Calls Tryd.prog 12 #[.pointer (some ⟨p, 0, none⟩), v] w' fun e w'' => e = .returned (.bool b) ∧ Below w'.heap.size w' w''
def HsC (A : List Int) (x : Int) (b : Bool) : Prop := ∀ u w', IlAt w' u A → Calls Tryd.prog 13 #[u, .int .i64 x] w' fun e w'' => e = .returned (.bool b) ∧ Below w'.heap.size w' w''
/-- What is true of a symbol's least text. -/
def LtC (w : World) (p Tt : Nat) (s : Nat) (ok : Bool) (l : List Int) : Prop := l.length ≤ 1048576 ∧ (ok = false → l = []) ∧ (ok = true → (∀ j, j < l.length → 0 ≤ l.getD j 0 ∧ l.getD j 0 < (Tt : Int) - 1) ∧ NuC w p [(s : Int)] (decide (l = [])) ∧ ∃ B, FiC w p [(s : Int)] B ∧ (l ≠ [] → HsC B (l.getD 0 0) true))
theorem nb_get {t : Tx} {j : Nat} (hj : j < t.length) : (nbS t).getD j 0 = (t[j].toNat : Int) := by
  simp [nbS, List.getD, List.getElem?_map, List.getElem?_eq_getElem hj]
theorem least_told {w : World} {p : Nat} {x : Tx} (hE : (prR x).2 = 0) {st nul : Nat} {bg fo : Nat → Nat} (h : GfAt w p (teS (parsL x)) (otS (parsL x)) st ((parsL x).map (rnF (nuF (teS (parsL x)) (otS (parsL x))))) nul bg fo) (s : Nat) (hs0 : (teS (parsL x)).length + 1 ≤ s) (hs : s < (allN (teS (parsL x)) (otS (parsL x))).length) :
    Calls Tryd.prog 11 #[.pointer (some ⟨p, 0, none⟩), .int .i64 (s : Int)] w fun e w' => ∃ (ok : Bool) (l : List Int) (u : Value), e = .returned (.tuple #[u, .bool ok]) ∧ IlAt w' u l ∧ LtC w p ((teS (parsL x)).length + 1) s ok l ∧ Below w.heap.size w w' := by
  have G := gy_of hE h
  refine (least_any h _ _ (rounds_of G) s hs).mono fun e w' ⟨F, A, h1, h2, h3⟩ => ?_
  cases hse : (F s).se with
  | false => exact ⟨false, [], _, h1 hse, IlAt.nil _, ⟨by simp, fun _ => rfl, fun hc => by cases hc⟩, h3⟩
  | true =>
    obtain ⟨hi, u, e1, e2, e3⟩ := h2 hse
    obtain ⟨⟨t1, t2, t3⟩, t4⟩ := inv_told hi hs0 hs hse
    have hnl : ((nbS (F s).t) = []) ↔ (F s).t = [] := by simp [nbS]
    have hb0 : fiS (gsOf (teS (parsL x)) (otS (parsL x)) st nul bg fo) [(s : Int)] = bg s := by
      show bg _ ||| (if nul.testBit _ then 0 else 0) = _
      rw [ite_self, Nat.or_zero, Int.toNat_natCast]
    refine ⟨true, nbS (F s).t, u, e1, e2, ⟨by rw [nbS, List.length_map]; exact e3, (fun hc => by cases hc), fun _ => ⟨fun j hj => ?_, fun v w2 hb hv => ?_, liTo (bg s) 128, fun v w2 hb hv => ?_, fun hne u2 w2 hu => ?_⟩⟩, h3⟩
    · rw [nbS, List.length_map] at hj
      rw [nb_get hj]
      have := t1 ((F s).t[j]) (List.getElem_mem hj)
      exact ⟨by omega, by omega⟩
    · have hq := nullable_any [(s : Int)] (by rw [List.length_singleton]; omega) v w2 (h.gm.next hb) hv
      have hz : [(s : Int)].all (nulS (gsOf (teS (parsL x)) (otS (parsL x)) st nul bg fo)) = decide (nbS (F s).t = []) := by
        rw [List.all_cons, List.all_nil, Bool.and_true]
        unfold nulS hasS
        rw [decide_eq_true (show (0 : Int) ≤ (s : Int) by omega), decide_eq_true (show (s : Int) < (((gsOf (teS (parsL x)) (otS (parsL x)) st nul bg fo).n : Nat) : Int) by show (s : Int) < ((allN _ _).length : Int); omega)]
        show (true && true && nul.testBit (s : Int).toNat) = _
        rw [Int.toNat_natCast, Bool.and_self, Bool.true_and]
        cases hn : nul.testBit s with
        | true => exact (decide_eq_true (hnl.2 (t4 hn))).symm
        | false => exact (decide_eq_false (fun hc => by rw [t2 (hnl.1 hc)] at hn; cases hn)).symm
      rw [hz] at hq
      exact hq
    · have hq := first_any [(s : Int)] (by rw [List.length_singleton]; omega) (fun k hk => by
        have hk1 : k < 1 := hk
        obtain rfl : k = 0 := by omega
        show hasS _ (s : Int) = true
        unfold hasS
        rw [decide_eq_true (show (0 : Int) ≤ (s : Int) by omega), decide_eq_true (show (s : Int) < (((gsOf (teS (parsL x)) (otS (parsL x)) st nul bg fo).n : Nat) : Int) by show (s : Int) < ((allN _ _).length : Int); omega)]; rfl) v w2 (h.gm.next hb) hv
      rw [hb0] at hq
      exact hq
    · cases ht : (F s).t with
      | nil => exact absurd (hnl.2 ht) hne
      | cons b r =>
        have h5 := t3 b r ht
        have h6 := t1 b (by rw [ht]; exact List.mem_cons_self)
        have hq := lawHas_any (liTo (bg s) 128) (Nat.le_trans (liTo_len _ _) (by decide)) ((nbS (b :: r)).getD 0 0) u2 w2 hu
        have h7 : (nbS (b :: r)).getD 0 0 = ((b.toNat : Nat) : Int) := rfl
        rw [h7] at hq ⊢
        rw [has_li (by have := G.tn; have := G.few; omega) h5] at hq
        exact hq
theorem us_mem {E X T : Nat} : ∀ {k : Nat} {y : Int}, y ∈ usTo E X T k → ∃ j, j < k ∧ y = ((T + j : Nat) : Int)
  | 0, y, h => by cases h
  | k + 1, y, h => by
    rw [usTo] at h
    split at h
    · obtain ⟨j, h1, h2⟩ := us_mem h; exact ⟨j, by omega, h2⟩
    · rw [List.mem_append, List.mem_singleton] at h
      rcases h with h | h
      · obtain ⟨j, h1, h2⟩ := us_mem h; exact ⟨j, by omega, h2⟩
      · exact ⟨k, by omega, h⟩
theorem us_rise {E X T : Nat} : ∀ {k i : Nat}, i + 1 < (usTo E X T k).length → (usTo E X T k).getD i 0 < (usTo E X T k).getD (i + 1) 0
  | 0, i, h => by simp [usTo] at h
  | k + 1, i, h => by
    rw [usTo] at h ⊢
    split
    · rename_i hc; rw [if_pos hc] at h; exact us_rise h
    · rename_i hc
      rw [if_neg hc, List.length_append, List.length_singleton] at h
      by_cases hi : i + 1 < (usTo E X T k).length
      · rw [List.getD_eq_getElem?_getD, List.getElem?_append_left (by omega), ← List.getD_eq_getElem?_getD, List.getD_eq_getElem?_getD (i := i + 1), List.getElem?_append_left hi, ← List.getD_eq_getElem?_getD]
        exact us_rise hi
      · rw [List.getD_eq_getElem?_getD, List.getElem?_append_left (by omega), List.getD_eq_getElem?_getD (i := i + 1), List.getElem?_append_right (by omega), List.getElem?_eq_getElem (show i < _ by omega)]
        obtain ⟨j, h1, h2⟩ := us_mem (List.getElem_mem (show i < (usTo E X T k).length by omega))
        rw [show i + 1 - (usTo E X T k).length = 0 by omega]
        simp only [Option.getD_some, List.getElem?_cons_zero]
        omega
end Go.Proofs.YtgmbkelmgolkpabDoor
