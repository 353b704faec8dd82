/- Plain facts: a polynomial has no more roots than its degree; the generator's roots; a word that is encoded is a multiple of the generator. -/
import Derived.Test.YtdpkeffkpecmjaaRse
namespace Go.Proofs.Ytdpkeffkpecmjaa
open Go.RowKit
set_option linter.unusedVariables false

theorem bm_zero_or {a b : UInt8} (h : bm 29 a b = 0) : a = 0 ∨ b = 0 := by
  by_cases ha : a = 0
  · exact .inl ha
  by_cases hb : b = 0
  · exact .inr hb
  exact absurd h (bm_ne one_d ha hb)
theorem xor_zero_eq {a b : UInt8} (h : a ^^^ b = 0) : a = b := by
  have := congrArg (· ^^^ b) h
  simp only [UInt8.xor_assoc, UInt8.xor_self, UInt8.zero_xor] at this
  rw [xor_zero'] at this
  exact this
theorem eval_pole (x y : UInt8) : evalS 29 y [x, 1] = y ^^^ x := by
  show bm 29 (bm 29 0 y ^^^ 1) y ^^^ x = _
  rw [zero_bm, UInt8.zero_xor, one_bm]
theorem trim_none {l : List UInt8} (h : ∀ k, cf l k = 0) : trimS l = [] := by
  have := trim_ext (l := l) (m := []) (fun k => by rw [h k]; rfl)
  rw [this]; rfl
/-- A polynomial of n coefficients with n roots is nothing. -/
theorem roots_zero (xs : Nat → UInt8) : ∀ (n : Nat) (l : List UInt8), l.length ≤ n → (∀ i, i < n → evalS 29 (xs i) l = 0) → (∀ i j, i < j → j < n → xs i ≠ xs j) → ∀ k, cf l k = 0
  | 0, l, hl, _, _, k => cf_ge (by omega)
  | n + 1, l, hl, hr, hd, k => by
    obtain ⟨ht, hm⟩ := root_left one_d l (xs n)
    rw [if_pos (hr n (by omega))] at hm
    have hne : trimS [xs n, 1] ≠ [] := by rw [ht]; simp
    have hb := div_back one_d (p := l) hne
    rw [hm] at hb
    have hlen : (quoS 29 l [xs n, 1]).length ≤ n := by
      unfold quoS
      split
      · simp
      · rename_i h2
        rw [(divS_len 29 (trimS l) (trimS [xs n, 1])).2]
        rw [ht] at h2 ⊢
        simp only [List.length_cons, List.length_nil] at h2 ⊢
        have := trim_len l
        omega
    have hz := roots_zero xs n (quoS 29 l [xs n, 1]) hlen (fun i hi => by
      have he := congrArg (evalS 29 (xs i)) hb
      rw [eval_trim, eval_trim, eval_plus, eval_mul, eval_pole, hr i (by omega)] at he
      have h0 : evalS 29 (xs i) [] = 0 := rfl
      rw [h0, xor_zero'] at he
      rcases bm_zero_or he with h | h
      · exact h
      · exact absurd (xor_zero_eq h) (hd i n hi (by omega))) (fun i j h1 h2 => hd i j h1 (by omega))
    have hq : mulS 29 (quoS 29 l [xs n, 1]) [xs n, 1] = [] := by rw [mulS, if_pos (.inl (trim_none hz))]
    rw [hq] at hb
    exact trim_nil (hb.symm.trans rfl) k
/-- The roots of the generator. -/
theorem gen_root (f : Nat) (x : UInt8) : ∀ k, evalS 29 x (genTo f k) = 0 ↔ ∃ i, i < k ∧ x = pwI 29 2 ((f : Int) + (i : Int))
  | 0 => by
    have : evalS 29 x (genTo f 0) = 1 := by show bm 29 0 x ^^^ 1 = 1; rw [zero_bm, UInt8.zero_xor]
    rw [this]
    constructor
    · intro h; exact absurd h (by decide)
    · rintro ⟨i, hi, _⟩; omega
  | k + 1 => by
    rw [genTo, eval_mul, eval_pole]
    constructor
    · intro h
      rcases bm_zero_or h with h | h
      · obtain ⟨i, hi, he⟩ := (gen_root f x k).1 h
        exact ⟨i, by omega, he⟩
      · exact ⟨k, by omega, xor_zero_eq h⟩
    · rintro ⟨i, hi, he⟩
      by_cases hk : i = k
      · subst hk; rw [← he, UInt8.xor_self, bm_zero]
      · rw [(gen_root f x k).2 ⟨i, by omega, he⟩, zero_bm]
theorem pwI_apart {f i j : Nat} (h : i < j) (hj : j < 255) : pwI 29 2 ((f : Int) + (i : Int)) ≠ pwI 29 2 ((f : Int) + (j : Int)) := fun he => by
  unfold pwI at he
  have h1 := Int.emod_nonneg ((f : Int) + (i : Int)) (show (255 : Int) ≠ 0 by omega)
  have h2 := Int.emod_lt_of_pos ((f : Int) + (i : Int)) (show (0 : Int) < 255 by omega)
  have h3 := Int.emod_nonneg ((f : Int) + (j : Int)) (show (255 : Int) ≠ 0 by omega)
  have h4 := Int.emod_lt_of_pos ((f : Int) + (j : Int)) (show (0 : Int) < 255 by omega)
  have := pw_inj one_d (i := (((f : Int) + (i : Int)) % 255).toNat) (j := (((f : Int) + (j : Int)) % 255).toNat) (by omega) (by omega) he
  omega
theorem nodup_le : ∀ (l m : List UInt8), l.Nodup → (∀ x, x ∈ l → x ∈ m) → l.length ≤ m.length
  | [], _, _, _ => Nat.zero_le _
  | a :: t, m, hn, hs => by
    have ha := hs a (by simp)
    have hnd := List.nodup_cons.1 hn
    have := nodup_le t (m.erase a) hnd.2 (fun x hx => (List.mem_erase_of_ne (fun h => hnd.1 (by rw [← h]; exact hx))).2 (hs x (by simp [hx])))
    rw [List.length_erase_of_mem ha] at this
    have : 0 < m.length := List.length_pos_of_mem ha
    simp only [List.length_cons]; omega
theorem mem_roots (l : List UInt8) (y : UInt8) : ∀ k, k ≤ 256 → (y ∈ rootsTo 29 l k ↔ y.toNat < k ∧ evalS 29 y l = 0)
  | 0, _ => by simp [rootsTo]
  | k + 1, hk => by
    have ih := mem_roots l y k (by omega)
    have hy : y.toNat = k ↔ y = UInt8.ofNat k := ⟨fun h => UInt8.toNat.inj (by rw [of_nat_lt (by omega), h]), fun h => by rw [h, of_nat_lt (by omega)]⟩
    rw [rootsTo]
    split
    · rename_i h0
      rw [List.mem_append, ih, List.mem_singleton, ← hy]
      constructor
      · rintro (⟨h1, h2⟩ | h)
        · exact ⟨by omega, h2⟩
        · exact ⟨by omega, by rw [hy.1 h]; exact h0⟩
      · rintro ⟨h1, h2⟩
        by_cases he : y.toNat = k
        · exact .inr he
        · exact .inl ⟨by omega, h2⟩
    · rename_i h0
      rw [ih]
      constructor
      · rintro ⟨h1, h2⟩; exact ⟨by omega, h2⟩
      · rintro ⟨h1, h2⟩
        refine ⟨?_, h2⟩
        by_cases he : y.toNat = k
        · rw [hy.1 he] at h2; exact absurd h2 h0
        · omega
theorem nodup_roots (l : List UInt8) : ∀ k, k ≤ 256 → (rootsTo 29 l k).Nodup
  | 0, _ => by simp [rootsTo]
  | k + 1, hk => by
    have ih := nodup_roots l k (by omega)
    rw [rootsTo]
    split
    · rw [List.nodup_append]
      refine ⟨ih, by simp, fun a ha b hb => ?_⟩
      have h1 := (mem_roots l a k (by omega)).1 ha
      rw [List.mem_singleton] at hb
      intro he
      rw [he, hb, of_nat_lt (by omega)] at h1
      omega
    · exact ih
/-- The generator has as many roots as its degree tells. -/
theorem roots_count (f p : Nat) (hp : p ≤ 254) : (rootsTo 29 (genTo f p) 256).length = p := by
  have hn : ((List.range p).map fun i => pwI 29 2 ((f : Int) + ((i : Nat) : Int))).Nodup := by
    rw [List.nodup_iff_pairwise_ne, List.pairwise_map]
    refine List.Pairwise.imp_of_mem ?_ (List.pairwise_lt_range (n := p))
    intro a b ha hb hab
    have := List.mem_range.1 hb
    exact pwI_apart hab (by omega)
  have h1 := nodup_le (rootsTo 29 (genTo f p) 256) ((List.range p).map fun i => pwI 29 2 ((f : Int) + ((i : Nat) : Int))) (nodup_roots _ _ (Nat.le_refl _)) (fun x hx => by
    obtain ⟨i, hi, he⟩ := (gen_root f x p).1 ((mem_roots _ x 256 (Nat.le_refl _)).1 hx).2
    exact List.mem_map.2 ⟨i, List.mem_range.2 hi, he.symm⟩)
  have h2 := nodup_le ((List.range p).map fun i => pwI 29 2 ((f : Int) + ((i : Nat) : Int))) (rootsTo 29 (genTo f p) 256) hn (fun x hx => by
    obtain ⟨i, hi, he⟩ := List.mem_map.1 hx
    exact (mem_roots _ x 256 (Nat.le_refl _)).2 ⟨x.toNat_lt, (gen_root f x p).2 ⟨i, List.mem_range.1 hi, he.symm⟩⟩)
  simp only [List.length_map, List.length_range] at h1 h2
  omega
theorem encS_length (f p : Nat) (data : List UInt8) : (encS f p data).length = data.length + p := encTo_length _ _ _ _
/-- What is encoded is the data and zeros, and what is left of these. -/
theorem enc_turned (f p : Nat) (data : List UInt8) (i : Nat) : cf (encS f p data).reverse i = cf (plusS (data ++ List.replicate p 0).reverse (encR f p data)) i := by
  rw [cf_plus]
  have hR := encR_len f p data
  by_cases hi : i < data.length + p
  · rw [cf_reverse _ _ (by rw [encS_length]; exact hi), cf_reverse _ _ (by simp; omega), encS_length]
    rw [show (data ++ List.replicate p (0 : UInt8)).length = data.length + p by simp]
    unfold encS encTo
    rw [cf_map, if_pos (by omega)]
    by_cases hj : data.length + p - 1 - i < data.length
    · rw [if_pos hj, cf_ge (l := encR f p data) (by omega), xor_zero']
      unfold cf
      rw [List.getD_eq_getElem?_getD, List.getD_eq_getElem?_getD, List.getElem?_append_left hj]
    · rw [if_neg hj, if_pos (by omega), show data.length + p - 1 - (data.length + p - 1 - i) = i by omega]
      have : cf (data ++ List.replicate p 0) (data.length + p - 1 - i) = 0 := by
        unfold cf
        rw [List.getD_eq_getElem?_getD, List.getElem?_append_right (by omega)]
        rw [List.getElem?_replicate]
        split <;> rfl
      rw [this, UInt8.zero_xor]
  · rw [cf_ge (by rw [List.length_reverse, encS_length]; omega), cf_ge (l := (data ++ List.replicate p (0 : UInt8)).reverse) (by rw [List.length_reverse, List.length_append, List.length_replicate]; omega), cf_ge (l := encR f p data) (by omega)]
    rfl
theorem enc_root (f p : Nat) (data : List UInt8) (x : UInt8) (hx : evalS 29 x (genTo f p) = 0) : evalS 29 x (encS f p data).reverse = 0 := by
  rw [eval_ext 29 x _ _ (enc_turned f p data), eval_plus]
  unfold encR
  rw [eval_back one_d (gen_ne f p) x hx, UInt8.xor_self]
theorem enc_syn (f p : Nat) (data : List UInt8) (i : Nat) (hi : i < p) : syn f (encS f p data) i = 0 := enc_root f p data _ ((gen_root f _ p).2 ⟨i, hi, rfl⟩)
/-- A word whose syndromes are nothing is a multiple of the generator. -/
theorem syn_mod (f p : Nat) (hp : p ≤ 254) (word : List UInt8) (h : ∀ i, i < p → syn f word i = 0) : modS 29 word.reverse (genTo f p) = [] := by
  have hs := mod_short one_d (p := word.reverse) (gen_ne f p)
  rw [gen_trim, (gen_ok f p).1] at hs
  have hz := roots_zero (fun i => pwI 29 2 ((f : Int) + (i : Int))) p (modS 29 word.reverse (genTo f p)) (by omega) (fun i hi => by
    show evalS 29 (pwI 29 2 ((f : Int) + (i : Int))) _ = 0
    rw [eval_back one_d (gen_ne f p) _ ((gen_root f _ p).2 ⟨i, hi, rfl⟩)]
    exact h i hi) (fun i j h1 h2 => pwI_apart h1 (by omega))
  have := trim_none hz
  rwa [trim_id (mod_tidy 29 _ _)] at this
theorem syns_all {f p : Nat} {word : List UInt8} : (syns f p word).all (· == 0) = true ↔ ∀ i, i < p → syn f word i = 0 := by
  rw [List.all_eq_true]
  constructor
  · intro h i hi
    have := h (syn f word i) (List.mem_map.2 ⟨i, List.mem_range.2 hi, rfl⟩)
    exact beq_iff_eq.1 this
  · intro h x hx
    obtain ⟨i, hi, rfl⟩ := List.mem_map.1 hx
    exact beq_iff_eq.2 (h i (List.mem_range.1 hi))
theorem enc_good (f p : Nat) (data : List UInt8) (h0 : 0 < data.length) (h : data.length + p ≤ 255) : goodS f p (encS f p data) = true := by
  unfold goodS
  rw [encS_length, decide_eq_true (by omega), decide_eq_true h, syns_all.2 (enc_syn f p data)]
  rfl
theorem enc_mod (f p : Nat) (hp : p ≤ 254) (data : List UInt8) : modS 29 (encS f p data).reverse (genTo f p) = [] := syn_mod f p hp _ (enc_syn f p data)
theorem enc_front (f p : Nat) (data : List UInt8) : (encS f p data).take data.length = data := cf_ext (by rw [List.length_take, encS_length]; omega) fun k hk => by
  have hk' : k < data.length := by rw [List.length_take] at hk; omega
  rw [cf_take, if_pos hk']
  unfold encS encTo
  rw [cf_map, if_pos (by omega), if_pos hk']
end Go.Proofs.Ytdpkeffkpecmjaa
