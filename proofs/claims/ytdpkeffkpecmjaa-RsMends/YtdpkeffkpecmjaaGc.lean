/- Texts of one proof, one behind the other. -/
import Derived.Test.YtdpkeffkpecmjaaRse
/- Plain facts: a polynomial has no more roots than its degree; the generator's roots; a word that is encoded is a multiple of the generator. -/
namespace Go.Proofs.Ytdpkeffkpecmjaa
open Go.RowKit
set_option linter.unusedVariables false

theorem bm_zero_or {a b : UInt8} (h : bm 29 a b = 0) : a = 0 ∨ b = 0 := by
  by_cases ha : a = 0
  · exact .inl ha
  by_cases hb : b = 0
  · exact .inr hb
  exact absurd h (bm_ne one_d ha hb)
theorem xor_zero_eq {a b : UInt8} (h : a ^^^ b = 0) : a = b := by
  have := congrArg (· ^^^ b) h
  simp only [UInt8.xor_assoc, UInt8.xor_self, UInt8.zero_xor] at this
  rw [xor_zero'] at this
  exact this
theorem eval_pole (x y : UInt8) : evalS 29 y [x, 1] = y ^^^ x := by
  show bm 29 (bm 29 0 y ^^^ 1) y ^^^ x = _
  rw [zero_bm, UInt8.zero_xor, one_bm]
theorem trim_none {l : List UInt8} (h : ∀ k, cf l k = 0) : trimS l = [] := by
  have := trim_ext (l := l) (m := []) (fun k => by rw [h k]; rfl)
  rw [this]; rfl
/-- A polynomial of n coefficients with n roots is nothing. -/
theorem roots_zero (xs : Nat → UInt8) : ∀ (n : Nat) (l : List UInt8), l.length ≤ n → (∀ i, i < n → evalS 29 (xs i) l = 0) → (∀ i j, i < j → j < n → xs i ≠ xs j) → ∀ k, cf l k = 0
  | 0, l, hl, _, _, k => cf_ge (by omega)
  | n + 1, l, hl, hr, hd, k => by
    obtain ⟨ht, hm⟩ := root_left one_d l (xs n)
    rw [if_pos (hr n (by omega))] at hm
    have hne : trimS [xs n, 1] ≠ [] := by rw [ht]; simp
    have hb := div_back one_d (p := l) hne
    rw [hm] at hb
    have hlen : (quoS 29 l [xs n, 1]).length ≤ n := by
      unfold quoS
      split
      · simp
      · rename_i h2
        rw [(divS_len 29 (trimS l) (trimS [xs n, 1])).2]
        rw [ht] at h2 ⊢
        simp only [List.length_cons, List.length_nil] at h2 ⊢
        have := trim_len l
        omega
    have hz := roots_zero xs n (quoS 29 l [xs n, 1]) hlen (fun i hi => by
      have he := congrArg (evalS 29 (xs i)) hb
      rw [eval_trim, eval_trim, eval_plus, eval_mul, eval_pole, hr i (by omega)] at he
      have h0 : evalS 29 (xs i) [] = 0 := rfl
      rw [h0, xor_zero'] at he
      rcases bm_zero_or he with h | h
      · exact h
      · exact absurd (xor_zero_eq h) (hd i n hi (by omega))) (fun i j h1 h2 => hd i j h1 (by omega))
    have hq : mulS 29 (quoS 29 l [xs n, 1]) [xs n, 1] = [] := by rw [mulS, if_pos (.inl (trim_none hz))]
    rw [hq] at hb
    exact trim_nil (hb.symm.trans rfl) k
/-- The roots of the generator. -/
theorem gen_root (f : Nat) (x : UInt8) : ∀ k, evalS 29 x (genTo f k) = 0 ↔ ∃ i, i < k ∧ x = pwI 29 2 ((f : Int) + (i : Int))
  | 0 => by
    have : evalS 29 x (genTo f 0) = 1 := by show bm 29 0 x ^^^ 1 = 1; rw [zero_bm, UInt8.zero_xor]
    rw [this]
    constructor
    · intro h; exact absurd h (by decide)
    · rintro ⟨i, hi, _⟩; omega
  | k + 1 => by
    rw [genTo, eval_mul, eval_pole]
    constructor
    · intro h
      rcases bm_zero_or h with h | h
      · obtain ⟨i, hi, he⟩ := (gen_root f x k).1 h
        exact ⟨i, by omega, he⟩
      · exact ⟨k, by omega, xor_zero_eq h⟩
    · rintro ⟨i, hi, he⟩
      by_cases hk : i = k
      · subst hk; rw [← he, UInt8.xor_self, bm_zero]
      · rw [(gen_root f x k).2 ⟨i, by omega, he⟩, zero_bm]
theorem pwI_apart {f i j : Nat} (h : i < j) (hj : j < 255) : pwI 29 2 ((f : Int) + (i : Int)) ≠ pwI 29 2 ((f : Int) + (j : Int)) := fun he => by
  unfold pwI at he
  have h1 := Int.emod_nonneg ((f : Int) + (i : Int)) (show (255 : Int) ≠ 0 by omega)
  have h2 := Int.emod_lt_of_pos ((f : Int) + (i : Int)) (show (0 : Int) < 255 by omega)
  have h3 := Int.emod_nonneg ((f : Int) + (j : Int)) (show (255 : Int) ≠ 0 by omega)
  have h4 := Int.emod_lt_of_pos ((f : Int) + (j : Int)) (show (0 : Int) < 255 by omega)
  have := pw_inj one_d (i := (((f : Int) + (i : Int)) % 255).toNat) (j := (((f : Int) + (j : Int)) % 255).toNat) (by omega) (by omega) he
  omega
theorem nodup_le : ∀ (l m : List UInt8), l.Nodup → (∀ x, x ∈ l → x ∈ m) → l.length ≤ m.length
  | [], _, _, _ => Nat.zero_le _
  | a :: t, m, hn, hs => by
    have ha := hs a (by simp)
    have hnd := List.nodup_cons.1 hn
    have := nodup_le t (m.erase a) hnd.2 (fun x hx => (List.mem_erase_of_ne (fun h => hnd.1 (by rw [← h]; exact hx))).2 (hs x (by simp [hx])))
    rw [List.length_erase_of_mem ha] at this
    have : 0 < m.length := List.length_pos_of_mem ha
    simp only [List.length_cons]; omega
theorem mem_roots (l : List UInt8) (y : UInt8) : ∀ k, k ≤ 256 → (y ∈ rootsTo 29 l k ↔ y.toNat < k ∧ evalS 29 y l = 0)
  | 0, _ => by simp [rootsTo]
  | k + 1, hk => by
    have ih := mem_roots l y k (by omega)
    have hy : y.toNat = k ↔ y = UInt8.ofNat k := ⟨fun h => UInt8.toNat.inj (by rw [of_nat_lt (by omega), h]), fun h => by rw [h, of_nat_lt (by omega)]⟩
    rw [rootsTo]
    split
    · rename_i h0
      rw [List.mem_append, ih, List.mem_singleton, ← hy]
      constructor
      · rintro (⟨h1, h2⟩ | h)
        · exact ⟨by omega, h2⟩
        · exact ⟨by omega, by rw [hy.1 h]; exact h0⟩
      · rintro ⟨h1, h2⟩
        by_cases he : y.toNat = k
        · exact .inr he
        · exact .inl ⟨by omega, h2⟩
    · rename_i h0
      rw [ih]
      constructor
      · rintro ⟨h1, h2⟩; exact ⟨by omega, h2⟩
      · rintro ⟨h1, h2⟩
        refine ⟨?_, h2⟩
        by_cases he : y.toNat = k
        · rw [hy.1 he] at h2; exact absurd h2 h0
        · omega
theorem nodup_roots (l : List UInt8) : ∀ k, k ≤ 256 → (rootsTo 29 l k).Nodup
  | 0, _ => by simp [rootsTo]
  | k + 1, hk => by
    have ih := nodup_roots l k (by omega)
    rw [rootsTo]
    split
    · rw [List.nodup_append]
      refine ⟨ih, by simp, fun a ha b hb => ?_⟩
      have h1 := (mem_roots l a k (by omega)).1 ha
      rw [List.mem_singleton] at hb
      intro he
      rw [he, hb, of_nat_lt (by omega)] at h1
      omega
    · exact ih
/-- The generator has as many roots as its degree tells. -/
theorem roots_count (f p : Nat) (hp : p ≤ 254) : (rootsTo 29 (genTo f p) 256).length = p := by
  have hn : ((List.range p).map fun i => pwI 29 2 ((f : Int) + ((i : Nat) : Int))).Nodup := by
    rw [List.nodup_iff_pairwise_ne, List.pairwise_map]
    refine List.Pairwise.imp_of_mem ?_ (List.pairwise_lt_range (n := p))
    intro a b ha hb hab
    have := List.mem_range.1 hb
    exact pwI_apart hab (by omega)
  have h1 := nodup_le (rootsTo 29 (genTo f p) 256) ((List.range p).map fun i => pwI 29 2 ((f : Int) + ((i : Nat) : Int))) (nodup_roots _ _ (Nat.le_refl _)) (fun x hx => by
    obtain ⟨i, hi, he⟩ := (gen_root f x p).1 ((mem_roots _ x 256 (Nat.le_refl _)).1 hx).2
    exact List.mem_map.2 ⟨i, List.mem_range.2 hi, he.symm⟩)
  have h2 := nodup_le ((List.range p).map fun i => pwI 29 2 ((f : Int) + ((i : Nat) : Int))) (rootsTo 29 (genTo f p) 256) hn (fun x hx => by
    obtain ⟨i, hi, he⟩ := List.mem_map.1 hx
    exact (mem_roots _ x 256 (Nat.le_refl _)).2 ⟨x.toNat_lt, (gen_root f x p).2 ⟨i, List.mem_range.1 hi, he.symm⟩⟩)
  simp only [List.length_map, List.length_range] at h1 h2
  omega
theorem encS_length (f p : Nat) (data : List UInt8) : (encS f p data).length = data.length + p := encTo_length _ _ _ _
/-- What is encoded is the data and zeros, and what is left of these. -/
theorem enc_turned (f p : Nat) (data : List UInt8) (i : Nat) : cf (encS f p data).reverse i = cf (plusS (data ++ List.replicate p 0).reverse (encR f p data)) i := by
  rw [cf_plus]
  have hR := encR_len f p data
  by_cases hi : i < data.length + p
  · rw [cf_reverse _ _ (by rw [encS_length]; exact hi), cf_reverse _ _ (by simp; omega), encS_length]
    rw [show (data ++ List.replicate p (0 : UInt8)).length = data.length + p by simp]
    unfold encS encTo
    rw [cf_map, if_pos (by omega)]
    by_cases hj : data.length + p - 1 - i < data.length
    · rw [if_pos hj, cf_ge (l := encR f p data) (by omega), xor_zero']
      unfold cf
      rw [List.getD_eq_getElem?_getD, List.getD_eq_getElem?_getD, List.getElem?_append_left hj]
    · rw [if_neg hj, if_pos (by omega), show data.length + p - 1 - (data.length + p - 1 - i) = i by omega]
      have : cf (data ++ List.replicate p 0) (data.length + p - 1 - i) = 0 := by
        unfold cf
        rw [List.getD_eq_getElem?_getD, List.getElem?_append_right (by omega)]
        rw [List.getElem?_replicate]
        split <;> rfl
      rw [this, UInt8.zero_xor]
  · rw [cf_ge (by rw [List.length_reverse, encS_length]; omega), cf_ge (l := (data ++ List.replicate p (0 : UInt8)).reverse) (by rw [List.length_reverse, List.length_append, List.length_replicate]; omega), cf_ge (l := encR f p data) (by omega)]
    rfl
theorem enc_root (f p : Nat) (data : List UInt8) (x : UInt8) (hx : evalS 29 x (genTo f p) = 0) : evalS 29 x (encS f p data).reverse = 0 := by
  rw [eval_ext 29 x _ _ (enc_turned f p data), eval_plus]
  unfold encR
  rw [eval_back one_d (gen_ne f p) x hx, UInt8.xor_self]
theorem enc_syn (f p : Nat) (data : List UInt8) (i : Nat) (hi : i < p) : syn f (encS f p data) i = 0 := enc_root f p data _ ((gen_root f _ p).2 ⟨i, hi, rfl⟩)
/-- A word whose syndromes are nothing is a multiple of the generator. -/
theorem syn_mod (f p : Nat) (hp : p ≤ 254) (word : List UInt8) (h : ∀ i, i < p → syn f word i = 0) : modS 29 word.reverse (genTo f p) = [] := by
  have hs := mod_short one_d (p := word.reverse) (gen_ne f p)
  rw [gen_trim, (gen_ok f p).1] at hs
  have hz := roots_zero (fun i => pwI 29 2 ((f : Int) + (i : Int))) p (modS 29 word.reverse (genTo f p)) (by omega) (fun i hi => by
    show evalS 29 (pwI 29 2 ((f : Int) + (i : Int))) _ = 0
    rw [eval_back one_d (gen_ne f p) _ ((gen_root f _ p).2 ⟨i, hi, rfl⟩)]
    exact h i hi) (fun i j h1 h2 => pwI_apart h1 (by omega))
  have := trim_none hz
  rwa [trim_id (mod_tidy 29 _ _)] at this
theorem syns_all {f p : Nat} {word : List UInt8} : (syns f p word).all (· == 0) = true ↔ ∀ i, i < p → syn f word i = 0 := by
  rw [List.all_eq_true]
  constructor
  · intro h i hi
    have := h (syn f word i) (List.mem_map.2 ⟨i, List.mem_range.2 hi, rfl⟩)
    exact beq_iff_eq.1 this
  · intro h x hx
    obtain ⟨i, hi, rfl⟩ := List.mem_map.1 hx
    exact beq_iff_eq.2 (h i (List.mem_range.1 hi))
theorem enc_good (f p : Nat) (data : List UInt8) (h0 : 0 < data.length) (h : data.length + p ≤ 255) : goodS f p (encS f p data) = true := by
  unfold goodS
  rw [encS_length, decide_eq_true (by omega), decide_eq_true h, syns_all.2 (enc_syn f p data)]
  rfl
theorem enc_mod (f p : Nat) (hp : p ≤ 254) (data : List UInt8) : modS 29 (encS f p data).reverse (genTo f p) = [] := syn_mod f p hp _ (enc_syn f p data)
theorem enc_front (f p : Nat) (data : List UInt8) : (encS f p data).take data.length = data := cf_ext (by rw [List.length_take, encS_length]; omega) fun k hk => by
  have hk' : k < data.length := by rw [List.length_take] at hk; omega
  rw [cf_take, if_pos hk']
  unfold encS encTo
  rw [cf_map, if_pos (by omega), if_pos hk']
end Go.Proofs.Ytdpkeffkpecmjaa
/- Plain facts: series over the field, their sums and products. -/
namespace Go.Proofs.Ytdpkeffkpecmjaa
open Go.RowKit
set_option linter.unusedVariables false

/-- The sum of the first n. -/
def sg (g : Nat → UInt8) : Nat → UInt8
  | 0 => 0
  | n + 1 => sg g n ^^^ g n
theorem sg_ext {g h : Nat → UInt8} : ∀ n, (∀ i, i < n → g i = h i) → sg g n = sg h n
  | 0, _ => rfl
  | n + 1, H => by rw [sg, sg, sg_ext n fun i hi => H i (by omega), H n (by omega)]
theorem sg_xor (g h : Nat → UInt8) : ∀ n, sg (fun i => g i ^^^ h i) n = sg g n ^^^ sg h n
  | 0 => by simp [sg]
  | n + 1 => by rw [sg, sg, sg, sg_xor g h n, xor_four]
theorem sg_zero {g : Nat → UInt8} : ∀ n, (∀ i, i < n → g i = 0) → sg g n = 0
  | 0, _ => rfl
  | n + 1, H => by rw [sg, sg_zero n fun i hi => H i (by omega), H n (by omega)]; rfl
theorem sg_mul (c : UInt8) (g : Nat → UInt8) : ∀ n, bm 29 c (sg g n) = sg (fun i => bm 29 c (g i)) n
  | 0 => by rw [sg, sg, bm_zero]
  | n + 1 => by rw [sg, sg, bm_xor', sg_mul c g n]
theorem sg_first (g : Nat → UInt8) : ∀ n, sg g (n + 1) = g 0 ^^^ sg (fun i => g (i + 1)) n
  | 0 => by rw [sg, sg, sg, UInt8.zero_xor, xor_zero']
  | n + 1 => by rw [sg, sg_first g n, sg, UInt8.xor_assoc]
theorem sg_turn (g : Nat → UInt8) : ∀ n, sg (fun i => g (n - 1 - i)) n = sg g n
  | 0 => rfl
  | n + 1 => by
    rw [sg_first, show n + 1 - 1 - 0 = n by omega, sg, UInt8.xor_comm, ← sg_turn g n]
    congr 1
    exact sg_ext n fun i hi => by rw [show n + 1 - 1 - (i + 1) = n - 1 - i by omega]
theorem sg_more {g : Nat → UInt8} {n : Nat} (h : ∀ i, n ≤ i → g i = 0) : ∀ m, sg g (n + m) = sg g n
  | 0 => rfl
  | m + 1 => by rw [← Nat.add_assoc, sg, sg_more h m, h _ (by omega), xor_zero']
theorem sg_to {g : Nat → UInt8} {n m : Nat} (h : ∀ i, n ≤ i → g i = 0) (hm : n ≤ m) : sg g m = sg g n := by
  obtain ⟨a, rfl⟩ : ∃ a, m = n + a := ⟨m - n, by omega⟩
  exact sg_more h a
theorem sg_swap (F : Nat → Nat → UInt8) (m : Nat) : ∀ n, sg (fun i => sg (F i) m) n = sg (fun j => sg (fun i => F i j) n) m
  | 0 => (sg_zero m fun _ _ => rfl).symm
  | n + 1 => by rw [sg, sg_swap F m n, ← sg_xor]; rfl
theorem sg_tri (F : Nat → Nat → UInt8) : ∀ n, sg (fun i => sg (fun j => F j (i - j)) (i + 1)) n = sg (fun j => sg (F j) (n - j)) n
  | 0 => rfl
  | n + 1 => by
    rw [sg, sg_tri F n]
    have h1 : sg (fun j => sg (F j) (n + 1 - j)) (n + 1) = sg (fun j => sg (F j) (n - j) ^^^ F j (n - j)) (n + 1) := sg_ext _ fun j hj => by
      rw [show n + 1 - j = (n - j) + 1 by omega, sg]
    rw [h1, sg_xor]
    congr 1
    rw [sg, show n - n = 0 by omega, sg, xor_zero']

/-- A series: its coefficients. -/
abbrev Ser := Nat → UInt8
def sOne : Ser := fun k => if k = 0 then 1 else 0
def sNil : Ser := fun _ => 0
def sAdd (a b : Ser) : Ser := fun k => a k ^^^ b k
def sMul (a b : Ser) : Ser := fun k => sg (fun i => bm 29 (a i) (b (k - i))) (k + 1)
def sScl (c : UInt8) (a : Ser) : Ser := fun k => bm 29 c (a k)
/-- 1 and x times X. -/
def sLin (X : UInt8) : Ser := fun k => if k = 0 then 1 else if k = 1 then X else 0
/-- All powers of X. -/
def sGeo (X : UInt8) : Ser := fun k => pw 29 X k
/-- x to the n. -/
def sPow (n : Nat) : Ser := fun k => if k = n then 1 else 0
/-- The derivative. -/
def sDer (a : Ser) : Ser := fun k => if k % 2 = 0 then a (k + 1) else 0
theorem mul_comm_s (a b : Ser) : sMul a b = sMul b a := funext fun k => by
  show sg _ _ = sg _ _
  rw [← sg_turn]
  exact sg_ext _ fun i hi => by rw [bm_comm, show k - (k + 1 - 1 - i) = i by omega, show k + 1 - 1 - i = k - i by omega]
theorem mul_assoc_s (a b c : Ser) : sMul (sMul a b) c = sMul a (sMul b c) := funext fun k => by
  show sg (fun i => bm 29 (sg (fun j => bm 29 (a j) (b (i - j))) (i + 1)) (c (k - i))) (k + 1) = sg (fun j => bm 29 (a j) (sg (fun i => bm 29 (b i) (c (k - j - i))) (k - j + 1))) (k + 1)
  have h1 : sg (fun i => bm 29 (sg (fun j => bm 29 (a j) (b (i - j))) (i + 1)) (c (k - i))) (k + 1) = sg (fun i => sg (fun j => bm 29 (a j) (bm 29 (b (i - j)) (c (k - j - (i - j))))) (i + 1)) (k + 1) := sg_ext _ fun i hi => by
    rw [bm_comm, sg_mul]
    exact sg_ext _ fun j hj => by rw [bm_comm, bm_assoc, show k - j - (i - j) = k - i by omega]
  rw [h1, sg_tri (fun j i => bm 29 (a j) (bm 29 (b i) (c (k - j - i))))]
  exact sg_ext _ fun j hj => by rw [sg_mul, show k + 1 - j = k - j + 1 by omega]
theorem mul_add_s (a b c : Ser) : sMul a (sAdd b c) = sAdd (sMul a b) (sMul a c) := funext fun k => by
  show sg _ _ = sg _ _ ^^^ sg _ _
  rw [← sg_xor]
  exact sg_ext _ fun i hi => bm_xor' 29 _ _ _
theorem add_mul_s (a b c : Ser) : sMul (sAdd a b) c = sAdd (sMul a c) (sMul b c) := by rw [mul_comm_s, mul_add_s, mul_comm_s c a, mul_comm_s c b]
theorem mul_scl_s (c : UInt8) (a b : Ser) : sMul (sScl c a) b = sScl c (sMul a b) := funext fun k => by
  show sg _ _ = bm 29 c (sg _ _)
  rw [sg_mul]
  exact sg_ext _ fun i hi => bm_assoc 29 c _ _
theorem add_comm_s (a b : Ser) : sAdd a b = sAdd b a := funext fun k => UInt8.xor_comm _ _
theorem add_assoc_s (a b c : Ser) : sAdd (sAdd a b) c = sAdd a (sAdd b c) := funext fun k => UInt8.xor_assoc _ _ _
theorem add_self_s (a : Ser) : sAdd a a = sNil := funext fun k => UInt8.xor_self
theorem add_nil_s (a : Ser) : sAdd a sNil = a := funext fun k => xor_zero' _
theorem nil_mul_s (a : Ser) : sMul sNil a = sNil := funext fun k => sg_zero _ fun i _ => zero_bm 29 _
theorem one_mul_s (a : Ser) : sMul sOne a = a := funext fun k => by
  show sg _ _ = _
  rw [sg_first, sg_zero k fun i _ => by show bm 29 (if i + 1 = 0 then 1 else 0) _ = 0; rw [if_neg (by omega), zero_bm]]
  show bm 29 (if 0 = 0 then 1 else 0) (a (k - 0)) ^^^ 0 = a k
  rw [if_pos rfl, one_bm, xor_zero']; rfl
theorem mul_one_s (a : Ser) : sMul a sOne = a := by rw [mul_comm_s, one_mul_s]
theorem lin_mul_zero (X : UInt8) (a : Ser) : sMul (sLin X) a 0 = a 0 := by
  show 0 ^^^ bm 29 1 (a (0 - 0)) = a 0
  rw [UInt8.zero_xor, one_bm]
theorem lin_mul_succ (X : UInt8) (a : Ser) (k : Nat) : sMul (sLin X) a (k + 1) = a (k + 1) ^^^ bm 29 X (a k) := by
  show sg _ (k + 1 + 1) = _
  rw [sg_first, sg_first, sg_zero k fun i _ => by show bm 29 (sLin X (i + 1 + 1)) _ = 0; rw [show sLin X (i + 1 + 1) = 0 by simp [sLin], zero_bm]]
  show bm 29 1 (a (k + 1 - 0)) ^^^ (bm 29 X (a (k + 1 - (0 + 1))) ^^^ 0) = _
  rw [one_bm, xor_zero', show k + 1 - (0 + 1) = k by omega]; rfl
theorem lin_geo (X : UInt8) : sMul (sLin X) (sGeo X) = sOne := funext fun k => by
  cases k with
  | zero => rw [lin_mul_zero]; rfl
  | succ k =>
    rw [lin_mul_succ]
    show bm 29 (pw 29 X k) X ^^^ bm 29 X (pw 29 X k) = sOne (k + 1)
    rw [bm_comm, UInt8.xor_self]; simp [sOne]
theorem pow_mul_s (n : Nat) (a : Ser) (k : Nat) : sMul (sPow n) a k = if n ≤ k then a (k - n) else 0 := by
  show sg _ (k + 1) = _
  by_cases h : n ≤ k
  · rw [if_pos h]
    have h1 : sg (fun i => bm 29 (sPow n i) (a (k - i))) (k + 1) = sg (fun i => bm 29 (sPow n i) (a (k - i))) (n + 1) := by
      obtain ⟨m, rfl⟩ : ∃ m, k = n + m := ⟨k - n, by omega⟩
      rw [show n + m + 1 = (n + 1) + m by omega]
      exact sg_more (fun i hi => by show bm 29 (if i = n then 1 else 0) _ = 0; rw [if_neg (by omega), zero_bm]) m
    rw [h1, sg, sg_zero n fun i hi => by show bm 29 (if i = n then 1 else 0) _ = 0; rw [if_neg (by omega), zero_bm]]
    show 0 ^^^ bm 29 (if n = n then 1 else 0) _ = _
    rw [if_pos rfl, one_bm, UInt8.zero_xor]
  · rw [if_neg h]
    exact sg_zero _ fun i hi => by show bm 29 (if i = n then 1 else 0) _ = 0; rw [if_neg (by omega), zero_bm]
theorem pow_cancel (n : Nat) {a b : Ser} (h : sMul (sPow n) a = sMul (sPow n) b) : a = b := funext fun k => by
  have := congrFun h (k + n)
  rw [pow_mul_s, pow_mul_s, if_pos (by omega), if_pos (by omega), Nat.add_sub_cancel] at this
  exact this
/-- All coefficients from n on are nothing. -/
def Low (n : Nat) (a : Ser) : Prop := ∀ k, n ≤ k → a k = 0
theorem Low.mono {m n : Nat} {a : Ser} (h : Low m a) (hm : m ≤ n) : Low n a := fun k hk => h k (by omega)
theorem Low.mul {m n : Nat} {a b : Ser} (ha : Low (m + 1) a) (hb : Low n b) : Low (m + n) (sMul a b) := fun k hk => sg_zero _ fun i hi => by
  by_cases h : m + 1 ≤ i
  · rw [ha i h, zero_bm]
  · rw [hb (k - i) (by omega), bm_zero]
theorem Low.add {n : Nat} {a b : Ser} (ha : Low n a) (hb : Low n b) : Low n (sAdd a b) := fun k hk => by show a k ^^^ b k = 0; rw [ha k hk, hb k hk]; rfl
theorem Low.scl {n : Nat} {a : Ser} (ha : Low n a) (c : UInt8) : Low n (sScl c a) := fun k hk => by show bm 29 c (a k) = 0; rw [ha k hk, bm_zero]
theorem Low.lin (X : UInt8) : Low 2 (sLin X) := fun k hk => by simp [sLin, show k ≠ 0 by omega, show k ≠ 1 by omega]
theorem low_cf (l : List UInt8) : Low l.length (cf l) := fun k hk => cf_ge hk
/-- A series that does not begin with nothing can be taken away. -/
theorem mul_cancel {v a b : Ser} (hv : v 0 ≠ 0) (h : sMul v a = sMul v b) : a = b := by
  have key : ∀ k, (∀ j, j < k → a j = b j) → a k = b k := fun k hk => by
    have := congrFun h k
    have e1 : sMul v a k = bm 29 (v 0) (a k) ^^^ sg (fun i => bm 29 (v (i + 1)) (a (k - (i + 1)))) k := sg_first _ k
    have e2 : sMul v b k = bm 29 (v 0) (b k) ^^^ sg (fun i => bm 29 (v (i + 1)) (b (k - (i + 1)))) k := sg_first _ k
    rw [e1, e2, sg_ext (h := fun i => bm 29 (v (i + 1)) (b (k - (i + 1)))) k fun i hi => by rw [hk _ (by omega)]] at this
    have h2 : bm 29 (v 0) (a k) = bm 29 (v 0) (b k) := by
      have := congrArg (· ^^^ sg (fun i => bm 29 (v (i + 1)) (b (k - (i + 1)))) k) this
      simpa [UInt8.xor_assoc] using this
    have h3 : bm 29 (v 0) (a k ^^^ b k) = 0 := by rw [bm_xor', h2, UInt8.xor_self]
    rcases bm_zero_or h3 with h | h
    · exact absurd h hv
    · exact xor_zero_eq h
  exact funext fun k => by
    induction k using Nat.strongRecOn with
    | _ k ih => exact key k ih
/-- The product of lists is that of series. -/
theorem part_sg (p q : List UInt8) (k : Nat) : ∀ n, part 29 p q n k = sg (fun i => if i ≤ k then bm 29 (cf p i) (cf q (k - i)) else 0) n
  | 0 => rfl
  | n + 1 => by rw [part, part_sg p q k n, sg]
theorem cf_mul_s (p q : List UInt8) : cf (mulS 29 p q) = sMul (cf p) (cf q) := funext fun k => by
  rw [cf_mul, part_sg]
  show _ = sg _ (k + 1)
  rcases Nat.le_total p.length (k + 1) with h | h
  · rw [← sg_to (g := fun i => if i ≤ k then bm 29 (cf p i) (cf q (k - i)) else 0) (n := p.length) (m := k + 1) (fun i hi => by rw [cf_ge hi, zero_bm]; exact ite_self _) h]
    exact sg_ext _ fun i hi => by rw [if_pos (by omega)]
  · rw [sg_to (g := fun i => if i ≤ k then bm 29 (cf p i) (cf q (k - i)) else 0) (n := k + 1) (m := p.length) (fun i hi => by rw [if_neg (by omega)]) h]
    exact sg_ext _ fun i hi => by rw [if_pos (by omega)]
theorem cf_plus_s (p q : List UInt8) : cf (plusS p q) = sAdd (cf p) (cf q) := funext fun k => cf_plus p q k
theorem cf_trim_s (p : List UInt8) : cf (trimS p) = cf p := funext fun k => cf_trim p k
/-- The value of a series that ends. -/
def sEv (a : Ser) (x : UInt8) (n : Nat) : UInt8 := sg (fun i => bm 29 (a i) (pw 29 x i)) n
theorem term_sg (x : UInt8) (a : Ser) : ∀ n, termS 29 x a n = sEv a x n
  | 0 => rfl
  | n + 1 => by show termS 29 x a n ^^^ _ = _; rw [term_sg x a n]; rfl
theorem eval_sEv (x : UInt8) (l : List UInt8) {n : Nat} (h : l.length ≤ n) : evalS 29 x l = sEv (cf l) x n := by rw [eval_to h, term_sg]
theorem ev_to {a : Ser} {x : UInt8} {m n : Nat} (h : Low m a) (hm : m ≤ n) : sEv a x n = sEv a x m := sg_to (fun i hi => by rw [h i hi, zero_bm]) hm
theorem ev_add (a b : Ser) (x : UInt8) (n : Nat) : sEv (sAdd a b) x n = sEv a x n ^^^ sEv b x n := by
  unfold sEv; rw [← sg_xor]; exact sg_ext _ fun i _ => bm_xor 29 _ _ _
theorem ev_scl (c : UInt8) (a : Ser) (x : UInt8) (n : Nat) : sEv (sScl c a) x n = bm 29 c (sEv a x n) := by
  unfold sEv; rw [sg_mul]; exact sg_ext _ fun i _ => bm_assoc 29 _ _ _
/-- The first n coefficients as a list. -/
def lst (a : Ser) (n : Nat) : List UInt8 := (List.range n).map a
theorem cf_lst {a : Ser} {n : Nat} (h : Low n a) : cf (lst a n) = a := funext fun k => by
  unfold lst; rw [cf_map]; split
  · rfl
  · exact (h k (by omega)).symm
theorem ev_mul {a b : Ser} {m n : Nat} (ha : Low m a) (hb : Low n b) (x : UInt8) {N : Nat} (hN : m + n ≤ N) : sEv (sMul a b) x N = bm 29 (sEv a x N) (sEv b x N) := by
  have h := eval_mul 29 x (lst a m) (lst b n)
  have hl : (mulS 29 (lst a m) (lst b n)).length ≤ N := by
    have h1 : (mulS 29 (lst a m) (lst b n)).length ≤ (lst a m).length + (lst b n).length := by
      unfold mulS
      split
      · simp
      · have h2 := trim_len (lst a m)
        have h3 := trim_len (lst b n)
        simp only [timesS, List.length_map, List.length_range]; omega
    simp only [lst, List.length_map, List.length_range] at h1
    simp only [lst] at *
    omega
  rw [eval_sEv x _ hl, eval_sEv x (lst a m) (n := N) (by simp [lst]; omega), eval_sEv x (lst b n) (n := N) (by simp [lst]; omega), cf_mul_s, cf_lst ha, cf_lst hb] at h
  exact h
theorem ev_lin (X x : UInt8) {n : Nat} (h : 2 ≤ n) : sEv (sLin X) x n = 1 ^^^ bm 29 X x := by
  rw [ev_to (Low.lin X) h]
  show (0 ^^^ bm 29 1 (pw 29 x 0)) ^^^ bm 29 X (pw 29 x 1) = _
  rw [UInt8.zero_xor, one_bm, pw_one]; rfl
theorem lin_der (X : UInt8) (a : Ser) : sDer (sMul (sLin X) a) = sAdd (sScl X a) (sMul (sLin X) (sDer a)) := funext fun k => by
  show (if k % 2 = 0 then sMul (sLin X) a (k + 1) else 0) = bm 29 X (a k) ^^^ sMul (sLin X) (sDer a) k
  cases k with
  | zero =>
    rw [if_pos rfl, lin_mul_succ, lin_mul_zero]
    show a 1 ^^^ _ = _ ^^^ a 1
    rw [UInt8.xor_comm]
  | succ k =>
    rw [lin_mul_succ (k := k)]
    by_cases h : (k + 1) % 2 = 0
    · rw [if_pos h, lin_mul_succ, show sDer a (k + 1) = a (k + 1 + 1) from if_pos h, show sDer a k = 0 from if_neg (by omega), bm_zero, xor_zero', UInt8.xor_comm]
    · rw [if_neg h, show sDer a (k + 1) = 0 from if_neg h, show sDer a k = a (k + 1) from if_pos (by omega), UInt8.zero_xor, UInt8.xor_self]
theorem Low.der {n : Nat} {a : Ser} (h : Low n a) : Low n (sDer a) := fun k hk => by
  show (if k % 2 = 0 then a (k + 1) else 0) = 0
  rw [h (k + 1) (by omega)]; exact ite_self _
end Go.Proofs.Ytdpkeffkpecmjaa
