/- Texts of one proof, one behind the other. -/
import Derived.Test.YtdpkeffkpecmjaaRse
import Derived.Test.YtdpkeffkpecmjaaRsh
import Derived.Test.YtdpkeffkpecmjaaRsr
/- Plain facts: a polynomial has no more roots than its degree; the generator's roots; a word that is encoded is a multiple of the generator. -/
namespace Go.Proofs.Ytdpkeffkpecmjaa
open Go.RowKit
set_option linter.unusedVariables false

theorem bm_zero_or {a b : UInt8} (h : bm 29 a b = 0) : a = 0 ∨ b = 0 := by
  by_cases ha : a = 0
  · exact .inl ha
  by_cases hb : b = 0
  · exact .inr hb
  exact absurd h (bm_ne one_d ha hb)
theorem xor_zero_eq {a b : UInt8} (h : a ^^^ b = 0) : a = b := by
  have := congrArg (· ^^^ b) h
  simp only [UInt8.xor_assoc, UInt8.xor_self, UInt8.zero_xor] at this
  rw [xor_zero'] at this
  exact this
theorem eval_pole (x y : UInt8) : evalS 29 y [x, 1] = y ^^^ x := by
  show bm 29 (bm 29 0 y ^^^ 1) y ^^^ x = _
  rw [zero_bm, UInt8.zero_xor, one_bm]
theorem trim_none {l : List UInt8} (h : ∀ k, cf l k = 0) : trimS l = [] := by
  have := trim_ext (l := l) (m := []) (fun k => by rw [h k]; rfl)
  rw [this]; rfl
/-- A polynomial of n coefficients with n roots is nothing. -/
theorem roots_zero (xs : Nat → UInt8) : ∀ (n : Nat) (l : List UInt8), l.length ≤ n → (∀ i, i < n → evalS 29 (xs i) l = 0) → (∀ i j, i < j → j < n → xs i ≠ xs j) → ∀ k, cf l k = 0
  | 0, l, hl, _, _, k => cf_ge (by omega)
  | n + 1, l, hl, hr, hd, k => by
    obtain ⟨ht, hm⟩ := root_left one_d l (xs n)
    rw [if_pos (hr n (by omega))] at hm
    have hne : trimS [xs n, 1] ≠ [] := by rw [ht]; simp
    have hb := div_back one_d (p := l) hne
    rw [hm] at hb
    have hlen : (quoS 29 l [xs n, 1]).length ≤ n := by
      unfold quoS
      split
      · simp
      · rename_i h2
        rw [(divS_len 29 (trimS l) (trimS [xs n, 1])).2]
        rw [ht] at h2 ⊢
        simp only [List.length_cons, List.length_nil] at h2 ⊢
        have := trim_len l
        omega
    have hz := roots_zero xs n (quoS 29 l [xs n, 1]) hlen (fun i hi => by
      have he := congrArg (evalS 29 (xs i)) hb
      rw [eval_trim, eval_trim, eval_plus, eval_mul, eval_pole, hr i (by omega)] at he
      have h0 : evalS 29 (xs i) [] = 0 := rfl
      rw [h0, xor_zero'] at he
      rcases bm_zero_or he with h | h
      · exact h
      · exact absurd (xor_zero_eq h) (hd i n hi (by omega))) (fun i j h1 h2 => hd i j h1 (by omega))
    have hq : mulS 29 (quoS 29 l [xs n, 1]) [xs n, 1] = [] := by rw [mulS, if_pos (.inl (trim_none hz))]
    rw [hq] at hb
    exact trim_nil (hb.symm.trans rfl) k
/-- The roots of the generator. -/
theorem gen_root (f : Nat) (x : UInt8) : ∀ k, evalS 29 x (genTo f k) = 0 ↔ ∃ i, i < k ∧ x = pwI 29 2 ((f : Int) + (i : Int))
  | 0 => by
    have : evalS 29 x (genTo f 0) = 1 := by show bm 29 0 x ^^^ 1 = 1; rw [zero_bm, UInt8.zero_xor]
    rw [this]
    constructor
    · intro h; exact absurd h (by decide)
    · rintro ⟨i, hi, _⟩; omega
  | k + 1 => by
    rw [genTo, eval_mul, eval_pole]
    constructor
    · intro h
      rcases bm_zero_or h with h | h
      · obtain ⟨i, hi, he⟩ := (gen_root f x k).1 h
        exact ⟨i, by omega, he⟩
      · exact ⟨k, by omega, xor_zero_eq h⟩
    · rintro ⟨i, hi, he⟩
      by_cases hk : i = k
      · subst hk; rw [← he, UInt8.xor_self, bm_zero]
      · rw [(gen_root f x k).2 ⟨i, by omega, he⟩, zero_bm]
theorem pwI_apart {f i j : Nat} (h : i < j) (hj : j < 255) : pwI 29 2 ((f : Int) + (i : Int)) ≠ pwI 29 2 ((f : Int) + (j : Int)) := fun he => by
  unfold pwI at he
  have h1 := Int.emod_nonneg ((f : Int) + (i : Int)) (show (255 : Int) ≠ 0 by omega)
  have h2 := Int.emod_lt_of_pos ((f : Int) + (i : Int)) (show (0 : Int) < 255 by omega)
  have h3 := Int.emod_nonneg ((f : Int) + (j : Int)) (show (255 : Int) ≠ 0 by omega)
  have h4 := Int.emod_lt_of_pos ((f : Int) + (j : Int)) (show (0 : Int) < 255 by omega)
  have := pw_inj one_d (i := (((f : Int) + (i : Int)) % 255).toNat) (j := (((f : Int) + (j : Int)) % 255).toNat) (by omega) (by omega) he
  omega
theorem nodup_le : ∀ (l m : List UInt8), l.Nodup → (∀ x, x ∈ l → x ∈ m) → l.length ≤ m.length
  | [], _, _, _ => Nat.zero_le _
  | a :: t, m, hn, hs => by
    have ha := hs a (by simp)
    have hnd := List.nodup_cons.1 hn
    have := nodup_le t (m.erase a) hnd.2 (fun x hx => (List.mem_erase_of_ne (fun h => hnd.1 (by rw [← h]; exact hx))).2 (hs x (by simp [hx])))
    rw [List.length_erase_of_mem ha] at this
    have : 0 < m.length := List.length_pos_of_mem ha
    simp only [List.length_cons]; omega
theorem mem_roots (l : List UInt8) (y : UInt8) : ∀ k, k ≤ 256 → (y ∈ rootsTo 29 l k ↔ y.toNat < k ∧ evalS 29 y l = 0)
  | 0, _ => by simp [rootsTo]
  | k + 1, hk => by
    have ih := mem_roots l y k (by omega)
    have hy : y.toNat = k ↔ y = UInt8.ofNat k := ⟨fun h => UInt8.toNat.inj (by rw [of_nat_lt (by omega), h]), fun h => by rw [h, of_nat_lt (by omega)]⟩
    rw [rootsTo]
    split
    · rename_i h0
      rw [List.mem_append, ih, List.mem_singleton, ← hy]
      constructor
      · rintro (⟨h1, h2⟩ | h)
        · exact ⟨by omega, h2⟩
        · exact ⟨by omega, by rw [hy.1 h]; exact h0⟩
      · rintro ⟨h1, h2⟩
        by_cases he : y.toNat = k
        · exact .inr he
        · exact .inl ⟨by omega, h2⟩
    · rename_i h0
      rw [ih]
      constructor
      · rintro ⟨h1, h2⟩; exact ⟨by omega, h2⟩
      · rintro ⟨h1, h2⟩
        refine ⟨?_, h2⟩
        by_cases he : y.toNat = k
        · rw [hy.1 he] at h2; exact absurd h2 h0
        · omega
theorem nodup_roots (l : List UInt8) : ∀ k, k ≤ 256 → (rootsTo 29 l k).Nodup
  | 0, _ => by simp [rootsTo]
  | k + 1, hk => by
    have ih := nodup_roots l k (by omega)
    rw [rootsTo]
    split
    · rw [List.nodup_append]
      refine ⟨ih, by simp, fun a ha b hb => ?_⟩
      have h1 := (mem_roots l a k (by omega)).1 ha
      rw [List.mem_singleton] at hb
      intro he
      rw [he, hb, of_nat_lt (by omega)] at h1
      omega
    · exact ih
/-- The generator has as many roots as its degree tells. -/
theorem roots_count (f p : Nat) (hp : p ≤ 254) : (rootsTo 29 (genTo f p) 256).length = p := by
  have hn : ((List.range p).map fun i => pwI 29 2 ((f : Int) + ((i : Nat) : Int))).Nodup := by
    rw [List.nodup_iff_pairwise_ne, List.pairwise_map]
    refine List.Pairwise.imp_of_mem ?_ (List.pairwise_lt_range (n := p))
    intro a b ha hb hab
    have := List.mem_range.1 hb
    exact pwI_apart hab (by omega)
  have h1 := nodup_le (rootsTo 29 (genTo f p) 256) ((List.range p).map fun i => pwI 29 2 ((f : Int) + ((i : Nat) : Int))) (nodup_roots _ _ (Nat.le_refl _)) (fun x hx => by
    obtain ⟨i, hi, he⟩ := (gen_root f x p).1 ((mem_roots _ x 256 (Nat.le_refl _)).1 hx).2
    exact List.mem_map.2 ⟨i, List.mem_range.2 hi, he.symm⟩)
  have h2 := nodup_le ((List.range p).map fun i => pwI 29 2 ((f : Int) + ((i : Nat) : Int))) (rootsTo 29 (genTo f p) 256) hn (fun x hx => by
    obtain ⟨i, hi, he⟩ := List.mem_map.1 hx
    exact (mem_roots _ x 256 (Nat.le_refl _)).2 ⟨x.toNat_lt, (gen_root f x p).2 ⟨i, List.mem_range.1 hi, he.symm⟩⟩)
  simp only [List.length_map, List.length_range] at h1 h2
  omega
theorem encS_length (f p : Nat) (data : List UInt8) : (encS f p data).length = data.length + p := encTo_length _ _ _ _
/-- What is encoded is the data and zeros, and what is left of these. -/
theorem enc_turned (f p : Nat) (data : List UInt8) (i : Nat) : cf (encS f p data).reverse i = cf (plusS (data ++ List.replicate p 0).reverse (encR f p data)) i := by
  rw [cf_plus]
  have hR := encR_len f p data
  by_cases hi : i < data.length + p
  · rw [cf_reverse _ _ (by rw [encS_length]; exact hi), cf_reverse _ _ (by simp; omega), encS_length]
    rw [show (data ++ List.replicate p (0 : UInt8)).length = data.length + p by simp]
    unfold encS encTo
    rw [cf_map, if_pos (by omega)]
    by_cases hj : data.length + p - 1 - i < data.length
    · rw [if_pos hj, cf_ge (l := encR f p data) (by omega), xor_zero']
      unfold cf
      rw [List.getD_eq_getElem?_getD, List.getD_eq_getElem?_getD, List.getElem?_append_left hj]
    · rw [if_neg hj, if_pos (by omega), show data.length + p - 1 - (data.length + p - 1 - i) = i by omega]
      have : cf (data ++ List.replicate p 0) (data.length + p - 1 - i) = 0 := by
        unfold cf
        rw [List.getD_eq_getElem?_getD, List.getElem?_append_right (by omega)]
        rw [List.getElem?_replicate]
        split <;> rfl
      rw [this, UInt8.zero_xor]
  · rw [cf_ge (by rw [List.length_reverse, encS_length]; omega), cf_ge (l := (data ++ List.replicate p (0 : UInt8)).reverse) (by rw [List.length_reverse, List.length_append, List.length_replicate]; omega), cf_ge (l := encR f p data) (by omega)]
    rfl
theorem enc_root (f p : Nat) (data : List UInt8) (x : UInt8) (hx : evalS 29 x (genTo f p) = 0) : evalS 29 x (encS f p data).reverse = 0 := by
  rw [eval_ext 29 x _ _ (enc_turned f p data), eval_plus]
  unfold encR
  rw [eval_back one_d (gen_ne f p) x hx, UInt8.xor_self]
theorem enc_syn (f p : Nat) (data : List UInt8) (i : Nat) (hi : i < p) : syn f (encS f p data) i = 0 := enc_root f p data _ ((gen_root f _ p).2 ⟨i, hi, rfl⟩)
/-- A word whose syndromes are nothing is a multiple of the generator. -/
theorem syn_mod (f p : Nat) (hp : p ≤ 254) (word : List UInt8) (h : ∀ i, i < p → syn f word i = 0) : modS 29 word.reverse (genTo f p) = [] := by
  have hs := mod_short one_d (p := word.reverse) (gen_ne f p)
  rw [gen_trim, (gen_ok f p).1] at hs
  have hz := roots_zero (fun i => pwI 29 2 ((f : Int) + (i : Int))) p (modS 29 word.reverse (genTo f p)) (by omega) (fun i hi => by
    show evalS 29 (pwI 29 2 ((f : Int) + (i : Int))) _ = 0
    rw [eval_back one_d (gen_ne f p) _ ((gen_root f _ p).2 ⟨i, hi, rfl⟩)]
    exact h i hi) (fun i j h1 h2 => pwI_apart h1 (by omega))
  have := trim_none hz
  rwa [trim_id (mod_tidy 29 _ _)] at this
theorem syns_all {f p : Nat} {word : List UInt8} : (syns f p word).all (· == 0) = true ↔ ∀ i, i < p → syn f word i = 0 := by
  rw [List.all_eq_true]
  constructor
  · intro h i hi
    have := h (syn f word i) (List.mem_map.2 ⟨i, List.mem_range.2 hi, rfl⟩)
    exact beq_iff_eq.1 this
  · intro h x hx
    obtain ⟨i, hi, rfl⟩ := List.mem_map.1 hx
    exact beq_iff_eq.2 (h i (List.mem_range.1 hi))
theorem enc_good (f p : Nat) (data : List UInt8) (h0 : 0 < data.length) (h : data.length + p ≤ 255) : goodS f p (encS f p data) = true := by
  unfold goodS
  rw [encS_length, decide_eq_true (by omega), decide_eq_true h, syns_all.2 (enc_syn f p data)]
  rfl
theorem enc_mod (f p : Nat) (hp : p ≤ 254) (data : List UInt8) : modS 29 (encS f p data).reverse (genTo f p) = [] := syn_mod f p hp _ (enc_syn f p data)
theorem enc_front (f p : Nat) (data : List UInt8) : (encS f p data).take data.length = data := cf_ext (by rw [List.length_take, encS_length]; omega) fun k hk => by
  have hk' : k < data.length := by rw [List.length_take] at hk; omega
  rw [cf_take, if_pos hk']
  unfold encS encTo
  rw [cf_map, if_pos (by omega), if_pos hk']
end Go.Proofs.Ytdpkeffkpecmjaa
/- Plain facts: series over the field, their sums and products. -/
namespace Go.Proofs.Ytdpkeffkpecmjaa
open Go.RowKit
set_option linter.unusedVariables false

/-- The sum of the first n. -/
def sg (g : Nat → UInt8) : Nat → UInt8
  | 0 => 0
  | n + 1 => sg g n ^^^ g n
theorem sg_ext {g h : Nat → UInt8} : ∀ n, (∀ i, i < n → g i = h i) → sg g n = sg h n
  | 0, _ => rfl
  | n + 1, H => by rw [sg, sg, sg_ext n fun i hi => H i (by omega), H n (by omega)]
theorem sg_xor (g h : Nat → UInt8) : ∀ n, sg (fun i => g i ^^^ h i) n = sg g n ^^^ sg h n
  | 0 => by simp [sg]
  | n + 1 => by rw [sg, sg, sg, sg_xor g h n, xor_four]
theorem sg_zero {g : Nat → UInt8} : ∀ n, (∀ i, i < n → g i = 0) → sg g n = 0
  | 0, _ => rfl
  | n + 1, H => by rw [sg, sg_zero n fun i hi => H i (by omega), H n (by omega)]; rfl
theorem sg_mul (c : UInt8) (g : Nat → UInt8) : ∀ n, bm 29 c (sg g n) = sg (fun i => bm 29 c (g i)) n
  | 0 => by rw [sg, sg, bm_zero]
  | n + 1 => by rw [sg, sg, bm_xor', sg_mul c g n]
theorem sg_first (g : Nat → UInt8) : ∀ n, sg g (n + 1) = g 0 ^^^ sg (fun i => g (i + 1)) n
  | 0 => by rw [sg, sg, sg, UInt8.zero_xor, xor_zero']
  | n + 1 => by rw [sg, sg_first g n, sg, UInt8.xor_assoc]
theorem sg_turn (g : Nat → UInt8) : ∀ n, sg (fun i => g (n - 1 - i)) n = sg g n
  | 0 => rfl
  | n + 1 => by
    rw [sg_first, show n + 1 - 1 - 0 = n by omega, sg, UInt8.xor_comm, ← sg_turn g n]
    congr 1
    exact sg_ext n fun i hi => by rw [show n + 1 - 1 - (i + 1) = n - 1 - i by omega]
theorem sg_more {g : Nat → UInt8} {n : Nat} (h : ∀ i, n ≤ i → g i = 0) : ∀ m, sg g (n + m) = sg g n
  | 0 => rfl
  | m + 1 => by rw [← Nat.add_assoc, sg, sg_more h m, h _ (by omega), xor_zero']
theorem sg_to {g : Nat → UInt8} {n m : Nat} (h : ∀ i, n ≤ i → g i = 0) (hm : n ≤ m) : sg g m = sg g n := by
  obtain ⟨a, rfl⟩ : ∃ a, m = n + a := ⟨m - n, by omega⟩
  exact sg_more h a
theorem sg_swap (F : Nat → Nat → UInt8) (m : Nat) : ∀ n, sg (fun i => sg (F i) m) n = sg (fun j => sg (fun i => F i j) n) m
  | 0 => (sg_zero m fun _ _ => rfl).symm
  | n + 1 => by rw [sg, sg_swap F m n, ← sg_xor]; rfl
theorem sg_tri (F : Nat → Nat → UInt8) : ∀ n, sg (fun i => sg (fun j => F j (i - j)) (i + 1)) n = sg (fun j => sg (F j) (n - j)) n
  | 0 => rfl
  | n + 1 => by
    rw [sg, sg_tri F n]
    have h1 : sg (fun j => sg (F j) (n + 1 - j)) (n + 1) = sg (fun j => sg (F j) (n - j) ^^^ F j (n - j)) (n + 1) := sg_ext _ fun j hj => by
      rw [show n + 1 - j = (n - j) + 1 by omega, sg]
    rw [h1, sg_xor]
    congr 1
    rw [sg, show n - n = 0 by omega, sg, xor_zero']

/-- A series: its coefficients. -/
abbrev Ser := Nat → UInt8
def sOne : Ser := fun k => if k = 0 then 1 else 0
def sNil : Ser := fun _ => 0
def sAdd (a b : Ser) : Ser := fun k => a k ^^^ b k
def sMul (a b : Ser) : Ser := fun k => sg (fun i => bm 29 (a i) (b (k - i))) (k + 1)
def sScl (c : UInt8) (a : Ser) : Ser := fun k => bm 29 c (a k)
/-- 1 and x times X. -/
def sLin (X : UInt8) : Ser := fun k => if k = 0 then 1 else if k = 1 then X else 0
/-- All powers of X. -/
def sGeo (X : UInt8) : Ser := fun k => pw 29 X k
/-- x to the n. -/
def sPow (n : Nat) : Ser := fun k => if k = n then 1 else 0
/-- The derivative. -/
def sDer (a : Ser) : Ser := fun k => if k % 2 = 0 then a (k + 1) else 0
theorem mul_comm_s (a b : Ser) : sMul a b = sMul b a := funext fun k => by
  show sg _ _ = sg _ _
  rw [← sg_turn]
  exact sg_ext _ fun i hi => by rw [bm_comm, show k - (k + 1 - 1 - i) = i by omega, show k + 1 - 1 - i = k - i by omega]
theorem mul_assoc_s (a b c : Ser) : sMul (sMul a b) c = sMul a (sMul b c) := funext fun k => by
  show sg (fun i => bm 29 (sg (fun j => bm 29 (a j) (b (i - j))) (i + 1)) (c (k - i))) (k + 1) = sg (fun j => bm 29 (a j) (sg (fun i => bm 29 (b i) (c (k - j - i))) (k - j + 1))) (k + 1)
  have h1 : sg (fun i => bm 29 (sg (fun j => bm 29 (a j) (b (i - j))) (i + 1)) (c (k - i))) (k + 1) = sg (fun i => sg (fun j => bm 29 (a j) (bm 29 (b (i - j)) (c (k - j - (i - j))))) (i + 1)) (k + 1) := sg_ext _ fun i hi => by
    rw [bm_comm, sg_mul]
    exact sg_ext _ fun j hj => by rw [bm_comm, bm_assoc, show k - j - (i - j) = k - i by omega]
  rw [h1, sg_tri (fun j i => bm 29 (a j) (bm 29 (b i) (c (k - j - i))))]
  exact sg_ext _ fun j hj => by rw [sg_mul, show k + 1 - j = k - j + 1 by omega]
theorem mul_add_s (a b c : Ser) : sMul a (sAdd b c) = sAdd (sMul a b) (sMul a c) := funext fun k => by
  show sg _ _ = sg _ _ ^^^ sg _ _
  rw [← sg_xor]
  exact sg_ext _ fun i hi => bm_xor' 29 _ _ _
theorem add_mul_s (a b c : Ser) : sMul (sAdd a b) c = sAdd (sMul a c) (sMul b c) := by rw [mul_comm_s, mul_add_s, mul_comm_s c a, mul_comm_s c b]
theorem mul_scl_s (c : UInt8) (a b : Ser) : sMul (sScl c a) b = sScl c (sMul a b) := funext fun k => by
  show sg _ _ = bm 29 c (sg _ _)
  rw [sg_mul]
  exact sg_ext _ fun i hi => bm_assoc 29 c _ _
theorem add_comm_s (a b : Ser) : sAdd a b = sAdd b a := funext fun k => UInt8.xor_comm _ _
theorem add_assoc_s (a b c : Ser) : sAdd (sAdd a b) c = sAdd a (sAdd b c) := funext fun k => UInt8.xor_assoc _ _ _
theorem add_self_s (a : Ser) : sAdd a a = sNil := funext fun k => UInt8.xor_self
theorem add_nil_s (a : Ser) : sAdd a sNil = a := funext fun k => xor_zero' _
theorem nil_mul_s (a : Ser) : sMul sNil a = sNil := funext fun k => sg_zero _ fun i _ => zero_bm 29 _
theorem one_mul_s (a : Ser) : sMul sOne a = a := funext fun k => by
  show sg _ _ = _
  rw [sg_first, sg_zero k fun i _ => by show bm 29 (if i + 1 = 0 then 1 else 0) _ = 0; rw [if_neg (by omega), zero_bm]]
  show bm 29 (if 0 = 0 then 1 else 0) (a (k - 0)) ^^^ 0 = a k
  rw [if_pos rfl, one_bm, xor_zero']; rfl
theorem mul_one_s (a : Ser) : sMul a sOne = a := by rw [mul_comm_s, one_mul_s]
theorem lin_mul_zero (X : UInt8) (a : Ser) : sMul (sLin X) a 0 = a 0 := by
  show 0 ^^^ bm 29 1 (a (0 - 0)) = a 0
  rw [UInt8.zero_xor, one_bm]
theorem lin_mul_succ (X : UInt8) (a : Ser) (k : Nat) : sMul (sLin X) a (k + 1) = a (k + 1) ^^^ bm 29 X (a k) := by
  show sg _ (k + 1 + 1) = _
  rw [sg_first, sg_first, sg_zero k fun i _ => by show bm 29 (sLin X (i + 1 + 1)) _ = 0; rw [show sLin X (i + 1 + 1) = 0 by simp [sLin], zero_bm]]
  show bm 29 1 (a (k + 1 - 0)) ^^^ (bm 29 X (a (k + 1 - (0 + 1))) ^^^ 0) = _
  rw [one_bm, xor_zero', show k + 1 - (0 + 1) = k by omega]; rfl
theorem lin_geo (X : UInt8) : sMul (sLin X) (sGeo X) = sOne := funext fun k => by
  cases k with
  | zero => rw [lin_mul_zero]; rfl
  | succ k =>
    rw [lin_mul_succ]
    show bm 29 (pw 29 X k) X ^^^ bm 29 X (pw 29 X k) = sOne (k + 1)
    rw [bm_comm, UInt8.xor_self]; simp [sOne]
theorem pow_mul_s (n : Nat) (a : Ser) (k : Nat) : sMul (sPow n) a k = if n ≤ k then a (k - n) else 0 := by
  show sg _ (k + 1) = _
  by_cases h : n ≤ k
  · rw [if_pos h]
    have h1 : sg (fun i => bm 29 (sPow n i) (a (k - i))) (k + 1) = sg (fun i => bm 29 (sPow n i) (a (k - i))) (n + 1) := by
      obtain ⟨m, rfl⟩ : ∃ m, k = n + m := ⟨k - n, by omega⟩
      rw [show n + m + 1 = (n + 1) + m by omega]
      exact sg_more (fun i hi => by show bm 29 (if i = n then 1 else 0) _ = 0; rw [if_neg (by omega), zero_bm]) m
    rw [h1, sg, sg_zero n fun i hi => by show bm 29 (if i = n then 1 else 0) _ = 0; rw [if_neg (by omega), zero_bm]]
    show 0 ^^^ bm 29 (if n = n then 1 else 0) _ = _
    rw [if_pos rfl, one_bm, UInt8.zero_xor]
  · rw [if_neg h]
    exact sg_zero _ fun i hi => by show bm 29 (if i = n then 1 else 0) _ = 0; rw [if_neg (by omega), zero_bm]
theorem pow_cancel (n : Nat) {a b : Ser} (h : sMul (sPow n) a = sMul (sPow n) b) : a = b := funext fun k => by
  have := congrFun h (k + n)
  rw [pow_mul_s, pow_mul_s, if_pos (by omega), if_pos (by omega), Nat.add_sub_cancel] at this
  exact this
/-- All coefficients from n on are nothing. -/
def Low (n : Nat) (a : Ser) : Prop := ∀ k, n ≤ k → a k = 0
theorem Low.mono {m n : Nat} {a : Ser} (h : Low m a) (hm : m ≤ n) : Low n a := fun k hk => h k (by omega)
theorem Low.mul {m n : Nat} {a b : Ser} (ha : Low (m + 1) a) (hb : Low n b) : Low (m + n) (sMul a b) := fun k hk => sg_zero _ fun i hi => by
  by_cases h : m + 1 ≤ i
  · rw [ha i h, zero_bm]
  · rw [hb (k - i) (by omega), bm_zero]
theorem Low.add {n : Nat} {a b : Ser} (ha : Low n a) (hb : Low n b) : Low n (sAdd a b) := fun k hk => by show a k ^^^ b k = 0; rw [ha k hk, hb k hk]; rfl
theorem Low.scl {n : Nat} {a : Ser} (ha : Low n a) (c : UInt8) : Low n (sScl c a) := fun k hk => by show bm 29 c (a k) = 0; rw [ha k hk, bm_zero]
theorem Low.lin (X : UInt8) : Low 2 (sLin X) := fun k hk => by simp [sLin, show k ≠ 0 by omega, show k ≠ 1 by omega]
theorem low_cf (l : List UInt8) : Low l.length (cf l) := fun k hk => cf_ge hk
/-- A series that does not begin with nothing can be taken away. -/
theorem mul_cancel {v a b : Ser} (hv : v 0 ≠ 0) (h : sMul v a = sMul v b) : a = b := by
  have key : ∀ k, (∀ j, j < k → a j = b j) → a k = b k := fun k hk => by
    have := congrFun h k
    have e1 : sMul v a k = bm 29 (v 0) (a k) ^^^ sg (fun i => bm 29 (v (i + 1)) (a (k - (i + 1)))) k := sg_first _ k
    have e2 : sMul v b k = bm 29 (v 0) (b k) ^^^ sg (fun i => bm 29 (v (i + 1)) (b (k - (i + 1)))) k := sg_first _ k
    rw [e1, e2, sg_ext (h := fun i => bm 29 (v (i + 1)) (b (k - (i + 1)))) k fun i hi => by rw [hk _ (by omega)]] at this
    have h2 : bm 29 (v 0) (a k) = bm 29 (v 0) (b k) := by
      have := congrArg (· ^^^ sg (fun i => bm 29 (v (i + 1)) (b (k - (i + 1)))) k) this
      simpa [UInt8.xor_assoc] using this
    have h3 : bm 29 (v 0) (a k ^^^ b k) = 0 := by rw [bm_xor', h2, UInt8.xor_self]
    rcases bm_zero_or h3 with h | h
    · exact absurd h hv
    · exact xor_zero_eq h
  exact funext fun k => by
    induction k using Nat.strongRecOn with
    | _ k ih => exact key k ih
/-- The product of lists is that of series. -/
theorem part_sg (p q : List UInt8) (k : Nat) : ∀ n, part 29 p q n k = sg (fun i => if i ≤ k then bm 29 (cf p i) (cf q (k - i)) else 0) n
  | 0 => rfl
  | n + 1 => by rw [part, part_sg p q k n, sg]
theorem cf_mul_s (p q : List UInt8) : cf (mulS 29 p q) = sMul (cf p) (cf q) := funext fun k => by
  rw [cf_mul, part_sg]
  show _ = sg _ (k + 1)
  rcases Nat.le_total p.length (k + 1) with h | h
  · rw [← sg_to (g := fun i => if i ≤ k then bm 29 (cf p i) (cf q (k - i)) else 0) (n := p.length) (m := k + 1) (fun i hi => by rw [cf_ge hi, zero_bm]; exact ite_self _) h]
    exact sg_ext _ fun i hi => by rw [if_pos (by omega)]
  · rw [sg_to (g := fun i => if i ≤ k then bm 29 (cf p i) (cf q (k - i)) else 0) (n := k + 1) (m := p.length) (fun i hi => by rw [if_neg (by omega)]) h]
    exact sg_ext _ fun i hi => by rw [if_pos (by omega)]
theorem cf_plus_s (p q : List UInt8) : cf (plusS p q) = sAdd (cf p) (cf q) := funext fun k => cf_plus p q k
theorem cf_trim_s (p : List UInt8) : cf (trimS p) = cf p := funext fun k => cf_trim p k
/-- The value of a series that ends. -/
def sEv (a : Ser) (x : UInt8) (n : Nat) : UInt8 := sg (fun i => bm 29 (a i) (pw 29 x i)) n
theorem term_sg (x : UInt8) (a : Ser) : ∀ n, termS 29 x a n = sEv a x n
  | 0 => rfl
  | n + 1 => by show termS 29 x a n ^^^ _ = _; rw [term_sg x a n]; rfl
theorem eval_sEv (x : UInt8) (l : List UInt8) {n : Nat} (h : l.length ≤ n) : evalS 29 x l = sEv (cf l) x n := by rw [eval_to h, term_sg]
theorem ev_to {a : Ser} {x : UInt8} {m n : Nat} (h : Low m a) (hm : m ≤ n) : sEv a x n = sEv a x m := sg_to (fun i hi => by rw [h i hi, zero_bm]) hm
theorem ev_add (a b : Ser) (x : UInt8) (n : Nat) : sEv (sAdd a b) x n = sEv a x n ^^^ sEv b x n := by
  unfold sEv; rw [← sg_xor]; exact sg_ext _ fun i _ => bm_xor 29 _ _ _
theorem ev_scl (c : UInt8) (a : Ser) (x : UInt8) (n : Nat) : sEv (sScl c a) x n = bm 29 c (sEv a x n) := by
  unfold sEv; rw [sg_mul]; exact sg_ext _ fun i _ => bm_assoc 29 _ _ _
/-- The first n coefficients as a list. -/
def lst (a : Ser) (n : Nat) : List UInt8 := (List.range n).map a
theorem cf_lst {a : Ser} {n : Nat} (h : Low n a) : cf (lst a n) = a := funext fun k => by
  unfold lst; rw [cf_map]; split
  · rfl
  · exact (h k (by omega)).symm
theorem ev_mul {a b : Ser} {m n : Nat} (ha : Low m a) (hb : Low n b) (x : UInt8) {N : Nat} (hN : m + n ≤ N) : sEv (sMul a b) x N = bm 29 (sEv a x N) (sEv b x N) := by
  have h := eval_mul 29 x (lst a m) (lst b n)
  have hl : (mulS 29 (lst a m) (lst b n)).length ≤ N := by
    have h1 : (mulS 29 (lst a m) (lst b n)).length ≤ (lst a m).length + (lst b n).length := by
      unfold mulS
      split
      · simp
      · have h2 := trim_len (lst a m)
        have h3 := trim_len (lst b n)
        simp only [timesS, List.length_map, List.length_range]; omega
    simp only [lst, List.length_map, List.length_range] at h1
    simp only [lst] at *
    omega
  rw [eval_sEv x _ hl, eval_sEv x (lst a m) (n := N) (by simp [lst]; omega), eval_sEv x (lst b n) (n := N) (by simp [lst]; omega), cf_mul_s, cf_lst ha, cf_lst hb] at h
  exact h
theorem ev_lin (X x : UInt8) {n : Nat} (h : 2 ≤ n) : sEv (sLin X) x n = 1 ^^^ bm 29 X x := by
  rw [ev_to (Low.lin X) h]
  show (0 ^^^ bm 29 1 (pw 29 x 0)) ^^^ bm 29 X (pw 29 x 1) = _
  rw [UInt8.zero_xor, one_bm, pw_one]; rfl
theorem lin_der (X : UInt8) (a : Ser) : sDer (sMul (sLin X) a) = sAdd (sScl X a) (sMul (sLin X) (sDer a)) := funext fun k => by
  show (if k % 2 = 0 then sMul (sLin X) a (k + 1) else 0) = bm 29 X (a k) ^^^ sMul (sLin X) (sDer a) k
  cases k with
  | zero =>
    rw [if_pos rfl, lin_mul_succ, lin_mul_zero]
    show a 1 ^^^ _ = _ ^^^ a 1
    rw [UInt8.xor_comm]
  | succ k =>
    rw [lin_mul_succ (k := k)]
    by_cases h : (k + 1) % 2 = 0
    · rw [if_pos h, lin_mul_succ, show sDer a (k + 1) = a (k + 1 + 1) from if_pos h, show sDer a k = 0 from if_neg (by omega), bm_zero, xor_zero', UInt8.xor_comm]
    · rw [if_neg h, show sDer a (k + 1) = 0 from if_neg h, show sDer a k = a (k + 1) from if_pos (by omega), UInt8.zero_xor, UInt8.xor_self]
theorem Low.der {n : Nat} {a : Ser} (h : Low n a) : Low n (sDer a) := fun k hk => by
  show (if k % 2 = 0 then a (k + 1) else 0) = 0
  rw [h (k + 1) (by omega)]; exact ite_self _
end Go.Proofs.Ytdpkeffkpecmjaa
/- Plain facts: the key equation, and what Euclid's steps find. -/
namespace Go.Proofs.Ytdpkeffkpecmjaa
open Go.RowKit
set_option linter.unusedVariables false

instance : Std.Associative sAdd := ⟨add_assoc_s⟩
instance : Std.Commutative sAdd := ⟨add_comm_s⟩
instance : Std.Associative sMul := ⟨mul_assoc_s⟩
instance : Std.Commutative sMul := ⟨mul_comm_s⟩
theorem nil_add_s (a : Ser) : sAdd sNil a = a := by rw [add_comm_s, add_nil_s]
theorem add_drop (a b : Ser) : sAdd a (sAdd a b) = b := by rw [← add_assoc_s, add_self_s, nil_add_s]
theorem add_both (a b x : Ser) : sAdd (sAdd a x) (sAdd b x) = sAdd a b := by
  rw [show sAdd (sAdd a x) (sAdd b x) = sAdd (sAdd a b) (sAdd x x) by ac_rfl, add_self_s, add_nil_s]
theorem eq_of_add {a b : Ser} (h : sAdd a b = sNil) : a = b := funext fun k => xor_zero_eq (congrFun h k)
theorem add_move {a b c : Ser} (h : a = sAdd b c) : c = sAdd a b := by
  rw [h, show sAdd (sAdd b c) b = sAdd b (sAdd b c) by ac_rfl, add_drop]

/-- The product of the (1 + x X) over a list of powers. -/
def pol : List Nat → Ser
  | [] => sOne
  | k :: K => sMul (sLin (pw 29 2 k)) (pol K)
/-- The amounts' polynomial. -/
def om (y : Nat → UInt8) : List Nat → Ser
  | [] => sNil
  | k :: K => sAdd (sScl (y k) (pol K)) (sMul (sLin (pw 29 2 k)) (om y K))
/-- The syndromes of amounts y at these powers, all of them. -/
def sig (y : Nat → UInt8) : List Nat → Ser
  | [] => sNil
  | k :: K => sAdd (sScl (y k) (sGeo (pw 29 2 k))) (sig y K)
theorem key_eq (y : Nat → UInt8) : ∀ K, sMul (sig y K) (pol K) = om y K
  | [] => nil_mul_s _
  | k :: K => by
    rw [sig, pol, om, add_mul_s, mul_scl_s]
    congr 1
    · rw [← mul_assoc_s, mul_comm_s (sGeo _), lin_geo, one_mul_s]
    · rw [← key_eq y K]; ac_rfl
theorem pol_append : ∀ A B, pol (A ++ B) = sMul (pol A) (pol B)
  | [], B => (one_mul_s _).symm
  | k :: A, B => by rw [List.cons_append, pol, pol, pol_append A B, mul_assoc_s]
theorem pol_low : ∀ K, Low (K.length + 1) (pol K)
  | [] => fun k hk => by simp at hk; simp [pol, sOne]; omega
  | k :: K => ((Low.lin _).mul (pol_low K)).mono (by simp; omega)
theorem om_low (y : Nat → UInt8) : ∀ K, Low K.length (om y K)
  | [] => fun _ _ => rfl
  | k :: K => Low.add ((pol_low K).scl _) (((Low.lin _).mul (om_low y K)).mono (by simp; omega))
theorem pol_zero : ∀ K, pol K 0 = 1
  | [] => rfl
  | k :: K => by rw [pol, lin_mul_zero, pol_zero K]
theorem pol_top : ∀ K, pol K K.length ≠ 0
  | [] => by decide
  | k :: K => by
    rw [pol, List.length_cons, lin_mul_succ, pol_low K _ (Nat.le_refl _), UInt8.zero_xor]
    exact bm_ne one_d (pw_ne one_d _) (pol_top K)
/-- What undoes the power k. -/
def xi (k : Nat) : UInt8 := pwI 29 2 (-(k : Int))
theorem pwI_eq (n : Nat) : pwI 29 2 (n : Int) = pw 29 2 n := by
  unfold pwI
  rw [show (((n : Int) % 255).toNat) = n % 255 by omega, ← pw_mod one_d]
theorem pwI_mul (a b : Int) : bm 29 (pwI 29 2 a) (pwI 29 2 b) = pwI 29 2 (a + b) := by
  unfold pwI
  rw [← pw_add, pw_mod one_d]
  congr 1
  omega
theorem pwI_ne (a : Int) : pwI 29 2 a ≠ 0 := pw_ne one_d _
theorem pwI_inj {a b : Int} (h : pwI 29 2 a = pwI 29 2 b) : a % 255 = b % 255 := by
  unfold pwI at h
  have h1 := Int.emod_nonneg a (show (255 : Int) ≠ 0 by omega)
  have h2 := Int.emod_lt_of_pos a (show (0 : Int) < 255 by omega)
  have h3 := Int.emod_nonneg b (show (255 : Int) ≠ 0 by omega)
  have h4 := Int.emod_lt_of_pos b (show (0 : Int) < 255 by omega)
  have := pw_inj one_d (i := (a % 255).toNat) (j := (b % 255).toNat) (by omega) (by omega) h
  omega
theorem lin_at {j k : Nat} (hj : j < 255) (hk : k < 255) {N : Nat} (hN : 2 ≤ N) : sEv (sLin (pw 29 2 j)) (xi k) N = 0 ↔ j = k := by
  rw [ev_lin _ _ hN, ← pwI_eq, xi, pwI_mul]
  constructor
  · intro h
    have h1 : pwI 29 2 0 = pwI 29 2 ((j : Int) + -(k : Int)) := (show pwI 29 2 0 = 1 from rfl).trans (xor_zero_eq h)
    have := pwI_inj h1
    omega
  · rintro rfl
    rw [show (j : Int) + -(j : Int) = 0 by omega]; rfl
theorem pol_at {k : Nat} (hk : k < 255) : ∀ (K : List Nat), (∀ j ∈ K, j < 255) → ∀ {N : Nat}, K.length + 3 ≤ N → (sEv (pol K) (xi k) N = 0 ↔ k ∈ K)
  | [], _, N, hN => by
    have : sEv (pol []) (xi k) N = 1 := by
      rw [ev_to (m := 1) (pol_low []) (by simp at hN; omega)]
      show 0 ^^^ bm 29 1 (pw 29 (xi k) 0) = 1
      rw [one_bm]
      show (0 : UInt8) ^^^ 1 = 1
      decide
    rw [this]; simp
  | j :: K, hK, N, hN => by
    simp only [List.length_cons] at hN
    rw [pol, ev_mul (Low.lin _) (pol_low K) _ (by omega), List.mem_cons]
    have h1 := lin_at (hK j (by simp)) hk (N := N) (by omega)
    have h2 := pol_at hk K (fun i hi => hK i (by simp [hi])) (N := N) (by omega)
    constructor
    · intro h
      rcases bm_zero_or h with h | h
      · exact .inl (h1.1 h).symm
      · exact .inr (h2.1 h)
    · rintro (h | h)
      · rw [h1.2 h.symm, zero_bm]
      · rw [h2.2 h, bm_zero]
/-- Forney's rule: at its own place the amounts' polynomial and the slope differ by the amount alone. -/
theorem forney (y : Nat → UInt8) {k : Nat} (hk : k < 255) : ∀ (K : List Nat), K.Nodup → (∀ j ∈ K, j < 255) → k ∈ K → ∀ {N : Nat}, K.length + 3 ≤ N →
    ∃ c, c ≠ 0 ∧ sEv (om y K) (xi k) N = bm 29 (y k) c ∧ sEv (sDer (pol K)) (xi k) N = bm 29 (pw 29 2 k) c
  | [], _, _, h, _, _ => by simp at h
  | j :: K, hn, hK, hm, N, hN => by
    simp only [List.length_cons] at hN
    have hnd := List.nodup_cons.1 hn
    have hK' : ∀ i ∈ K, i < 255 := fun i hi => hK i (by simp [hi])
    have hl := lin_at (hK j (by simp)) hk (N := N) (by omega)
    have e1 : sEv (om y (j :: K)) (xi k) N = bm 29 (y j) (sEv (pol K) (xi k) N) ^^^ bm 29 (sEv (sLin (pw 29 2 j)) (xi k) N) (sEv (om y K) (xi k) N) := by
      rw [om, ev_add, ev_scl, ev_mul (Low.lin _) (om_low y K) _ (by omega)]
    have e2 : sEv (sDer (pol (j :: K))) (xi k) N = bm 29 (pw 29 2 j) (sEv (pol K) (xi k) N) ^^^ bm 29 (sEv (sLin (pw 29 2 j)) (xi k) N) (sEv (sDer (pol K)) (xi k) N) := by
      rw [pol, lin_der, ev_add, ev_scl, ev_mul (Low.lin _) (pol_low K).der _ (by omega)]
    by_cases hjk : j = k
    · subst hjk
      refine ⟨sEv (pol K) (xi j) N, fun h => hnd.1 ((pol_at hk K hK' (by omega)).1 h), ?_, ?_⟩
      · rw [e1, hl.2 rfl, zero_bm, xor_zero']
      · rw [e2, hl.2 rfl, zero_bm, xor_zero']
    · have hkm : k ∈ K := by
        rcases List.mem_cons.1 hm with h | h
        · exact absurd h.symm hjk
        · exact h
      obtain ⟨c, hc, h1, h2⟩ := forney y hk K hnd.2 hK' hkm (N := N) (by omega)
      have hp := (pol_at hk K hK' (N := N) (by omega)).2 hkm
      refine ⟨bm 29 (sEv (sLin (pw 29 2 j)) (xi k) N) c, bm_ne one_d (fun h => hjk (hl.1 h)) hc, ?_, ?_⟩
      · rw [e1, hp, bm_zero, UInt8.zero_xor, h1, ← bm_assoc, bm_comm 29 _ (y k), bm_assoc]
      · rw [e2, hp, bm_zero, UInt8.zero_xor, h2, ← bm_assoc, bm_comm 29 _ (pw 29 2 k), bm_assoc]

/-- What holds through Euclid's steps. -/
structure Euc (p lost : Nat) (t rest next times nt : List UInt8) (uP uN : Ser) : Prop where
  tr : Tidy rest
  tn : Tidy next
  tt : Tidy nt
  l1 : next.length < rest.length
  l2 : times.length < nt.length
  l3 : nt.length + rest.length = p + 2
  l4 : p + lost + 2 ≤ 2 * rest.length
  e1 : cf rest = sAdd (sMul (sPow p) uP) (sMul (cf times) (cf t))
  e2 : cf next = sAdd (sMul (sPow p) uN) (sMul (cf nt) (cf t))
  det : sAdd (sMul uP (cf nt)) (sMul uN (cf times)) = sOne
theorem Euc.step {p lost : Nat} {t rest next times nt : List UInt8} {uP uN : Ser} (h : Euc p lost t rest next times nt uP uN) (hc : p + lost + 2 ≤ 2 * next.length) :
    Euc p lost t next (modS 29 rest next) nt (trimS (plusS times (mulS 29 (quoS 29 rest next) nt))) uN (sAdd uP (sMul (cf (quoS 29 rest next)) uN)) := by
  have hl1 := h.l1
  have hl2 := h.l2
  have hl3 := h.l3
  have hn0 : 0 < next.length := by omega
  have hne : trimS next ≠ [] := by rw [trim_id h.tn]; intro h; rw [h] at hn0; simp at hn0
  have hq : (quoS 29 rest next).length = rest.length - next.length + 1 := by
    rw [quoS, trim_id h.tr, trim_id h.tn, if_neg (by omega), (divS_len 29 rest next).2]
  have hqt : Tidy (quoS 29 rest next) := quo_tidy one_d hne
  have hm := mul_size hqt h.tt (by omega) (by omega)
  have hmt : Tidy (mulS 29 (quoS 29 rest next) nt) := mul_tidy one_d _ _
  have htop := tidy_top hmt (by omega)
  have hpl : (plusS times (mulS 29 (quoS 29 rest next) nt)).length = (mulS 29 (quoS 29 rest next) nt).length := by rw [plus_len]; omega
  have hpt : Tidy (plusS times (mulS 29 (quoS 29 rest next) nt)) := .inr (by
    rw [hpl, cf_plus, cf_ge (l := times) (by omega), UInt8.zero_xor]
    exact htop)
  have hms := mod_short (P := 29) one_d (p := rest) hne
  rw [trim_id h.tn] at hms
  have hdb := congrArg cf (div_back one_d (p := rest) hne)
  rw [cf_trim_s, cf_trim_s, cf_plus_s, cf_mul_s] at hdb
  have hmod := add_move hdb.symm
  refine ⟨h.tn, mod_tidy _ _ _, trim_tidy _, hms, by rw [trim_id hpt, hpl]; omega, by rw [trim_id hpt, hpl]; omega, hc, h.e2, ?_, ?_⟩
  · rw [hmod, cf_trim_s, cf_plus_s, cf_mul_s, h.e1, h.e2]
    simp only [mul_add_s, add_mul_s]
    ac_rfl
  · rw [cf_trim_s, cf_plus_s, cf_mul_s]
    simp only [mul_add_s, add_mul_s]
    rw [show sMul (sMul (cf (quoS 29 rest next)) uN) (cf nt) = sMul uN (sMul (cf (quoS 29 rest next)) (cf nt)) by ac_rfl, add_both, add_comm_s]
    exact h.det
theorem Euc.stop {p lost : Nat} {t : List UInt8} : ∀ (n : Nat) (rest next times nt : List UInt8) (uP uN : Ser), Euc p lost t rest next times nt uP uN → next.length ≤ n →
    ∃ rest' next' times' uP' uN', Euc p lost t rest' next' times' (besideGo p lost n rest next times nt) uP' uN' ∧ 2 * next'.length < p + lost + 2
  | 0, rest, next, times, nt, uP, uN, h, hf => ⟨rest, next, times, uP, uN, h, by omega⟩
  | n + 1, rest, next, times, nt, uP, uN, h, hf => by
    rw [besideGo]
    split
    · rename_i hc
      have hs := h.step hc
      exact Euc.stop n _ _ _ _ _ _ hs (by have := hs.l1; omega)
    · rename_i hc
      exact ⟨rest, next, times, uP, uN, h, by omega⟩
theorem cf_xp (p : Nat) : cf (xp p) = sPow p := funext fun k => by
  unfold xp
  rw [cf_set _ _ _ _ (by simp)]
  show _ = if k = p then 1 else 0
  split
  · rfl
  · exact cf_zeros _ _
theorem cf_one : cf [1] = sOne := funext fun k => by
  cases k with
  | zero => rfl
  | succ k => show ([] : List UInt8).getD k 0 = _; simp [sOne]
theorem cf_nil : cf [] = sNil := funext fun k => rfl
theorem Euc.start {p lost : Nat} (t : List UInt8) (ht : Tidy t) (hl : t.length ≤ p) (hlo : lost ≤ p) : Euc p lost t (xp p) t [] [1] sOne sNil :=
  ⟨xp_tidy p, ht, .inr (by decide), by simp [xp]; omega, by simp, by simp [xp]; omega, by simp [xp]; omega,
   by rw [cf_xp, cf_nil, nil_mul_s, add_nil_s, mul_one_s], by rw [mul_comm_s, nil_mul_s, nil_add_s, cf_one, one_mul_s], by rw [cf_one, cf_nil, one_mul_s, nil_mul_s, add_nil_s]⟩
/-- The highest coefficient of a product. -/
theorem mul_top {v a : Ser} {d m : Nat} (hv : Low (d + 1) v) (ha : Low (m + 1) a) : sMul v a (d + m) = bm 29 (v d) (a m) := by
  show sg _ (d + m + 1) = _
  rw [show d + m + 1 = (d + 1) + m by omega, sg_more (n := d + 1) (fun i hi => by rw [hv i hi, zero_bm]) m, sg, sg_zero d fun i hi => by rw [ha _ (by omega), bm_zero]]
  rw [UInt8.zero_xor, show d + m - d = m by omega]
theorem low_one {v a : Ser} {d : Nat} (hv : Low (d + 1) v) (h0 : v d ≠ 0) (hp : Low (d + 1) (sMul v a)) : ∀ j, Low (j + 1) a → Low 1 a
  | 0, h => h
  | j + 1, h => low_one hv h0 hp j fun k hk => by
    by_cases he : k = j + 1
    · subst he
      have := mul_top hv h
      rw [hp _ (by omega)] at this
      rcases bm_zero_or this.symm with h | h
      · exact absurd h h0
      · exact h
    · exact h k (by omega)
theorem Low.shift {p n : Nat} {a b : Ser} (h : Low n (sAdd (sMul (sPow p) a) b)) {m : Nat} (hb : Low m b) : Low (max n m) a := fun k hk => by
  have h1 := h (k + p) (by omega)
  have h2 : sAdd (sMul (sPow p) a) b (k + p) = a k ^^^ b (k + p) := by
    show sMul (sPow p) a (k + p) ^^^ _ = _
    rw [pow_mul_s, if_pos (by omega), Nat.add_sub_cancel]
  rw [h2, hb (k + p) (by omega), xor_zero'] at h1
  exact h1
/-- What Euclid's steps find is the locator of the turned ones, but for a factor. -/
theorem sugiyama {p lost : Nat} (t : List UInt8) (ht : Tidy t) (hl : t.length ≤ p) (hlo : lost ≤ p) (T : List Nat) (hT : T.Nodup) (hT2 : ∀ k ∈ T, k < 255) (hbound : 2 * T.length + lost ≤ p) (O W : Ser)
    (hO : Low (lost + T.length) O) (hkey : O = sAdd (sMul (sPow p) W) (sMul (pol T) (cf t))) {N : Nat} (hN : 4 * p + 100 ≤ N) (hne : ∀ k ∈ T, sEv O (xi k) N ≠ 0) :
    cf (besideS p lost t) 0 ≠ 0 ∧ sScl (inv 29 (cf (besideS p lost t) 0)) (cf (besideS p lost t)) = pol T := by
  obtain ⟨rest, next, times, uP, uN, h, hs⟩ := Euc.stop t.length (xp p) t [] [1] sOne sNil (Euc.start t ht hl hlo) (Nat.le_refl _)
  have hbe : besideGo p lost t.length (xp p) t [] [1] = besideS p lost t := rfl
  rw [hbe] at h
  generalize besideS p lost t = v at *
  have hl1 := h.l1
  have hl2 := h.l2
  have hl3 := h.l3
  have hl4 := h.l4
  obtain ⟨d, hd⟩ : ∃ d, v.length = d + 1 := ⟨v.length - 1, by omega⟩
  have hvl : Low (d + 1) (cf v) := hd ▸ low_cf v
  have hvd : cf v d ≠ 0 := by have := tidy_top h.tt (by omega); rwa [hd, Nat.add_sub_cancel] at this
  have hLl := pol_low T
  -- the two solutions are one but for a factor
  have hvO : Low p (sMul (cf v) O) := (hvl.mul hO).mono (by omega)
  have hLr : Low p (sMul (pol T) (cf next)) := (hLl.mul (low_cf next)).mono (by omega)
  have hsum : sAdd (sMul (cf v) O) (sMul (pol T) (cf next)) = sMul (sPow p) (sAdd (sMul (cf v) W) (sMul (pol T) uN)) := by
    rw [hkey, h.e2]
    simp only [mul_add_s]
    rw [show sMul (pol T) (sMul (cf v) (cf t)) = sMul (cf v) (sMul (pol T) (cf t)) by ac_rfl, add_both]
    ac_rfl
  have hz : sAdd (sMul (cf v) W) (sMul (pol T) uN) = sNil := funext fun k => by
    have h1 := congrFun hsum (k + p)
    rw [pow_mul_s, if_pos (by omega), Nat.add_sub_cancel] at h1
    rw [← h1]
    show sMul (cf v) O (k + p) ^^^ sMul (pol T) (cf next) (k + p) = 0
    rw [hvO _ (by omega), hLr _ (by omega)]; rfl
  have hvW := eq_of_add hz
  have hvr : sMul (cf v) O = sMul (pol T) (cf next) := by
    rw [hz, show sMul (sPow p) sNil = sNil by rw [mul_comm_s, nil_mul_s]] at hsum
    exact eq_of_add hsum
  -- the factor
  have hfac : pol T = sMul (cf v) (sAdd (sMul (pol T) uP) (sMul W (cf times))) := by
    have h1 : pol T = sMul (pol T) (sAdd (sMul uP (cf v)) (sMul uN (cf times))) := by rw [h.det, mul_one_s]
    rw [mul_add_s] at h1
    rw [mul_add_s]
    refine h1.trans ?_
    rw [show sMul (pol T) (sMul uN (cf times)) = sMul (sMul (pol T) uN) (cf times) by ac_rfl, ← hvW]
    ac_rfl
  have huP : Low (max rest.length (times.length + t.length)) uP := by
    have := low_cf rest
    rw [h.e1] at this
    refine this.shift ?_
    cases htm : times with
    | nil => rw [cf_nil, nil_mul_s]; exact fun _ _ => rfl
    | cons x xs => exact ((show Low (xs.length + 1) (cf (x :: xs)) from low_cf (x :: xs)).mul (low_cf t)).mono (by simp)
  have hW : Low (max (lost + T.length) (T.length + t.length)) W := by
    have := hO
    rw [hkey] at this
    exact this.shift (hLl.mul (low_cf t))
  generalize hα : sAdd (sMul (pol T) uP) (sMul W (cf times)) = α at hfac
  have hαl : Low (3 * p + 50) α := by
    rw [← hα]
    have h1 := hLl.mul huP
    have h2 : Low (max (lost + T.length) (T.length + t.length) + times.length) (sMul W (cf times)) := (Low.mul (hW.mono (Nat.le_succ _)) (low_cf times))
    exact Low.add (h1.mono (by omega)) (h2.mono (by omega))
  have hv0 : cf v 0 ≠ 0 := fun h0 => by
    have h1 := congrFun hfac 0
    rw [pol_zero] at h1
    have h2 : sMul (cf v) α 0 = 0 ^^^ bm 29 (cf v 0) (α (0 - 0)) := rfl
    rw [h2, h0, zero_bm] at h1
    exact absurd h1 (by decide)
  have hOr : O = sMul α (cf next) := mul_cancel hv0 (by rw [hvr, hfac]; ac_rfl)
  -- all of the turned ones are its roots
  have hroot : ∀ k ∈ T, evalS 29 (xi k) v = 0 := fun k hk => by
    have h1 := (pol_at (hT2 k hk) T hT2 (N := N) (by omega)).2 hk
    rw [hfac, ev_mul hvl hαl _ (by omega)] at h1
    rw [eval_sEv (xi k) v (n := N) (by omega)]
    rcases bm_zero_or h1 with h | h
    · exact h
    · exfalso
      apply hne k hk
      rw [hOr, ev_mul hαl (low_cf next) _ (by omega), h, zero_bm]
  have hdT : T.length ≤ d := by
    rcases Nat.lt_or_ge d T.length with hlt | hge
    · exfalso
      have hz := roots_zero (fun i => xi (T.getD i 0)) T.length v (by omega) (fun i hi => hroot _ (by
        rw [List.getD_eq_getElem?_getD, List.getElem?_eq_getElem hi]; exact List.getElem_mem hi)) (fun i j hij hj he => by
        have e1 : T.getD i 0 = T[i]'(by omega) := by rw [List.getD_eq_getElem?_getD, List.getElem?_eq_getElem (show i < T.length by omega)]; rfl
        have e2 : T.getD j 0 = T[j] := by rw [List.getD_eq_getElem?_getD, List.getElem?_eq_getElem hj]; rfl
        have h1 := hT2 (T[i]'(by omega)) (List.getElem_mem _)
        have h2 := hT2 T[j] (List.getElem_mem _)
        have h3 := pwI_inj (show pwI 29 2 (-((T.getD i 0 : Nat) : Int)) = pwI 29 2 (-((T.getD j 0 : Nat) : Int)) from he)
        rw [e1, e2] at h3
        have h4 : T[i]'(by omega) = T[j] := by omega
        have h5 := (List.pairwise_iff_getElem.1 (List.nodup_iff_pairwise_ne.1 hT)) i j (by omega) hj hij
        exact h5 h4)
      exact hvd (hz d)
    · exact hge
  have hα1 : Low 1 α := low_one hvl hvd (by rw [← hfac]; exact hLl.mono (by omega)) (3 * p + 49) hαl
  have hαs : sMul (cf v) α = sScl (α 0) (cf v) := by
    have h1 : α = sScl (α 0) sOne := funext fun k => by
      show α k = bm 29 (α 0) (if k = 0 then 1 else 0)
      split
      · rename_i h; rw [h, bm_one]
      · rw [bm_zero]; exact hα1 k (by omega)
    have h2 : sMul (cf v) α = sMul (sScl (α 0) sOne) (cf v) := by rw [← h1, mul_comm_s]
    rw [h2, mul_scl_s, one_mul_s]
  rw [hαs] at hfac
  refine ⟨hv0, ?_⟩
  have h1 := congrFun hfac 0
  rw [pol_zero] at h1
  have h2 : bm 29 (α 0) (cf v 0) = 1 := h1.symm
  have h3 : α 0 = inv 29 (cf v 0) := by
    have h4 := congrArg (fun z => bm 29 z (inv 29 (cf v 0))) h2
    simp only [bm_assoc, bm_inv one_d hv0, bm_one, one_bm] at h4
    exact h4
  rw [← h3]
  exact hfac.symm
end Go.Proofs.Ytdpkeffkpecmjaa
/- Plain facts: a word that few places part from a good one is mended. -/
namespace Go.Proofs.Ytdpkeffkpecmjaa
open Go.RowKit
set_option linter.unusedVariables false

/-- What two words differ by, at a power. -/
def er (r c : List UInt8) (k : Nat) : UInt8 := cf r.reverse k ^^^ cf c.reverse k
/-- The amounts, as the syndromes have them. -/
def ya (f : Nat) (r c : List UInt8) (k : Nat) : UInt8 := bm 29 (er r c k) (pw 29 2 (k * f))
theorem er_ge {r c : List UInt8} (h : c.length = r.length) {k : Nat} (hk : r.length ≤ k) : er r c k = 0 := by
  unfold er
  rw [cf_ge (by simpa using hk), cf_ge (by simp; omega)]; rfl
theorem er_at {r c : List UInt8} (h : c.length = r.length) {i : Nat} (hi : i < r.length) : er r c (r.length - 1 - i) = cf r i ^^^ cf c i := by
  unfold er
  rw [cf_reverse _ _ (by omega), cf_reverse _ _ (by omega), h, show r.length - 1 - (r.length - 1 - i) = i by omega]
/-- The sum over a list. -/
def sl (g : Nat → UInt8) : List Nat → UInt8
  | [] => 0
  | k :: K => g k ^^^ sl g K
theorem sg_one (v : UInt8) (k : Nat) : ∀ n, k < n → sg (fun j => if j = k then v else 0) n = v
  | 0, h => by omega
  | n + 1, h => by
    rw [sg]
    by_cases he : k = n
    · subst he
      rw [sg_zero k fun i hi => if_neg (by omega), if_pos rfl, UInt8.zero_xor]
    · rw [sg_one v k n (by omega), if_neg (fun h => he h.symm), xor_zero']
theorem sl_sg (g : Nat → UInt8) (n : Nat) : ∀ K : List Nat, K.Nodup → (∀ k ∈ K, k < n) → sl g K = sg (fun j => if j ∈ K then g j else 0) n
  | [], _, _ => (sg_zero n fun i _ => by simp).symm
  | k :: K, hn, hK => by
    have hnd := List.nodup_cons.1 hn
    rw [sl, sl_sg g n K hnd.2 (fun j hj => hK j (by simp [hj])), ← sg_one (g k) k n (hK k (by simp)), ← sg_xor]
    exact sg_ext n fun j hj => by
      by_cases h1 : j = k
      · subst h1; simp [hnd.1]
      · by_cases h2 : j ∈ K <;> simp [h1, h2]
theorem sig_at (y : Nat → UInt8) (i : Nat) : ∀ K, sig y K i = sl (fun k => bm 29 (y k) (pw 29 2 (k * i))) K
  | [] => rfl
  | k :: K => by
    rw [sig, sl, ← sig_at y i K]
    show bm 29 (y k) (pw 29 (pw 29 2 k) i) ^^^ _ = _
    rw [pw_mul]
/-- The syndromes of a word are those of what parts it from a good one. -/
theorem syn_sig {f p : Nat} {r c : List UInt8} (h : c.length = r.length) (hg : ∀ i, i < p → syn f c i = 0) (K : List Nat) (hn : K.Nodup) (hK : ∀ k ∈ K, k < r.length) (hs : ∀ k, er r c k ≠ 0 → k ∈ K) (i : Nat) (hi : i < p) : syn f r i = sig (ya f r c) K i := by
  have h0 := hg i hi
  unfold syn at h0 ⊢
  have e1 : evalS 29 (pwI 29 2 ((f : Int) + (i : Int))) r.reverse = sEv (er r c) (pw 29 2 (f + i)) r.length := by
    have h1 : evalS 29 (pwI 29 2 ((f : Int) + (i : Int))) r.reverse = evalS 29 (pwI 29 2 ((f : Int) + (i : Int))) (plusS r.reverse c.reverse) := by
      rw [eval_plus, h0, xor_zero']
    rw [h1, eval_sEv _ _ (n := r.length) (by simp [plusS]; omega), cf_plus_s, show (f : Int) + (i : Int) = ((f + i : Nat) : Int) by omega, pwI_eq]
    rfl
  rw [e1, sig_at, sl_sg _ r.length K hn hK]
  exact sg_ext _ fun k hk => by
    show bm 29 (er r c k) (pw 29 (pw 29 2 (f + i)) k) = _
    rw [pw_mul]
    by_cases hm : k ∈ K
    · rw [if_pos hm]
      unfold ya
      rw [bm_assoc, ← pw_add]
      congr 2
      rw [Nat.add_mul, Nat.mul_comm f, Nat.mul_comm i]
    · rw [if_neg hm, show er r c k = 0 from Classical.byContradiction fun h => hm (hs k h), zero_bm]
theorem mul_agree {p : Nat} (c : Ser) {a b : Ser} (h : ∀ j, j < p → a j = b j) (i : Nat) (hi : i < p) : sMul c a i = sMul c b i := sg_ext _ fun j hj => by rw [h _ (by omega)]
theorem mod_exists {p : Nat} {a b : Ser} (h : ∀ j, j < p → a j = b j) : ∃ W, a = sAdd (sMul (sPow p) W) b := ⟨fun k => a (k + p) ^^^ b (k + p), funext fun k => by
  show a k = sMul (sPow p) _ k ^^^ b k
  rw [pow_mul_s]
  by_cases hk : p ≤ k
  · rw [if_pos hk, show k - p + p = k by omega, UInt8.xor_assoc, UInt8.xor_self, xor_zero']
  · rw [if_neg hk, UInt8.zero_xor, h k (by omega)]⟩
/-- TWO GOOD WORDS that differ at no more than p places are one. -/
theorem good_apart {f p : Nat} {r c : List UInt8} (h : c.length = r.length) (hl : r.length ≤ 255) (hc : ∀ i, i < p → syn f c i = 0) (hr : ∀ i, i < p → syn f r i = 0) (K : List Nat) (hn : K.Nodup) (hK : ∀ k ∈ K, k < r.length) (hs : ∀ k, er r c k ≠ 0 → k ∈ K) (hp : K.length ≤ p) : r = c := by
  have hz : om (ya f r c) K = sNil := funext fun i => by
    by_cases hi : i < p
    · rw [← key_eq, mul_comm_s, mul_agree (b := sNil) (pol K) (fun j hj => (syn_sig h hc K hn hK hs j hj).symm.trans (hr j hj)) i hi, mul_comm_s, nil_mul_s]
    · exact om_low _ K i (by omega)
  have he : ∀ k, er r c k = 0 := fun k => Classical.byContradiction fun hk => by
    have hm := hs k hk
    obtain ⟨d, hd, h1, _⟩ := forney (ya f r c) (k := k) (by have := hK k hm; omega) K hn (fun j hj => by have := hK j hj; omega) hm (N := K.length + 3) (Nat.le_refl _)
    rw [hz] at h1
    have h2 : sEv sNil (xi k) (K.length + 3) = 0 := sg_zero _ fun i _ => zero_bm 29 _
    rw [h2] at h1
    rcases bm_zero_or h1.symm with h3 | h3
    · unfold ya at h3
      rcases bm_zero_or h3 with h4 | h4
      · exact hk h4
      · exact pw_ne one_d _ h4
    · exact hd h3
  exact cf_ext h.symm fun i hi => by
    have := he (r.length - 1 - i)
    rw [er_at h hi] at this
    exact xor_zero_eq this

theorem nodup_leN {α : Type} [DecidableEq α] : ∀ (l m : List α), l.Nodup → (∀ x, x ∈ l → x ∈ m) → l.length ≤ m.length
  | [], _, _, _ => Nat.zero_le _
  | a :: t, m, hn, hs => by
    have ha := hs a (by simp)
    have hnd := List.nodup_cons.1 hn
    have := nodup_leN t (m.erase a) hnd.2 (fun x hx => (List.mem_erase_of_ne (fun h => hnd.1 (by rw [← h]; exact hx))).2 (hs x (by simp [hx])))
    rw [List.length_erase_of_mem ha] at this
    have : 0 < m.length := List.length_pos_of_mem ha
    simp only [List.length_cons]; omega
theorem nodup_len {α : Type} [DecidableEq α] {l m : List α} (h1 : l.Nodup) (h2 : m.Nodup) (h : ∀ x, x ∈ l ↔ x ∈ m) : l.length = m.length :=
  Nat.le_antisymm (nodup_leN l m h1 fun x hx => (h x).1 hx) (nodup_leN m l h2 fun x hx => (h x).2 hx)
/-- The powers of the lost places. -/
def lostP (L : List Int) (n : Nat) : List Nat := (powS L n).map Int.toNat
theorem lostP_length (L : List Int) (n : Nat) : (lostP L n).length = L.length := by simp [lostP, powS]
theorem lostP_get {L : List Int} {n : Nat} (h : areS L n = true) (i : Nat) (hi : i < L.length) : ((lostP L n)[i]'(by rw [lostP_length]; exact hi) : Nat) = n - 1 - (L.getD i 0).toNat := by
  have := are_at h i hi
  simp only [lostP, powS, List.map_map, List.getElem_map, Function.comp]
  rw [List.getD_eq_getElem?_getD, List.getElem?_eq_getElem hi] at this ⊢
  simp only [Option.getD_some] at this ⊢
  omega
theorem are_apart {L : List Int} {n : Nat} (h : areS L n = true) {i j : Nat} (hij : i < j) (hj : j < L.length) : L.getD i 0 ≠ L.getD j 0 := fun he => by
  have h2 := (are_at h j hj).2.2
  rw [← he, List.contains_eq_mem, decide_eq_false_iff_not] at h2
  apply h2
  rw [List.getD_eq_getElem?_getD, List.getElem?_eq_getElem (show i < L.length by omega)]
  exact List.mem_take_iff_getElem.2 ⟨i, by omega, rfl⟩
theorem lostP_nodup {L : List Int} {n : Nat} (h : areS L n = true) : (lostP L n).Nodup := by
  rw [List.nodup_iff_pairwise_ne, List.pairwise_iff_getElem]
  intro i j hi hj hij
  rw [lostP_length] at hi hj
  rw [lostP_get h i hi, lostP_get h j hj]
  have h1 := are_at h i hi
  have h2 := are_at h j hj
  have h3 := are_apart h hij hj
  omega
theorem lostP_lt {L : List Int} {n : Nat} (h : areS L n = true) {k : Nat} (hk : k ∈ lostP L n) : k < n := by
  obtain ⟨i, hi, rfl⟩ := List.mem_iff_getElem.1 hk
  rw [lostP_length] at hi
  rw [lostP_get h i hi]
  have := are_at h i hi
  omega
theorem lostP_mem {L : List Int} {n : Nat} (h : areS L n = true) {i : Nat} (hi : i < n) : n - 1 - i ∈ lostP L n ↔ (i : Int) ∈ L := by
  constructor
  · intro hk
    obtain ⟨j, hj, he⟩ := List.mem_iff_getElem.1 hk
    rw [lostP_length] at hj
    rw [lostP_get h j hj] at he
    have := are_at h j hj
    have h3 : L.getD j 0 = (i : Int) := by omega
    rw [← h3, List.getD_eq_getElem?_getD, List.getElem?_eq_getElem hj]
    exact List.getElem_mem hj
  · intro hm
    obtain ⟨j, hj, he⟩ := List.mem_iff_getElem.1 hm
    have h1 := lostP_get h j hj
    rw [List.getD_eq_getElem?_getD, List.getElem?_eq_getElem hj, Option.getD_some, he, Int.toNat_natCast] at h1
    rw [← h1]
    exact List.getElem_mem _
theorem cf_two (X : UInt8) : cf [1, X] = sLin X := funext fun k => by
  match k with
  | 0 => rfl
  | 1 => rfl
  | k + 2 => show ([] : List UInt8).getD k 0 = _; simp [sLin]
theorem ofTo_pol {L : List Int} {n : Nat} (h : areS L n = true) : ∀ k, k ≤ L.length → cf (ofTo (powS L n) k) = pol ((lostP L n).take k)
  | 0, _ => cf_one
  | k + 1, hk => by
    have hlt : k < (lostP L n).length := by rw [lostP_length]; omega
    have h1 := are_at h k (by omega)
    rw [ofTo, cf_mul_s, ofTo_pol h k (by omega), cf_two, List.take_add_one, List.getElem?_eq_getElem hlt, pol_append]
    congr 1
    show sLin _ = sMul (sLin _) sOne
    rw [mul_one_s, lostP_get h k (by omega), pow_get L n k (by omega), ← pwI_eq]
    congr 2
    omega
/-- The turned ones besides the lost. -/
def turnP (r c : List UInt8) (L : List Int) : List Nat := (List.range r.length).filter fun k => decide (er r c k ≠ 0 ∧ k ∉ lostP L r.length)
theorem turnP_mem {r c : List UInt8} {L : List Int} {k : Nat} : k ∈ turnP r c L ↔ k < r.length ∧ er r c k ≠ 0 ∧ k ∉ lostP L r.length := by
  unfold turnP
  rw [List.mem_filter, List.mem_range]
  simp
theorem turnP_nodup (r c : List UInt8) (L : List Int) : (turnP r c L).Nodup := List.Nodup.sublist List.filter_sublist List.nodup_range
/-- All powers where something may be off. -/
def allP (r c : List UInt8) (L : List Int) : List Nat := lostP L r.length ++ turnP r c L
theorem allP_nodup {r c : List UInt8} {L : List Int} (h : areS L r.length = true) : (allP r c L).Nodup := by
  unfold allP
  rw [List.nodup_append]
  exact ⟨lostP_nodup h, turnP_nodup r c L, fun a ha b hb he => (turnP_mem.1 hb).2.2 (he ▸ ha)⟩
theorem allP_lt {r c : List UInt8} {L : List Int} (h : areS L r.length = true) {k : Nat} (hk : k ∈ allP r c L) : k < r.length := by
  rcases List.mem_append.1 hk with h1 | h1
  · exact lostP_lt h h1
  · exact (turnP_mem.1 h1).1
theorem allP_supp {r c : List UInt8} (hlen : c.length = r.length) {L : List Int} {k : Nat} (hk : er r c k ≠ 0) : k ∈ allP r c L := by
  have hlt : k < r.length := Classical.byContradiction fun h => hk (er_ge hlen (by omega))
  by_cases hm : k ∈ lostP L r.length
  · exact List.mem_append.2 (.inl hm)
  · exact List.mem_append.2 (.inr (turnP_mem.2 ⟨hlt, hk, hm⟩))
theorem low_of (p : Nat) (l : List UInt8) (i : Nat) : cf (lowS p l) i = if i < p then cf l i else 0 := by
  unfold lowS; rw [cf_trim, cf_take]
theorem syns_at (f p : Nat) (r : List UInt8) (i : Nat) (hi : i < p) : cf (syns f p r) i = syn f r i := by
  unfold syns; rw [cf_map, if_pos hi]
theorem mem_places (loc : List UInt8) (n : Nat) (x : Int) : ∀ m, x ∈ placesTo loc n m ↔ ∃ i : Nat, i < m ∧ x = (i : Int) ∧ evalS 29 (pwI 29 2 ((i : Int) + 1 - (n : Int))) loc = 0
  | 0 => by simp [placesTo]
  | m + 1 => by
    have ih := mem_places loc n x m
    rw [placesTo]
    split
    · rename_i h0
      rw [List.mem_append, ih, List.mem_singleton]
      constructor
      · rintro (⟨i, h1, h2, h3⟩ | h)
        · exact ⟨i, by omega, h2, h3⟩
        · exact ⟨m, by omega, h, h0⟩
      · rintro ⟨i, h1, h2, h3⟩
        by_cases he : i = m
        · subst he; exact .inr h2
        · exact .inl ⟨i, by omega, h2, h3⟩
    · rename_i h0
      rw [ih]
      constructor
      · rintro ⟨i, h1, h2, h3⟩; exact ⟨i, by omega, h2, h3⟩
      · rintro ⟨i, h1, h2, h3⟩
        by_cases he : i = m
        · subst he; exact absurd h3 h0
        · exact ⟨i, by omega, h2, h3⟩
theorem nodup_places (loc : List UInt8) (n : Nat) : ∀ m, (placesTo loc n m).Nodup
  | 0 => by simp [placesTo]
  | m + 1 => by
    rw [placesTo]
    split
    · rw [List.nodup_append]
      refine ⟨nodup_places loc n m, by simp, fun a ha b hb he => ?_⟩
      obtain ⟨i, h1, h2, _⟩ := (mem_places loc n a m).1 ha
      rw [List.mem_singleton] at hb
      omega
    · exact nodup_places loc n m
/-- The word that is made, place by place. -/
theorem am_at (f p : Nat) (word S loc : List UInt8) (PL : List Int) (hn : PL.Nodup) (hr : ∀ x ∈ PL, 0 ≤ x ∧ x < word.length) (i : Nat) (hi : i < word.length) : ∀ k, k ≤ PL.length → cf (amTo f p word S loc PL k) i = cf word i ^^^ (if (i : Int) ∈ PL.take k then offS f p S loc ((word.length : Int) - 1 - (i : Int)) else 0)
  | 0, _ => by rw [amTo, List.take_zero, if_neg (by simp), xor_zero']
  | k + 1, hk => by
    have hlt : k < PL.length := by omega
    have hgd : PL.getD k 0 = PL[k] := by rw [List.getD_eq_getElem?_getD, List.getElem?_eq_getElem hlt]; rfl
    have hm := hr PL[k] (List.getElem_mem hlt)
    have ht : PL.take (k + 1) = PL.take k ++ [PL[k]] := by rw [List.take_add_one, List.getElem?_eq_getElem hlt]; rfl
    rw [amTo, cf_set _ _ _ _ (by rw [amTo_length, hgd]; omega), am_at f p word S loc PL hn hr i hi k (by omega), ht, hgd]
    by_cases he : (i : Int) = PL[k]
    · have hi2 : i = PL[k].toNat := by omega
      have hnm : (i : Int) ∉ PL.take k := fun hmem => by
        obtain ⟨j, hj, hje⟩ := List.mem_take_iff_getElem.1 hmem
        have := (List.pairwise_iff_getElem.1 (List.nodup_iff_pairwise_ne.1 hn)) j k (by omega) hlt (by omega)
        exact this (hje.trans he)
      rw [if_pos hi2, if_pos (List.mem_append.2 (.inr (List.mem_singleton.2 he))), ← hi2, am_at f p word S loc PL hn hr i hi k (by omega), if_neg hnm, xor_zero', ← he]
    · rw [if_neg (by omega)]
      congr 1
      by_cases hmem : (i : Int) ∈ PL.take k
      · rw [if_pos hmem, if_pos (List.mem_append.2 (.inl hmem))]
      · rw [if_neg hmem, if_neg (fun h => (List.mem_append.1 h).elim hmem fun h => he (List.mem_singleton.1 h))]
theorem tidy_len {l : List UInt8} (ht : Tidy l) {d : Nat} (h1 : Low (d + 1) (cf l)) (h2 : cf l d ≠ 0) : l.length = d + 1 := by
  have hge : d < l.length := Classical.byContradiction fun h => h2 (cf_ge (by omega))
  have := tidy_top ht (by omega)
  rcases Nat.lt_or_ge (d + 1) l.length with h | h
  · exact absurd (h1 (l.length - 1) (by omega)) this
  · omega
end Go.Proofs.Ytdpkeffkpecmjaa
/- Plain facts: the decoder makes the good word that is near enough. -/
namespace Go.Proofs.Ytdpkeffkpecmjaa
open Go.RowKit
set_option linter.unusedVariables false

theorem cf_single (a : UInt8) : cf [a] = sScl a sOne := funext fun k => by
  cases k with
  | zero => show a = bm 29 a 1; rw [bm_one]
  | succ k => show ([] : List UInt8).getD k 0 = bm 29 a (sOne (k + 1)); simp [sOne, bm_zero]
theorem slope_der (l : List UInt8) : cf (slopeS l) = sDer (cf l) := funext fun i => by
  unfold slopeS
  rw [cf_map]
  show _ = if i % 2 = 0 then cf l (i + 1) else 0
  by_cases h1 : i < l.length
  · rw [if_pos h1]
    by_cases h2 : i % 2 = 0
    · by_cases h3 : i + 1 < l.length
      · rw [if_pos ⟨h2, h3⟩, if_pos h2]
      · rw [if_neg (fun h => h3 h.2), if_pos h2, cf_ge (by omega)]
    · rw [if_neg (fun h => h2 h.1), if_neg h2]
  · rw [if_neg h1, cf_ge (l := l) (k := i + 1) (by omega), ite_self]
theorem inv_of {a b : UInt8} (hb : b ≠ 0) (h : bm 29 a b = 1) : a = inv 29 b := by
  have h4 := congrArg (fun z => bm 29 z (inv 29 b)) h
  simp only [bm_assoc, bm_inv one_d hb, bm_one, one_bm] at h4
  exact h4
/-- What the made amount is. -/
theorem off_is {f p : Nat} {S loc : List UInt8} {K : List Nat} {r c : List UInt8} (hn : K.Nodup) (hK : ∀ j ∈ K, j < 255) (hS : cf (lowS p (mulS 29 S loc)) = om (ya f r c) K) (hl : cf loc = pol K) {k : Nat} (hk : k ∈ K) : offS f p S loc (k : Int) = er r c k := by
  have hN : K.length + 3 ≤ K.length + 3 + (lowS p (mulS 29 S loc)).length + loc.length := by omega
  obtain ⟨d, hd, h1, h2⟩ := forney (ya f r c) (hK k hk) K hn hK hk hN
  unfold offS
  have e1 : evalS 29 (pwI 29 2 (-(k : Int))) (lowS p (mulS 29 S loc)) = bm 29 (ya f r c k) d := by
    rw [eval_sEv _ _ (n := K.length + 3 + (lowS p (mulS 29 S loc)).length + loc.length) (by omega), hS]; exact h1
  have e2 : evalS 29 (pwI 29 2 (-(k : Int))) (slopeS loc) = bm 29 (pw 29 2 k) d := by
    rw [eval_sEv _ _ (n := K.length + 3 + (lowS p (mulS 29 S loc)).length + loc.length) (by simp only [slopeS, List.length_map, List.length_range]; omega), slope_der, hl]; exact h2
  have hX : pw 29 2 k ≠ 0 := pw_ne one_d k
  have hXd : bm 29 (pw 29 2 k) d ≠ 0 := bm_ne one_d hX hd
  rw [e1, e2, divZ, if_neg hXd]
  have hq : bm 29 (bm 29 (ya f r c k) d) (inv 29 (bm 29 (pw 29 2 k) d)) = bm 29 (ya f r c k) (xi k) := by
    have h3 : bm 29 (xi k) (pw 29 2 k) = 1 := by
      rw [← pwI_eq, xi, pwI_mul, show -(k : Int) + (k : Int) = 0 by omega]; rfl
    have h4 : bm 29 (bm 29 (ya f r c k) (xi k)) (bm 29 (pw 29 2 k) d) = bm 29 (ya f r c k) d := by
      rw [bm_assoc, ← bm_assoc 29 (xi k), h3, one_bm]
    rw [← h4, bm_assoc, bm_inv one_d hXd, bm_one]
  rw [hq]
  unfold ya xi
  rw [← pwI_eq, bm_assoc, bm_assoc, pwI_mul, pwI_mul]
  have : (((k * f : Nat) : Int) + (-(k : Int) + (k : Int) * (1 - (f : Int)))) = 0 := by
    rw [Int.mul_sub]
    simp
    omega
  rw [this]
  show bm 29 _ 1 = _
  rw [bm_one]
theorem mends {f p : Nat} (hp1 : 1 ≤ p) (hp : p ≤ 254) (r c : List UInt8) (h1 : p < r.length) (h2 : r.length ≤ 255) (hlen : c.length = r.length) (hg : ∀ i, i < p → syn f c i = 0) (L : List Int) (hL : areS L r.length = true) (hb : 2 * (turnP r c L).length + L.length ≤ p) :
    Fine f p r L ∧ dWord f p r L = c ∧ cf (dLoc f p r L) = pol (allP r c L) := by
  have hKn := allP_nodup (c := c) hL
  have hKl : ∀ k ∈ allP r c L, k < r.length := fun k hk => allP_lt hL hk
  have hK5 : ∀ k ∈ allP r c L, k < 255 := fun k hk => by have := hKl k hk; omega
  have hKlen : (allP r c L).length = L.length + (turnP r c L).length := by unfold allP; rw [List.length_append, lostP_length]
  have hsig : ∀ i, i < p → cf (syns f p r) i = sig (ya f r c) (allP r c L) i := fun i hi => by
    rw [syns_at f p r i hi]
    exact syn_sig hlen hg _ hKn hKl (fun k hk => allP_supp hlen hk) i hi
  have hpl : (powS L r.length).length = L.length := by simp [powS]
  have hof : cf (ofTo (powS L r.length) (powS L r.length).length) = pol (lostP L r.length) := by
    rw [hpl, ofTo_pol hL _ (Nat.le_refl _), ← lostP_length L r.length, List.take_length]
  have hpk : pol (allP r c L) = sMul (pol (lostP L r.length)) (pol (turnP r c L)) := pol_append _ _
  -- what is known agrees with the truth below p
  have hknown : ∀ j, j < p → cf (lowS p (mulS 29 (syns f p r) (ofTo (powS L r.length) (powS L r.length).length))) j = sMul (pol (lostP L r.length)) (sig (ya f r c) (allP r c L)) j := fun j hj => by
    rw [low_of, if_pos hj, cf_mul_s, hof, mul_comm_s]
    exact mul_agree _ hsig j hj
  have hagree : ∀ i, i < p → om (ya f r c) (allP r c L) i = sMul (pol (turnP r c L)) (cf (lowS p (mulS 29 (syns f p r) (ofTo (powS L r.length) (powS L r.length).length)))) i := fun i hi => by
    rw [mul_agree _ hknown i hi, ← key_eq, hpk]
    exact congrFun (by ac_rfl) i
  obtain ⟨W, hkey⟩ := mod_exists hagree
  have hne : ∀ k ∈ turnP r c L, sEv (om (ya f r c) (allP r c L)) (xi k) (4 * p + 100) ≠ 0 := fun k hk hz => by
    have hkK : k ∈ allP r c L := List.mem_append.2 (.inr hk)
    obtain ⟨d, hd, e1, _⟩ := forney (ya f r c) (hK5 k hkK) _ hKn hK5 hkK (N := 4 * p + 100) (by omega)
    rw [hz] at e1
    rcases bm_zero_or e1.symm with h3 | h3
    · unfold ya at h3
      rcases bm_zero_or h3 with h4 | h4
      · exact (turnP_mem.1 hk).2.1 h4
      · exact pw_ne one_d _ h4
    · exact hd h3
  have hsug := sugiyama (p := p) (lost := (powS L r.length).length) (lowS p (mulS 29 (syns f p r) (ofTo (powS L r.length) (powS L r.length).length))) (trim_tidy _) (low_len p _) (by omega) (turnP r c L) (turnP_nodup r c L) (fun k hk => hK5 k (List.mem_append.2 (.inr hk))) (by omega) (om (ya f r c) (allP r c L)) W ((om_low _ _).mono (by omega)) hkey (N := 4 * p + 100) (by omega) hne
  have hoth : besideS p (powS L r.length).length (lowS p (mulS 29 (syns f p r) (ofTo (powS L r.length) (powS L r.length).length))) = othersS p (syns f p r) (powS L r.length) := rfl
  rw [hoth] at hsug
  obtain ⟨hlead, hscl⟩ := hsug
  have hloc : cf (dLoc f p r L) = pol (allP r c L) := by
    unfold dLoc locS
    rw [cf_mul_s, cf_mul_s, hof, cf_single, mul_comm_s (cf (othersS p (syns f p r) (powS L r.length))), mul_scl_s, one_mul_s, hscl, hpk]
  have hlt : Tidy (dLoc f p r L) := mul_tidy one_d _ _
  have hll : (dLoc f p r L).length = (allP r c L).length + 1 := tidy_len hlt (by rw [hloc]; exact pol_low _) (by rw [hloc]; exact pol_top _)
  have hmem : ∀ i : Nat, i < r.length → ((i : Int) ∈ dPl f p r L ↔ r.length - 1 - i ∈ allP r c L) := fun i hi => by
    have hx : pwI 29 2 ((i : Int) + 1 - (r.length : Int)) = xi (r.length - 1 - i) := by
      unfold xi
      congr 1
      omega
    have hev : evalS 29 (pwI 29 2 ((i : Int) + 1 - (r.length : Int))) (dLoc f p r L) = 0 ↔ r.length - 1 - i ∈ allP r c L := by
      rw [hx, eval_sEv _ _ (n := (allP r c L).length + 3) (by omega), hloc]
      exact pol_at (by omega) _ hK5 (Nat.le_refl _)
    unfold dPl
    rw [mem_places]
    constructor
    · rintro ⟨j, _, hj, h0⟩
      have : j = i := by omega
      subst this
      exact hev.1 h0
    · intro h
      exact ⟨i, hi, rfl, hev.2 h⟩
  have hin : ∀ x ∈ dPl f p r L, 0 ≤ x ∧ x < r.length := fun x hx => by
    obtain ⟨i, h1, h2, _⟩ := (mem_places _ _ x _).1 hx
    omega
  have hdn : (dPl f p r L).Nodup := nodup_places _ _ _
  have hcount : (dPl f p r L).length = (allP r c L).length := by
    have := nodup_len (α := Int) (l := dPl f p r L) (m := (allP r c L).map fun (k : Nat) => (r.length : Int) - 1 - (k : Int)) hdn (by
      rw [List.nodup_iff_pairwise_ne, List.pairwise_map]
      exact (List.nodup_iff_pairwise_ne.1 hKn).imp (fun h he => h (by omega))) (fun x => by
      constructor
      · intro hx
        obtain ⟨i, hi, rfl, _⟩ := (mem_places _ _ x _).1 hx
        exact List.mem_map.2 ⟨r.length - 1 - i, (hmem i hi).1 hx, by omega⟩
      · intro hx
        obtain ⟨k, hk, rfl⟩ := List.mem_map.1 hx
        have hkl := hKl k hk
        have h3 := (hmem (r.length - 1 - k) (by omega)).2 (by rw [show r.length - 1 - (r.length - 1 - k) = k by omega]; exact hk)
        rw [show ((r.length - 1 - k : Nat) : Int) = (r.length : Int) - 1 - (k : Int) by omega] at h3
        exact h3)
    rw [this, List.length_map]
  have hamt : cf (lowS p (mulS 29 (syns f p r) (dLoc f p r L))) = om (ya f r c) (allP r c L) := funext fun i => by
    rw [low_of]
    split
    · rename_i hi
      rw [cf_mul_s, hloc, mul_comm_s, mul_agree _ hsig i hi, mul_comm_s, key_eq]
    · exact (om_low _ _ i (by omega)).symm
  have hword : dWord f p r L = c := by
    refine cf_ext (by unfold dWord; rw [amTo_length, hlen]) fun i hi => ?_
    have hi' : i < r.length := by unfold dWord at hi; rwa [amTo_length] at hi
    unfold dWord
    rw [am_at f p r _ _ _ hdn hin i hi' _ (Nat.le_refl _), List.take_length]
    have he := er_at hlen hi'
    by_cases hm : r.length - 1 - i ∈ allP r c L
    · rw [if_pos ((hmem i hi').2 hm), show (r.length : Int) - 1 - (i : Int) = ((r.length - 1 - i : Nat) : Int) by omega, off_is hKn hK5 hamt hloc hm, he, ← UInt8.xor_assoc, UInt8.xor_self, UInt8.zero_xor]
    · rw [if_neg (fun h => hm ((hmem i hi').1 h)), xor_zero']
      have h0 : er r c (r.length - 1 - i) = 0 := Classical.byContradiction fun h => hm (allP_supp hlen h)
      rw [he] at h0
      exact xor_zero_eq h0
  refine ⟨⟨h1, h2, hL, by omega, hlead, by omega, ?_⟩, hword, hloc⟩
  rw [hword]
  unfold goodS
  rw [hlen, decide_eq_true h1, decide_eq_true h2, syns_all.2 hg]
  rfl
end Go.Proofs.Ytdpkeffkpecmjaa
/- Plain facts: what the decoder makes without an error is a good word that is near enough; there is one such word alone. -/
namespace Go.Proofs.Ytdpkeffkpecmjaa
open Go.RowKit
set_option linter.unusedVariables false

theorem ofTo_tidy (L : List Int) : ∀ k, Tidy (ofTo L k)
  | 0 => .inr (show cf [1] 0 ≠ 0 by decide)
  | k + 1 => mul_tidy one_d _ _
theorem beside_short {p lost : Nat} (t : List UInt8) (ht : Tidy t) (hl : t.length ≤ p) (hlo : lost ≤ p) : Tidy (besideS p lost t) ∧ 0 < (besideS p lost t).length ∧ 2 * (besideS p lost t).length + lost ≤ p + 2 := by
  obtain ⟨rest, next, times, uP, uN, h, _⟩ := Euc.stop t.length (xp p) t [] [1] sOne sNil (Euc.start t ht hl hlo) (Nat.le_refl _)
  have hbe : besideGo p lost t.length (xp p) t [] [1] = besideS p lost t := rfl
  rw [hbe] at h
  have h2 := h.l2
  have h3 := h.l3
  have h4 := h.l4
  exact ⟨h.tt, by omega, by omega⟩
theorem inv_ne {a : UInt8} (h : a ≠ 0) : inv 29 a ≠ 0 := fun he => by
  have := bm_inv one_d h
  rw [he, bm_zero] at this
  exact absurd this (by decide)
/-- What the decoder makes is near enough. -/
theorem fine_near {f p : Nat} (hp : p ≤ 254) {r : List UInt8} {L : List Int} (h : Fine f p r L) : (dWord f p r L).length = r.length ∧ (∀ i, i < p → syn f (dWord f p r L) i = 0) ∧ 2 * (turnP r (dWord f p r L) L).length + L.length ≤ p := by
  have hlen : (dWord f p r L).length = r.length := amTo_length _ _ _ _ _ _ _
  have hl2 := h.l2
  have hgood := h.good
  unfold goodS at hgood
  simp only [Bool.and_eq_true] at hgood
  refine ⟨hlen, syns_all.1 hgood.2.2, ?_⟩
  have hpl : (powS L r.length).length = L.length := by simp [powS]
  have hof : cf (ofTo (powS L r.length) (powS L r.length).length) = pol (lostP L r.length) := by
    rw [hpl, ofTo_pol h.are _ (Nat.le_refl _), ← lostP_length L r.length, List.take_length]
  have hofl : (ofTo (powS L r.length) (powS L r.length).length).length = L.length + 1 := tidy_len (ofTo_tidy _ _) (by rw [hof, ← lostP_length L r.length]; exact pol_low _) (by rw [hof, ← lostP_length L r.length]; exact pol_top _)
  obtain ⟨hvt, hv0, hvl⟩ := beside_short (p := p) (lost := (powS L r.length).length) (lowS p (mulS 29 (syns f p r) (ofTo (powS L r.length) (powS L r.length).length))) (trim_tidy _) (low_len p _) (by rw [hpl]; exact h.few)
  have hoth : besideS p (powS L r.length).length (lowS p (mulS 29 (syns f p r) (ofTo (powS L r.length) (powS L r.length).length))) = othersS p (syns f p r) (powS L r.length) := rfl
  rw [hoth] at hvt hv0 hvl
  have hs0 := inv_ne h.lead
  have hms : (mulS 29 (othersS p (syns f p r) (powS L r.length)) [inv 29 (cf (othersS p (syns f p r) (powS L r.length)) 0)]).length = (othersS p (syns f p r) (powS L r.length)).length := by
    have ht1 : Tidy [inv 29 (cf (othersS p (syns f p r) (powS L r.length)) 0)] := .inr hs0
    rw [mul_size hvt ht1 hv0 (Nat.zero_lt_one)]
    simp
  have hll : (dLoc f p r L).length = L.length + (othersS p (syns f p r) (powS L r.length)).length := by
    unfold dLoc locS
    rw [mul_size (ofTo_tidy _ _) (mul_tidy one_d _ _) (by omega) (by omega), hofl, hms]
    omega
  have hdeg := h.deg
  -- the lost places are among the places
  have hlost : ∀ x ∈ L, x ∈ dPl f p r L := fun x hx => by
    obtain ⟨j, hj, he⟩ := List.mem_iff_getElem.1 hx
    have ha := are_at h.are j hj
    have hg : L.getD j 0 = x := by rw [List.getD_eq_getElem?_getD, List.getElem?_eq_getElem hj]; exact he
    rw [hg] at ha
    obtain ⟨i, rfl⟩ : ∃ i : Nat, x = i := ⟨x.toNat, by omega⟩
    have hi : i < r.length := by omega
    unfold dPl
    refine (mem_places _ _ _ _).2 ⟨i, hi, rfl, ?_⟩
    have hx2 : pwI 29 2 ((i : Int) + 1 - (r.length : Int)) = xi (r.length - 1 - i) := by
      unfold xi
      congr 1
      omega
    have h0 : evalS 29 (xi (r.length - 1 - i)) (ofTo (powS L r.length) (powS L r.length).length) = 0 := by
      rw [eval_sEv _ _ (n := (lostP L r.length).length + 3) (by rw [hofl, lostP_length]; omega), hof]
      exact (pol_at (by omega) _ (fun k hk => by have := lostP_lt h.are hk; omega) (Nat.le_refl _)).2 ((lostP_mem h.are hi).2 hx)
    rw [hx2]
    unfold dLoc locS
    rw [eval_mul, h0, zero_bm]
  have hin : ∀ x ∈ dPl f p r L, 0 ≤ x ∧ x < r.length := fun x hx => by
    obtain ⟨i, h1, h2, _⟩ := (mem_places _ _ x _).1 hx
    omega
  have hdn : (dPl f p r L).Nodup := nodup_places _ _ _
  have hLn : L.Nodup := by
    rw [List.nodup_iff_pairwise_ne, List.pairwise_iff_getElem]
    intro i j hi hj hij he
    have := are_apart h.are hij hj
    rw [List.getD_eq_getElem?_getD, List.getElem?_eq_getElem hi, List.getD_eq_getElem?_getD, List.getElem?_eq_getElem hj] at this
    exact this he
  have hcount := nodup_leN (α := Int) ((turnP r (dWord f p r L) L).map (fun (k : Nat) => (r.length : Int) - 1 - (k : Int)) ++ L) (dPl f p r L) (by
    rw [List.nodup_append]
    refine ⟨?_, hLn, fun a ha b hb he => ?_⟩
    · rw [List.nodup_iff_pairwise_ne, List.pairwise_map]
      exact (List.nodup_iff_pairwise_ne.1 (turnP_nodup _ _ _)).imp (fun h he => h (by omega))
    · obtain ⟨k, hk, rfl⟩ := List.mem_map.1 ha
      obtain ⟨k1, _, k3⟩ := turnP_mem.1 hk
      apply k3
      have hm := (lostP_mem h.are (i := r.length - 1 - k) (by omega)).2 (by
        rw [show ((r.length - 1 - k : Nat) : Int) = (r.length : Int) - 1 - (k : Int) by omega, he]; exact hb)
      rwa [show r.length - 1 - (r.length - 1 - k) = k by omega] at hm) (fun x hx => by
    rcases List.mem_append.1 hx with hx | hx
    · obtain ⟨k, hk, rfl⟩ := List.mem_map.1 hx
      obtain ⟨k1, k2, _⟩ := turnP_mem.1 hk
      have he := er_at hlen (i := r.length - 1 - k) (by omega)
      rw [show r.length - 1 - (r.length - 1 - k) = k by omega] at he
      rw [he] at k2
      refine Classical.byContradiction fun hno => k2 ?_
      have ham : cf (dWord f p r L) (r.length - 1 - k) = cf r (r.length - 1 - k) := by
        unfold dWord
        rw [am_at f p r _ _ _ hdn hin _ (by omega) _ (Nat.le_refl _), List.take_length, if_neg (by
          rw [show ((r.length - 1 - k : Nat) : Int) = (r.length : Int) - 1 - (k : Int) by omega]; exact hno), xor_zero']
      rw [ham, UInt8.xor_self]
    · exact hlost x hx)
  rw [List.length_append, List.length_map] at hcount
  omega
/-- There is one good word alone that is near enough. -/
theorem near_one {f p : Nat} {r c d : List UInt8} (h2 : r.length ≤ 255) (hc : c.length = r.length) (hd : d.length = r.length) (gc : ∀ i, i < p → syn f c i = 0) (gd : ∀ i, i < p → syn f d i = 0) (L : List Int) (hL : areS L r.length = true) (bc : 2 * (turnP r c L).length + L.length ≤ p) (bd : 2 * (turnP r d L).length + L.length ≤ p) : c = d := by
  have hLc : areS L c.length = true := by rw [hc]; exact hL
  refine good_apart (f := f) (p := p) (r := c) (c := d) (by rw [hc, hd]) (by omega) gd gc (allP c d L) (allP_nodup hLc) (fun k hk => allP_lt hLc hk) (fun k hk => allP_supp (by rw [hc, hd]) hk) ?_
  have hsub := nodup_leN (turnP c d L) (turnP r c L ++ turnP r d L) (turnP_nodup _ _ _) (fun k hk => by
    obtain ⟨k1, k2, k3⟩ := turnP_mem.1 hk
    rw [hc] at k1 k3
    by_cases h1 : er r c k = 0
    · refine List.mem_append.2 (.inr (turnP_mem.2 ⟨k1, fun h3 => k2 ?_, k3⟩))
      unfold er at h1 h3 ⊢
      rw [← xor_zero_eq h1, ← xor_zero_eq h3, UInt8.xor_self]
    · exact List.mem_append.2 (.inl (turnP_mem.2 ⟨k1, h1, k3⟩)))
  rw [List.length_append] at hsub
  unfold allP
  rw [List.length_append, lostP_length]
  omega
end Go.Proofs.Ytdpkeffkpecmjaa
/- Plain facts: Euclid's steps with another bound, as the document has them. -/
namespace Go.Proofs.Ytdpkeffkpecmjaa
open Go.RowKit
set_option linter.unusedVariables false

/-- What holds through Euclid's steps, without the bound at which they stop. -/
structure Eub (p : Nat) (t rest next times nt : List UInt8) (uP uN : Ser) : Prop where
  tr : Tidy rest
  tn : Tidy next
  tt : Tidy nt
  l1 : next.length < rest.length
  l2 : times.length < nt.length
  l3 : nt.length + rest.length = p + 2
  e1 : cf rest = sAdd (sMul (sPow p) uP) (sMul (cf times) (cf t))
  e2 : cf next = sAdd (sMul (sPow p) uN) (sMul (cf nt) (cf t))
  det : sAdd (sMul uP (cf nt)) (sMul uN (cf times)) = sOne
theorem Eub.start {p : Nat} (t : List UInt8) (ht : Tidy t) (hl : t.length ≤ p) : Eub p t (xp p) t [] [1] sOne sNil := by
  have h := Euc.start (p := p) (lost := 0) t ht hl (Nat.zero_le _)
  exact ⟨h.tr, h.tn, h.tt, h.l1, h.l2, h.l3, h.e1, h.e2, h.det⟩
theorem Eub.step {p : Nat} {t rest next times nt : List UInt8} {uP uN : Ser} (h : Eub p t rest next times nt uP uN) (hc : 0 < next.length) :
    Eub p t next (modS 29 rest next) nt (trimS (plusS times (mulS 29 (quoS 29 rest next) nt))) uN (sAdd uP (sMul (cf (quoS 29 rest next)) uN)) := by
  have hl1 := h.l1
  have hl2 := h.l2
  have hl3 := h.l3
  have hn0 := hc
  have hne : trimS next ≠ [] := by rw [trim_id h.tn]; intro h; rw [h] at hn0; simp at hn0
  have hq : (quoS 29 rest next).length = rest.length - next.length + 1 := by
    rw [quoS, trim_id h.tr, trim_id h.tn, if_neg (by omega), (divS_len 29 rest next).2]
  have hqt : Tidy (quoS 29 rest next) := quo_tidy one_d hne
  have hm := mul_size hqt h.tt (by omega) (by omega)
  have hmt : Tidy (mulS 29 (quoS 29 rest next) nt) := mul_tidy one_d _ _
  have htop := tidy_top hmt (by omega)
  have hpl : (plusS times (mulS 29 (quoS 29 rest next) nt)).length = (mulS 29 (quoS 29 rest next) nt).length := by rw [plus_len]; omega
  have hpt : Tidy (plusS times (mulS 29 (quoS 29 rest next) nt)) := .inr (by
    rw [hpl, cf_plus, cf_ge (l := times) (by omega), UInt8.zero_xor]
    exact htop)
  have hms := mod_short (P := 29) one_d (p := rest) hne
  rw [trim_id h.tn] at hms
  have hdb := congrArg cf (div_back one_d (p := rest) hne)
  rw [cf_trim_s, cf_trim_s, cf_plus_s, cf_mul_s] at hdb
  have hmod := add_move hdb.symm
  refine ⟨h.tn, mod_tidy _ _ _, trim_tidy _, hms, by rw [trim_id hpt, hpl]; omega, by rw [trim_id hpt, hpl]; omega, h.e2, ?_, ?_⟩
  · rw [hmod, cf_trim_s, cf_plus_s, cf_mul_s, h.e1, h.e2]
    simp only [mul_add_s, add_mul_s]
    ac_rfl
  · rw [cf_trim_s, cf_plus_s, cf_mul_s]
    simp only [mul_add_s, add_mul_s]
    rw [show sMul (sMul (cf (quoS 29 rest next)) uN) (cf nt) = sMul uN (sMul (cf (quoS 29 rest next)) (cf nt)) by ac_rfl, add_both, add_comm_s]
    exact h.det
/-- The document's steps: down to a remainder of no more coefficients than the bound. -/
def rGo (bound : Nat) : Nat → List UInt8 → List UInt8 → List UInt8 → List UInt8 → List UInt8
  | 0, _, _, _, v => v
  | n + 1, a, b, u, v => if bound < b.length then rGo bound n b (modS 29 a b) v (trimS (plusS u (mulS 29 (quoS 29 a b) v))) else v
theorem Eub.stop {p bound : Nat} {t : List UInt8} : ∀ (n : Nat) (rest next times nt : List UInt8) (uP uN : Ser), Eub p t rest next times nt uP uN → bound < rest.length → next.length ≤ n →
    ∃ rest' next' times' uP' uN', Eub p t rest' next' times' (rGo bound n rest next times nt) uP' uN' ∧ next'.length ≤ bound ∧ bound < rest'.length
  | 0, rest, next, times, nt, uP, uN, h, hb, hf => ⟨rest, next, times, uP, uN, h, by omega, hb⟩
  | n + 1, rest, next, times, nt, uP, uN, h, hb, hf => by
    rw [rGo]
    split
    · rename_i hc
      have hs := h.step (by omega)
      exact Eub.stop n _ _ _ _ _ _ hs hc (by have := hs.l1; omega)
    · rename_i hc
      exact ⟨rest, next, times, uP, uN, h, by omega, hb⟩
/-- What Euclid's steps find, wherever they stop between the two bounds. -/
theorem sugi_core {p lost : Nat} (t : List UInt8) (hl : t.length ≤ p) (v rest next times : List UInt8) (uP uN : Ser) (h : Eub p t rest next times v uP uN) (T : List Nat) (hT : T.Nodup) (hT2 : ∀ k ∈ T, k < 255) (hbv : v.length + (lost + T.length) ≤ p + 1) (hbn : T.length + next.length ≤ p) (hlt : lost + T.length ≤ p) (O W : Ser)
    (hO : Low (lost + T.length) O) (hkey : O = sAdd (sMul (sPow p) W) (sMul (pol T) (cf t))) {N : Nat} (hN : 4 * p + 100 ≤ N) (hne : ∀ k ∈ T, sEv O (xi k) N ≠ 0) :
    cf v 0 ≠ 0 ∧ sScl (inv 29 (cf v 0)) (cf v) = pol T := by
  have hl1 := h.l1
  have hl2 := h.l2
  have hl3 := h.l3
  obtain ⟨d, hd⟩ : ∃ d, v.length = d + 1 := ⟨v.length - 1, by omega⟩
  have hvl : Low (d + 1) (cf v) := hd ▸ low_cf v
  have hvd : cf v d ≠ 0 := by have := tidy_top h.tt (by omega); rwa [hd, Nat.add_sub_cancel] at this
  have hLl := pol_low T
  -- the two solutions are one but for a factor
  have hvO : Low p (sMul (cf v) O) := (hvl.mul hO).mono (by omega)
  have hLr : Low p (sMul (pol T) (cf next)) := (hLl.mul (low_cf next)).mono (by omega)
  have hsum : sAdd (sMul (cf v) O) (sMul (pol T) (cf next)) = sMul (sPow p) (sAdd (sMul (cf v) W) (sMul (pol T) uN)) := by
    rw [hkey, h.e2]
    simp only [mul_add_s]
    rw [show sMul (pol T) (sMul (cf v) (cf t)) = sMul (cf v) (sMul (pol T) (cf t)) by ac_rfl, add_both]
    ac_rfl
  have hz : sAdd (sMul (cf v) W) (sMul (pol T) uN) = sNil := funext fun k => by
    have h1 := congrFun hsum (k + p)
    rw [pow_mul_s, if_pos (by omega), Nat.add_sub_cancel] at h1
    rw [← h1]
    show sMul (cf v) O (k + p) ^^^ sMul (pol T) (cf next) (k + p) = 0
    rw [hvO _ (by omega), hLr _ (by omega)]; rfl
  have hvW := eq_of_add hz
  have hvr : sMul (cf v) O = sMul (pol T) (cf next) := by
    rw [hz, show sMul (sPow p) sNil = sNil by rw [mul_comm_s, nil_mul_s]] at hsum
    exact eq_of_add hsum
  -- the factor
  have hfac : pol T = sMul (cf v) (sAdd (sMul (pol T) uP) (sMul W (cf times))) := by
    have h1 : pol T = sMul (pol T) (sAdd (sMul uP (cf v)) (sMul uN (cf times))) := by rw [h.det, mul_one_s]
    rw [mul_add_s] at h1
    rw [mul_add_s]
    refine h1.trans ?_
    rw [show sMul (pol T) (sMul uN (cf times)) = sMul (sMul (pol T) uN) (cf times) by ac_rfl, ← hvW]
    ac_rfl
  have huP : Low (max rest.length (times.length + t.length)) uP := by
    have := low_cf rest
    rw [h.e1] at this
    refine this.shift ?_
    cases htm : times with
    | nil => rw [cf_nil, nil_mul_s]; exact fun _ _ => rfl
    | cons x xs => exact ((show Low (xs.length + 1) (cf (x :: xs)) from low_cf (x :: xs)).mul (low_cf t)).mono (by simp)
  have hW : Low (max (lost + T.length) (T.length + t.length)) W := by
    have := hO
    rw [hkey] at this
    exact this.shift (hLl.mul (low_cf t))
  generalize hα : sAdd (sMul (pol T) uP) (sMul W (cf times)) = α at hfac
  have hαl : Low (3 * p + 50) α := by
    rw [← hα]
    have h1 := hLl.mul huP
    have h2 : Low (max (lost + T.length) (T.length + t.length) + times.length) (sMul W (cf times)) := (Low.mul (hW.mono (Nat.le_succ _)) (low_cf times))
    exact Low.add (h1.mono (by omega)) (h2.mono (by omega))
  have hv0 : cf v 0 ≠ 0 := fun h0 => by
    have h1 := congrFun hfac 0
    rw [pol_zero] at h1
    have h2 : sMul (cf v) α 0 = 0 ^^^ bm 29 (cf v 0) (α (0 - 0)) := rfl
    rw [h2, h0, zero_bm] at h1
    exact absurd h1 (by decide)
  have hOr : O = sMul α (cf next) := mul_cancel hv0 (by rw [hvr, hfac]; ac_rfl)
  -- all of the turned ones are its roots
  have hroot : ∀ k ∈ T, evalS 29 (xi k) v = 0 := fun k hk => by
    have h1 := (pol_at (hT2 k hk) T hT2 (N := N) (by omega)).2 hk
    rw [hfac, ev_mul hvl hαl _ (by omega)] at h1
    rw [eval_sEv (xi k) v (n := N) (by omega)]
    rcases bm_zero_or h1 with h | h
    · exact h
    · exfalso
      apply hne k hk
      rw [hOr, ev_mul hαl (low_cf next) _ (by omega), h, zero_bm]
  have hdT : T.length ≤ d := by
    rcases Nat.lt_or_ge d T.length with hlt | hge
    · exfalso
      have hz := roots_zero (fun i => xi (T.getD i 0)) T.length v (by omega) (fun i hi => hroot _ (by
        rw [List.getD_eq_getElem?_getD, List.getElem?_eq_getElem hi]; exact List.getElem_mem hi)) (fun i j hij hj he => by
        have e1 : T.getD i 0 = T[i]'(by omega) := by rw [List.getD_eq_getElem?_getD, List.getElem?_eq_getElem (show i < T.length by omega)]; rfl
        have e2 : T.getD j 0 = T[j] := by rw [List.getD_eq_getElem?_getD, List.getElem?_eq_getElem hj]; rfl
        have h1 := hT2 (T[i]'(by omega)) (List.getElem_mem _)
        have h2 := hT2 T[j] (List.getElem_mem _)
        have h3 := pwI_inj (show pwI 29 2 (-((T.getD i 0 : Nat) : Int)) = pwI 29 2 (-((T.getD j 0 : Nat) : Int)) from he)
        rw [e1, e2] at h3
        have h4 : T[i]'(by omega) = T[j] := by omega
        have h5 := (List.pairwise_iff_getElem.1 (List.nodup_iff_pairwise_ne.1 hT)) i j (by omega) hj hij
        exact h5 h4)
      exact hvd (hz d)
    · exact hge
  have hα1 : Low 1 α := low_one hvl hvd (by rw [← hfac]; exact hLl.mono (by omega)) (3 * p + 49) hαl
  have hαs : sMul (cf v) α = sScl (α 0) (cf v) := by
    have h1 : α = sScl (α 0) sOne := funext fun k => by
      show α k = bm 29 (α 0) (if k = 0 then 1 else 0)
      split
      · rename_i h; rw [h, bm_one]
      · rw [bm_zero]; exact hα1 k (by omega)
    have h2 : sMul (cf v) α = sMul (sScl (α 0) sOne) (cf v) := by rw [← h1, mul_comm_s]
    rw [h2, mul_scl_s, one_mul_s]
  rw [hαs] at hfac
  refine ⟨hv0, ?_⟩
  have h1 := congrFun hfac 0
  rw [pol_zero] at h1
  have h2 : bm 29 (α 0) (cf v 0) = 1 := h1.symm
  have h3 : α 0 = inv 29 (cf v 0) := by
    have h4 := congrArg (fun z => bm 29 z (inv 29 (cf v 0))) h2
    simp only [bm_assoc, bm_inv one_d hv0, bm_one, one_bm] at h4
    exact h4
  rw [← h3]
  exact hfac.symm
/-- The factor that the document's divisor finds. -/
def rDiv (p lost : Nat) (t : List UInt8) : List UInt8 := rGo ((p + lost) / 2) t.length (xp p) t [] [1]
theorem doc_sugi {p lost : Nat} (t : List UInt8) (ht : Tidy t) (hl : t.length ≤ p) (T : List Nat) (hT : T.Nodup) (hT2 : ∀ k ∈ T, k < 255) (hbound : 2 * T.length + lost ≤ p) (O W : Ser) (hO : Low (lost + T.length) O) (hkey : O = sAdd (sMul (sPow p) W) (sMul (pol T) (cf t))) {N : Nat} (hN : 4 * p + 100 ≤ N) (hne : ∀ k ∈ T, sEv O (xi k) N ≠ 0) :
    cf (rDiv p lost t) 0 ≠ 0 ∧ sScl (inv 29 (cf (rDiv p lost t) 0)) (cf (rDiv p lost t)) = pol T := by
  obtain ⟨rest, next, times, uP, uN, h, h1, h2⟩ := Eub.stop (bound := (p + lost) / 2) t.length (xp p) t [] [1] sOne sNil (Eub.start t ht hl) (by simp [xp]; omega) (Nat.le_refl _)
  have hbe : rGo ((p + lost) / 2) t.length (xp p) t [] [1] = rDiv p lost t := rfl
  rw [hbe] at h
  have hl3 := h.l3
  exact sugi_core (lost := lost) t hl (rDiv p lost t) rest next times uP uN h T hT hT2 (by omega) (by omega) (by omega) O W hO hkey hN hne
/-- How long what it finds can be. -/
theorem doc_short {p lost : Nat} (t : List UInt8) (ht : Tidy t) (hl : t.length ≤ p) (hlo : lost ≤ p) : Tidy (rDiv p lost t) ∧ 0 < (rDiv p lost t).length ∧ (rDiv p lost t).length + (p + lost) / 2 ≤ p + 1 := by
  obtain ⟨rest, next, times, uP, uN, h, h1, h2⟩ := Eub.stop (bound := (p + lost) / 2) t.length (xp p) t [] [1] sOne sNil (Eub.start t ht hl) (by simp [xp]; omega) (Nat.le_refl _)
  have hbe : rGo ((p + lost) / 2) t.length (xp p) t [] [1] = rDiv p lost t := rfl
  rw [hbe] at h
  have h3 := h.l2
  have h4 := h.l3
  exact ⟨h.tt, by omega, by omega⟩
end Go.Proofs.Ytdpkeffkpecmjaa
