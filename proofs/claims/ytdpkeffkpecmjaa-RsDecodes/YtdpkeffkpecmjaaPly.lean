/- Plain facts of polynomials over a field, as lists of coefficients. -/
import Derived.Test.YtdpkeffkpecmjaaMtc
namespace Go.Proofs.Ytdpkeffkpecmjaa
open Go
set_option linter.unusedVariables false

/-- The k-th coefficient. -/
def cf (l : List UInt8) (k : Nat) : UInt8 := l.getD k 0
theorem cf_ge {l : List UInt8} {k : Nat} (h : l.length ≤ k) : cf l k = 0 := by
  unfold cf; rw [List.getD_eq_getElem?_getD, List.getElem?_eq_none h]; rfl
theorem cf_cons_zero (a : UInt8) (l : List UInt8) : cf (a :: l) 0 = a := rfl
theorem cf_cons_succ (a : UInt8) (l : List UInt8) (k : Nat) : cf (a :: l) (k + 1) = cf l k := rfl
theorem cf_get {l : List UInt8} {k : Nat} (h : k < l.length) : l[k]? = some (cf l k) := by
  unfold cf; rw [List.getD_eq_getElem?_getD, List.getElem?_eq_getElem h]; rfl
theorem cf_ext {l m : List UInt8} (hl : l.length = m.length) (h : ∀ k, k < l.length → cf l k = cf m k) : l = m := by
  apply List.ext_getElem?
  intro k
  by_cases hk : k < l.length
  · rw [cf_get hk, cf_get (by omega), h k hk]
  · rw [List.getElem?_eq_none (by omega), List.getElem?_eq_none (by omega)]
theorem cf_map (n : Nat) (f : Nat → UInt8) (k : Nat) : cf ((List.range n).map f) k = if k < n then f k else 0 := by
  by_cases h : k < n
  · rw [if_pos h]; unfold cf; rw [List.getD_eq_getElem?_getD, List.getElem?_map, List.getElem?_range h]; rfl
  · rw [if_neg h]; exact cf_ge (by simp; omega)
theorem cf_take (l : List UInt8) (n k : Nat) : cf (l.take n) k = if k < n then cf l k else 0 := by
  unfold cf
  rw [List.getD_eq_getElem?_getD, List.getElem?_take]
  split <;> rfl
theorem cf_drop (l : List UInt8) (n k : Nat) : cf (l.drop n) k = cf l (n + k) := by
  unfold cf
  rw [List.getD_eq_getElem?_getD, List.getElem?_drop, List.getD_eq_getElem?_getD]
theorem cf_set (l : List UInt8) (i : Nat) (v : UInt8) (k : Nat) (h : i < l.length) : cf (l.set i v) k = if k = i then v else cf l k := by
  unfold cf
  rw [List.getD_eq_getElem?_getD, List.getElem?_set]
  by_cases he : i = k
  · subst he; rw [if_pos rfl, if_pos h, if_pos rfl]; rfl
  · rw [if_neg he, if_neg (fun h => he h.symm), List.getD_eq_getElem?_getD]
theorem cf_zeros (n k : Nat) : cf (List.replicate n 0) k = 0 := by
  unfold cf
  rw [List.getD_eq_getElem?_getD, List.getElem?_replicate]
  split <;> rfl

/-- A list without the zeros at its end. -/
def trimS : List UInt8 → List UInt8
  | [] => []
  | a :: l => if trimS l = [] ∧ a = 0 then [] else a :: trimS l
theorem trim_len : ∀ l : List UInt8, (trimS l).length ≤ l.length
  | [] => Nat.le_refl _
  | a :: l => by
    have := trim_len l
    unfold trimS; split
    · simp
    · simp only [List.length_cons]; omega
theorem trim_take : ∀ l : List UInt8, l.take (trimS l).length = trimS l
  | [] => rfl
  | a :: l => by
    unfold trimS; split
    · rfl
    · rw [List.length_cons, List.take_succ_cons, trim_take l]
theorem cf_trim : ∀ (l : List UInt8) (k : Nat), cf (trimS l) k = cf l k
  | [], k => rfl
  | a :: l, k => by
    unfold trimS
    split
    · rename_i h
      cases k with
      | zero => rw [cf_cons_zero, h.2]; rfl
      | succ k => rw [cf_cons_succ, ← cf_trim l k, h.1]; rfl
    · cases k with
      | zero => rfl
      | succ k => rw [cf_cons_succ, cf_cons_succ, cf_trim l k]
theorem trim_last : ∀ l : List UInt8, trimS l ≠ [] → cf (trimS l) ((trimS l).length - 1) ≠ 0
  | [], h => absurd rfl h
  | a :: l, h => by
    unfold trimS at h ⊢
    split
    · rename_i hc; rw [if_pos hc] at h; exact absurd rfl h
    · rename_i hc
      by_cases hl : trimS l = []
      · rw [hl]
        intro h0
        exact hc ⟨hl, h0⟩
      · have := trim_last l hl
        obtain ⟨n, hn⟩ : ∃ n, (trimS l).length = n + 1 := ⟨(trimS l).length - 1, by
          have : (trimS l).length ≠ 0 := fun h => hl (List.length_eq_zero_iff.1 h)
          omega⟩
        rw [List.length_cons, hn]
        rw [hn] at this
        exact this
/-- What has no zero at its end. -/
def Tidy (l : List UInt8) : Prop := l = [] ∨ cf l (l.length - 1) ≠ 0
theorem trim_tidy (l : List UInt8) : Tidy (trimS l) := by
  by_cases h : trimS l = []
  · exact .inl h
  · exact .inr (trim_last l h)
theorem tidy_le {l m : List UInt8} (hl : Tidy l) (h : ∀ k, cf l k = cf m k) : l.length ≤ m.length := by
  rcases hl with rfl | hl
  · exact Nat.zero_le _
  · rcases Nat.lt_or_ge m.length l.length with hlt | hge
    · exact absurd ((h _).trans (cf_ge (by omega))) hl
    · exact hge
theorem tidy_ext {l m : List UInt8} (hl : Tidy l) (hm : Tidy m) (h : ∀ k, cf l k = cf m k) : l = m := by
  have h1 := tidy_le hl h
  have h2 := tidy_le hm fun k => (h k).symm
  exact cf_ext (by omega) fun k _ => h k
theorem trim_ext {l m : List UInt8} (h : ∀ k, cf l k = cf m k) : trimS l = trimS m :=
  tidy_ext (trim_tidy l) (trim_tidy m) fun k => by rw [cf_trim, cf_trim, h]
theorem trim_id {l : List UInt8} (h : Tidy l) : trimS l = l := tidy_ext (trim_tidy l) h (cf_trim l)
theorem trim_at {l : List UInt8} {n : Nat} (hn : n ≤ l.length) (hz : ∀ i, n ≤ i → cf l i = 0) (ht : n = 0 ∨ cf l (n - 1) ≠ 0) : trimS l = l.take n := by
  refine tidy_ext (trim_tidy l) ?_ fun k => ?_
  · rcases ht with rfl | ht
    · exact .inl rfl
    · have hn0 : n ≠ 0 := fun h0 => by
        subst h0
        exact ht (hz _ (Nat.zero_le _))
      refine .inr ?_
      rw [List.length_take, Nat.min_eq_left hn, cf_take, if_pos (by omega)]; exact ht
  · rw [cf_trim, cf_take]
    split
    · rfl
    · exact hz k (by omega)
theorem trim_nil {l : List UInt8} (h : trimS l = []) (k : Nat) : cf l k = 0 := by rw [← cf_trim, h]; rfl

/-- The first n rows of the product. -/
def part (P : UInt8) (p q : List UInt8) : Nat → Nat → UInt8
  | 0, _ => 0
  | n + 1, k => part P p q n k ^^^ (if n ≤ k then bm P (cf p n) (cf q (k - n)) else 0)
theorem xor_zero' (a : UInt8) : a ^^^ 0 = a := UInt8.xor_zero
theorem part_beyond (P : UInt8) (p q : List UInt8) (n : Nat) (hn : p.length ≤ n) (k : Nat) : ∀ m, part P p q (n + m) k = part P p q n k
  | 0 => rfl
  | m + 1 => by
    rw [← Nat.add_assoc, part, part_beyond P p q n hn k m, cf_ge (l := p) (by omega), zero_bm]
    split <;> exact xor_zero' _
theorem part_ext {P : UInt8} {p q p' q' : List UInt8} (hp : ∀ k, cf p k = cf p' k) (hq : ∀ k, cf q k = cf q' k) : ∀ n k, part P p q n k = part P p' q' n k
  | 0, k => rfl
  | n + 1, k => by rw [part, part, part_ext hp hq n k, hp, hq]
theorem part_len {P : UInt8} {p q : List UInt8} {m n : Nat} (hm : p.length ≤ m) (hn : p.length ≤ n) (k : Nat) : part P p q m k = part P p q n k := by
  obtain ⟨a, rfl⟩ : ∃ a, m = p.length + a := ⟨m - p.length, by omega⟩
  obtain ⟨b, rfl⟩ : ∃ b, n = p.length + b := ⟨n - p.length, by omega⟩
  rw [part_beyond P p q _ (Nat.le_refl _) k a, part_beyond P p q _ (Nat.le_refl _) k b]
theorem part_high {P : UInt8} {p q : List UInt8} : ∀ n k, n + q.length ≤ k + 1 → part P p q n k = 0
  | 0, k, _ => rfl
  | n + 1, k, h => by
    rw [part, part_high n k (by omega), if_pos (by omega), cf_ge (l := q) (by omega), bm_zero]; rfl
theorem part_top {P : UInt8} {p q : List UInt8} (n : Nat) (hq : 0 < q.length) : part P p q (n + 1) (n + q.length - 1) = bm P (cf p n) (cf q (q.length - 1)) := by
  rw [part, part_high n _ (by omega), if_pos (by omega), show n + q.length - 1 - n = q.length - 1 by omega, UInt8.zero_xor]
/-- The product of lists that are not empty, with whatever zeros at its end. -/
def timesS (P : UInt8) (p q : List UInt8) : List UInt8 := (List.range (p.length + q.length - 1)).map (part P p q p.length)
theorem cf_times (P : UInt8) (p q : List UInt8) (k : Nat) : cf (timesS P p q) k = part P p q p.length k := by
  rw [timesS, cf_map]
  split
  · rfl
  · rename_i h
    by_cases hq : q.length = 0
    · have : ∀ n, part P p q n k = 0 := by
        intro n
        induction n with
        | zero => rfl
        | succ n ih => rw [part, ih, cf_ge (l := q) (by omega), bm_zero]; split <;> rfl
      rw [this]
    · rw [part_high _ _ (by omega)]
/-- The product. -/
def mulS (P : UInt8) (p q : List UInt8) : List UInt8 := if trimS p = [] ∨ trimS q = [] then [] else timesS P (trimS p) (trimS q)
theorem cf_mul (P : UInt8) (p q : List UInt8) (k : Nat) : cf (mulS P p q) k = part P p q p.length k := by
  unfold mulS
  split
  · rename_i h
    have hz : ∀ n, part P p q n k = 0 := by
      intro n
      induction n with
      | zero => rfl
      | succ n ih =>
        rw [part, ih]
        rcases h with h | h
        · rw [trim_nil h, zero_bm]; split <;> rfl
        · rw [trim_nil h, bm_zero]; split <;> rfl
    rw [hz]; rfl
  · rw [cf_times, part_ext (cf_trim p) (cf_trim q)]
    have h1 := trim_len p
    have : ∀ m, part P p q ((trimS p).length + m) k = part P p q (trimS p).length k := by
      intro m
      induction m with
      | zero => rfl
      | succ m ih =>
        rw [← Nat.add_assoc, part, ih, ← cf_trim p, cf_ge (l := trimS p) (by omega), zero_bm]
        split <;> exact xor_zero' _
    rw [← this (p.length - (trimS p).length), show (trimS p).length + (p.length - (trimS p).length) = p.length by omega]
theorem mul_tidy {P g : UInt8} (ho : ordS P g = 255) (p q : List UInt8) : Tidy (mulS P p q) := by
  unfold mulS
  split
  · exact .inl rfl
  · rename_i h
    have hp : trimS p ≠ [] := fun h0 => h (.inl h0)
    have hq : trimS q ≠ [] := fun h0 => h (.inr h0)
    have hpl : 0 < (trimS p).length := List.length_pos_iff.2 hp
    have hql : 0 < (trimS q).length := List.length_pos_iff.2 hq
    refine .inr ?_
    rw [cf_times]
    have hl : (timesS P (trimS p) (trimS q)).length = (trimS p).length + (trimS q).length - 1 := by simp [timesS]
    obtain ⟨n, hn⟩ : ∃ n, (trimS p).length = n + 1 := ⟨(trimS p).length - 1, by omega⟩
    rw [hl, hn, show n + 1 + (trimS q).length - 1 - 1 = n + (trimS q).length - 1 by omega, part_top n hql]
    have h1 := trim_last p hp
    have h2 := trim_last q hq
    rw [hn] at h1
    exact bm_ne ho h1 h2
theorem times_trim {P g : UInt8} (ho : ordS P g = 255) (p q : List UInt8) : trimS (timesS P p q) = mulS P p q :=
  tidy_ext (trim_tidy _) (mul_tidy ho p q) fun k => by rw [cf_trim, cf_times, cf_mul]

/-- The sum. -/
def plusS (p q : List UInt8) : List UInt8 := (List.range (max p.length q.length)).map fun k => cf p k ^^^ cf q k
theorem cf_plus (p q : List UInt8) (k : Nat) : cf (plusS p q) k = cf p k ^^^ cf q k := by
  rw [plusS, cf_map]
  split
  · rfl
  · rw [cf_ge (l := p) (by omega), cf_ge (l := q) (by omega)]; rfl

/-- The value at x. -/
def evalS (P x : UInt8) : List UInt8 → UInt8
  | [] => 0
  | c :: l => bm P (evalS P x l) x ^^^ c
theorem xor_four (a b c d : UInt8) : (a ^^^ b) ^^^ (c ^^^ d) = (a ^^^ c) ^^^ (b ^^^ d) := by
  rw [UInt8.xor_assoc, ← UInt8.xor_assoc b, UInt8.xor_comm b c, UInt8.xor_assoc c, ← UInt8.xor_assoc]
theorem eval_zero (P x : UInt8) : ∀ l : List UInt8, (∀ k, cf l k = 0) → evalS P x l = 0
  | [], _ => rfl
  | c :: l, h => by
    rw [evalS, eval_zero P x l (fun k => h (k + 1)), zero_bm, show c = 0 from h 0]; rfl
theorem eval_ext (P x : UInt8) : ∀ l m : List UInt8, (∀ k, cf l k = cf m k) → evalS P x l = evalS P x m
  | [], m, h => (eval_zero P x m fun k => (h k).symm).symm
  | c :: l, [], h => eval_zero P x (c :: l) h
  | c :: l, d :: m, h => by
    rw [evalS, evalS, eval_ext P x l m (fun k => h (k + 1)), show c = d from h 0]
theorem eval_trim (P x : UInt8) (l : List UInt8) : evalS P x (trimS l) = evalS P x l := eval_ext P x _ _ (cf_trim l)
/-- The sum of the first n terms. -/
def termS (P x : UInt8) (f : Nat → UInt8) : Nat → UInt8
  | 0 => 0
  | n + 1 => termS P x f n ^^^ bm P (f n) (pw P x n)
theorem term_ext {P x : UInt8} {f g : Nat → UInt8} : ∀ n, (∀ k, k < n → f k = g k) → termS P x f n = termS P x g n
  | 0, _ => rfl
  | n + 1, h => by rw [termS, termS, term_ext n fun k hk => h k (by omega), h n (by omega)]
theorem term_succ (P x : UInt8) (f : Nat → UInt8) : ∀ n, termS P x f (n + 1) = bm P (termS P x (fun k => f (k + 1)) n) x ^^^ f 0
  | 0 => by rw [termS, termS, termS, zero_bm]; show 0 ^^^ bm P (f 0) 1 = _; rw [bm_one]
  | n + 1 => by
    rw [termS, term_succ P x f n, termS, bm_xor, bm_assoc P (f (n + 1)), show pw P x (n + 1) = bm P (pw P x n) x from rfl, UInt8.xor_assoc, UInt8.xor_comm (f 0), ← UInt8.xor_assoc]
theorem eval_term (P x : UInt8) : ∀ l : List UInt8, evalS P x l = termS P x (cf l) l.length
  | [] => rfl
  | c :: l => by rw [evalS, List.length_cons, term_succ, eval_term P x l]; rfl
theorem term_more {P x : UInt8} {f : Nat → UInt8} {n : Nat} (h : ∀ k, n ≤ k → f k = 0) : ∀ m, termS P x f (n + m) = termS P x f n
  | 0 => rfl
  | m + 1 => by rw [← Nat.add_assoc, termS, term_more h m, h _ (by omega), zero_bm]; exact xor_zero' _
theorem term_to {P x : UInt8} {f : Nat → UInt8} {n m : Nat} (h : ∀ k, n ≤ k → f k = 0) (hm : n ≤ m) : termS P x f m = termS P x f n := by
  obtain ⟨a, rfl⟩ : ∃ a, m = n + a := ⟨m - n, by omega⟩
  exact term_more h a
theorem eval_to {P x : UInt8} {l : List UInt8} {n : Nat} (h : l.length ≤ n) : evalS P x l = termS P x (cf l) n := by
  rw [eval_term, term_to (fun k hk => cf_ge hk) h]
theorem term_xor (P x : UInt8) (f g : Nat → UInt8) : ∀ n, termS P x (fun k => f k ^^^ g k) n = termS P x f n ^^^ termS P x g n
  | 0 => by simp [termS]
  | n + 1 => by rw [termS, termS, termS, term_xor P x f g n, bm_xor, xor_four]
theorem eval_plus (P x : UInt8) (p q : List UInt8) : evalS P x (plusS p q) = evalS P x p ^^^ evalS P x q := by
  have hl : (plusS p q).length = max p.length q.length := by simp [plusS]
  rw [eval_to (n := max p.length q.length) (by omega), eval_to (l := p) (n := max p.length q.length) (by omega), eval_to (l := q) (n := max p.length q.length) (by omega), ← term_xor]
  exact term_ext _ fun k _ => cf_plus p q k
theorem term_shift (P x c : UInt8) (q : List UInt8) (n : Nat) : ∀ m, termS P x (fun k => if n ≤ k then bm P c (cf q (k - n)) else 0) (n + m) = bm P (bm P c (pw P x n)) (termS P x (cf q) m)
  | 0 => by
    have : ∀ j, j ≤ n → termS P x (fun k => if n ≤ k then bm P c (cf q (k - n)) else 0) j = 0 := by
      intro j hj
      induction j with
      | zero => rfl
      | succ j ih => rw [termS, ih (by omega), if_neg (by omega), zero_bm]; rfl
    rw [Nat.add_zero, this n (Nat.le_refl _), termS, bm_zero]
  | m + 1 => by
    rw [← Nat.add_assoc, termS, term_shift P x c q n m, if_pos (by omega), Nat.add_sub_cancel_left, termS, bm_xor', pw_add]
    congr 1
    rw [bm_assoc P c (cf q m), bm_assoc P c (pw P x n), ← bm_assoc P (cf q m), bm_comm P (cf q m), bm_assoc P (pw P x n)]
theorem eval_part (P x : UInt8) (p q : List UInt8) : ∀ n, termS P x (part P p q n) (n + q.length) = bm P (termS P x (cf p) n) (termS P x (cf q) q.length)
  | 0 => by
    have : ∀ m, termS P x (part P p q 0) m = 0 := by
      intro m
      induction m with
      | zero => rfl
      | succ m ih => rw [termS, ih]; show 0 ^^^ bm P 0 _ = 0; rw [zero_bm]; rfl
    rw [this, termS, zero_bm]
  | n + 1 => by
    have e : termS P x (part P p q (n + 1)) (n + 1 + q.length) = termS P x (part P p q n) (n + 1 + q.length) ^^^ termS P x (fun k => if n ≤ k then bm P (cf p n) (cf q (k - n)) else 0) (n + 1 + q.length) := by
      rw [← term_xor]; exact term_ext _ fun k _ => rfl
    have h1 : termS P x (part P p q n) (n + 1 + q.length) = termS P x (part P p q n) (n + q.length) :=
      term_to (fun k hk => part_high n k (by omega)) (by omega)
    have h2 : termS P x (cf q) (1 + q.length) = termS P x (cf q) q.length := term_to (fun k hk => cf_ge hk) (by omega)
    rw [e, h1, eval_part P x p q n, show n + 1 + q.length = n + (1 + q.length) by omega, term_shift, h2, termS, bm_xor]
theorem eval_mul (P x : UInt8) (p q : List UInt8) : evalS P x (mulS P p q) = bm P (evalS P x p) (evalS P x q) := by
  have h0 : evalS P x (mulS P p q) = termS P x (part P p q p.length) (p.length + q.length) := by
    have e : (fun k => cf (mulS P p q) k) = part P p q p.length := by funext k; exact cf_mul P p q k
    have hl : (mulS P p q).length ≤ p.length + q.length := by
      unfold mulS
      have := trim_len p
      have := trim_len q
      split
      · simp
      · simp [timesS]; omega
    rw [eval_to hl]
    rw [show cf (mulS P p q) = part P p q p.length from e]
  rw [h0, eval_part, ← eval_term, ← eval_term]

/-- c times q is put to a list, from place o on. -/
def addL (P : UInt8) (L : List UInt8) (o : Nat) (q : List UInt8) (c : UInt8) : List UInt8 := (List.range L.length).map fun k => cf L k ^^^ (if o ≤ k then bm P c (cf q (k - o)) else 0)
theorem addL_length (P : UInt8) (L : List UInt8) (o : Nat) (q : List UInt8) (c : UInt8) : (addL P L o q c).length = L.length := by simp [addL]
theorem cf_addL (P : UInt8) (L : List UInt8) (o : Nat) (q : List UInt8) (c : UInt8) (k : Nat) (hk : k < L.length) : cf (addL P L o q c) k = cf L k ^^^ (if o ≤ k then bm P c (cf q (k - o)) else 0) := by
  rw [addL, cf_map, if_pos hk]
theorem addL_nil (P : UInt8) (L : List UInt8) (o : Nat) (c : UInt8) : addL P L o [] c = L :=
  cf_ext (addL_length _ _ _ _ _) fun k hk => by
    rw [addL_length] at hk
    rw [cf_addL P L o [] c k hk, cf_ge (l := []) (Nat.zero_le _), bm_zero]
    split <;> exact xor_zero' _
theorem addL_step (P : UInt8) (L : List UInt8) (o : Nat) (q : List UInt8) (c : UInt8) (j : Nat) (hj : j < q.length) (ho : o + q.length ≤ L.length) :
    (addL P L o (q.take j) c).set (o + j) (cf (addL P L o (q.take j) c) (o + j) ^^^ bm P c (cf q j)) = addL P L o (q.take (j + 1)) c :=
  cf_ext (by rw [List.length_set, addL_length, addL_length]) fun k hk => by
    rw [List.length_set, addL_length] at hk
    rw [cf_set _ _ _ _ (by rw [addL_length]; omega), cf_addL _ _ _ _ _ k hk, cf_addL _ _ _ _ _ k hk, cf_addL _ _ _ _ _ (o + j) (by omega)]
    by_cases he : k = o + j
    · subst he
      rw [if_pos rfl, if_pos (by omega), if_pos (by omega), Nat.add_sub_cancel_left, cf_take, if_neg (by omega), bm_zero, cf_take, if_pos (by omega), UInt8.xor_assoc, UInt8.zero_xor]
    · rw [if_neg he]
      split
      · rw [cf_take, cf_take]
        by_cases h1 : k - o < j
        · rw [if_pos h1, if_pos (by omega)]
        · rw [if_neg h1, if_neg (by omega)]
      · rfl
/-- The product's row, i rows being put in. -/
def prodL (P : UInt8) (p q : List UInt8) (n i : Nat) : List UInt8 := (List.range n).map (part P p q i)
theorem prodL_length (P : UInt8) (p q : List UInt8) (n i : Nat) : (prodL P p q n i).length = n := by simp [prodL]
theorem prodL_zero (P : UInt8) (p q : List UInt8) (n : Nat) : prodL P p q n 0 = List.replicate n 0 :=
  cf_ext (by simp [prodL]) fun k hk => by
    rw [prodL_length] at hk
    rw [prodL, cf_map, if_pos hk, cf_zeros]; rfl
theorem prodL_step (P : UInt8) (p q : List UInt8) (n i : Nat) : addL P (prodL P p q n i) i q (cf p i) = prodL P p q n (i + 1) :=
  cf_ext (by rw [addL_length, prodL_length, prodL_length]) fun k hk => by
    rw [addL_length, prodL_length] at hk
    rw [cf_addL _ _ _ _ _ k (by rw [prodL_length]; exact hk), prodL, prodL, cf_map, cf_map, if_pos hk, if_pos hk]; rfl
theorem prodL_all (P : UInt8) (p q : List UInt8) : prodL P p q (p.length + q.length - 1) p.length = timesS P p q := rfl

/-- Long division: m places are still to be done. -/
def divGo (P : UInt8) (q : List UInt8) (iv : UInt8) : Nat → List UInt8 → List UInt8 → List UInt8 × List UInt8
  | 0, r, a => (r, a)
  | m + 1, r, a => divGo P q iv m (addL P r m q (bm P (cf r (m + q.length - 1)) iv)) (a.set m (bm P (cf r (m + q.length - 1)) iv))
/-- What is left and the quotient, of trimmed lists, q not empty and not the longer one. -/
def divS (P : UInt8) (p q : List UInt8) : List UInt8 × List UInt8 := divGo P q (inv P (cf q (q.length - 1))) (p.length - q.length + 1) p (List.replicate (p.length - q.length + 1) 0)
/-- The quotient. -/
def quoS (P : UInt8) (p q : List UInt8) : List UInt8 := if (trimS p).length < (trimS q).length then [] else (divS P (trimS p) (trimS q)).2
/-- The remainder. -/
def modS (P : UInt8) (p q : List UInt8) : List UInt8 := if (trimS p).length < (trimS q).length then trimS p else trimS (divS P (trimS p) (trimS q)).1
theorem divGo_len (P : UInt8) (q : List UInt8) (iv : UInt8) : ∀ m r a, (divGo P q iv m r a).1.length = r.length ∧ (divGo P q iv m r a).2.length = a.length
  | 0, r, a => ⟨rfl, rfl⟩
  | m + 1, r, a => by
    rw [divGo]
    have h := divGo_len P q iv m (addL P r m q (bm P (cf r (m + q.length - 1)) iv)) (a.set m (bm P (cf r (m + q.length - 1)) iv))
    rw [addL_length, List.length_set] at h
    exact h
/-- The quotient's coefficients from m on stay. -/
theorem divGo_keep (P : UInt8) (q : List UInt8) (iv : UInt8) : ∀ m r a k, m ≤ a.length → m ≤ k → cf (divGo P q iv m r a).2 k = cf a k
  | 0, r, a, k, _, _ => rfl
  | m + 1, r, a, k, hl, hk => by
    rw [divGo, divGo_keep P q iv m _ _ k (by rw [List.length_set]; omega) (by omega), cf_set _ _ _ _ (by omega), if_neg (by omega)]
theorem bm_back {P g : UInt8} (ho : ordS P g = 255) {a b : UInt8} (hb : b ≠ 0) : bm P (bm P a (inv P b)) b = a := by
  rw [bm_assoc, bm_comm P (inv P b), bm_inv ho hb, bm_one]
theorem xor_rc (a b c : UInt8) : a ^^^ b ^^^ c = a ^^^ c ^^^ b := by rw [UInt8.xor_assoc, UInt8.xor_comm b, ← UInt8.xor_assoc]
theorem part_set {P : UInt8} {a q : List UInt8} {i : Nat} {c : UInt8} (hi : i < a.length) (h0 : cf a i = 0) (k : Nat) : ∀ n, part P (a.set i c) q n k = part P a q n k ^^^ (if i < n then (if i ≤ k then bm P c (cf q (k - i)) else 0) else 0)
  | 0 => by simp [part]
  | n + 1 => by
    rw [part, part, part_set hi h0 k n, cf_set _ _ _ _ hi]
    by_cases he : n = i
    · subst he
      rw [if_neg (Nat.lt_irrefl n), if_pos rfl, if_pos (Nat.lt_succ_self n), h0, zero_bm, xor_zero', show (if n ≤ k then (0 : UInt8) else 0) = 0 by split <;> rfl, xor_zero']
    · rw [if_neg he]
      by_cases hlt : i < n
      · rw [if_pos hlt, if_pos (show i < n + 1 by omega)]; exact xor_rc _ _ _
      · rw [if_neg hlt, if_neg (show ¬ i < n + 1 by omega), xor_zero', xor_zero']
/-- What division keeps: p is q times the quotient and what is left; above the places to be done nothing is left. -/
theorem divGo_spec {P g : UInt8} (ho : ordS P g = 255) {p q : List UInt8} (hq : q ≠ []) (hl : cf q (q.length - 1) ≠ 0) : ∀ m r a,
    r.length = p.length → a.length + q.length = p.length + 1 → m ≤ a.length → (∀ i, i < m → cf a i = 0) → (∀ k, m + q.length - 1 ≤ k → cf r k = 0) → (∀ k, cf r k ^^^ part P a q a.length k = cf p k) →
    (∀ k, q.length - 1 ≤ k → cf (divGo P q (inv P (cf q (q.length - 1))) m r a).1 k = 0) ∧
    (∀ k, cf (divGo P q (inv P (cf q (q.length - 1))) m r a).1 k ^^^ part P (divGo P q (inv P (cf q (q.length - 1))) m r a).2 q a.length k = cf p k)
  | 0, r, a, h1, h2, h3, h4, h5, h6 => ⟨fun k hk => h5 k (by omega), h6⟩
  | m + 1, r, a, h1, h2, h3, h4, h5, h6 => by
    have hql : 0 < q.length := List.length_pos_iff.2 hq
    rw [divGo]
    have hc : ∀ k, cf (addL P r m q (bm P (cf r (m + q.length - 1)) (inv P (cf q (q.length - 1))))) k = cf r k ^^^ (if m ≤ k then bm P (bm P (cf r (m + q.length - 1)) (inv P (cf q (q.length - 1)))) (cf q (k - m)) else 0) := fun k => by
      by_cases hk : k < r.length
      · exact cf_addL _ _ _ _ _ k hk
      · rw [cf_ge (by rw [addL_length]; omega), cf_ge (l := r) (k := k) (by omega), cf_ge (l := q) (k := k - m) (by omega), bm_zero]
        split <;> rfl
    have ih := divGo_spec ho (p := p) hq hl m (addL P r m q (bm P (cf r (m + q.length - 1)) (inv P (cf q (q.length - 1))))) (a.set m (bm P (cf r (m + q.length - 1)) (inv P (cf q (q.length - 1)))))
      (by rw [addL_length]; exact h1) (by rw [List.length_set]; exact h2) (by rw [List.length_set]; omega)
      (fun i hi => by rw [cf_set _ _ _ _ (by omega), if_neg (by omega)]; exact h4 i (by omega))
      (fun k hk => by
        rw [hc]
        by_cases he : k = m + q.length - 1
        · subst he
          rw [if_pos (by omega), show m + q.length - 1 - m = q.length - 1 by omega, bm_back ho hl, UInt8.xor_self]
        · rw [h5 k (by omega), cf_ge (l := q) (k := k - m) (by omega), bm_zero]
          split <;> rfl)
      (fun k => by
        rw [hc, List.length_set, part_set (by omega) (h4 m (by omega)), if_pos (show m < a.length by omega), xor_four, h6 k, UInt8.xor_self, xor_zero'])
    rw [List.length_set] at ih
    exact ih
theorem divS_spec {P g : UInt8} (ho : ordS P g = 255) {p q : List UInt8} (hq : q ≠ []) (hl : cf q (q.length - 1) ≠ 0) (hle : q.length ≤ p.length) :
    (∀ k, q.length - 1 ≤ k → cf (divS P p q).1 k = 0) ∧ (∀ k, cf (divS P p q).1 k ^^^ part P (divS P p q).2 q (p.length - q.length + 1) k = cf p k) := by
  have hql : 0 < q.length := List.length_pos_iff.2 hq
  have h := divGo_spec ho (p := p) hq hl (p.length - q.length + 1) p (List.replicate (p.length - q.length + 1) 0) rfl (by simp; omega) (by simp) (fun i _ => cf_zeros _ i) (fun k hk => cf_ge (by omega)) (fun k => by
    have : ∀ n, part P (List.replicate (p.length - q.length + 1) 0) q n k = 0 := by
      intro n
      induction n with
      | zero => rfl
      | succ n ih => rw [part, ih, cf_zeros, zero_bm]; split <;> rfl
    rw [this, xor_zero'])
  rw [List.length_replicate] at h
  exact h
theorem divS_len (P : UInt8) (p q : List UInt8) : (divS P p q).1.length = p.length ∧ (divS P p q).2.length = p.length - q.length + 1 := by
  have := divGo_len P q (inv P (cf q (q.length - 1))) (p.length - q.length + 1) p (List.replicate (p.length - q.length + 1) 0)
  rw [List.length_replicate] at this
  exact this
theorem quo_tidy {P g : UInt8} (ho : ordS P g = 255) {p q : List UInt8} (hq : trimS q ≠ []) : Tidy (quoS P p q) := by
  unfold quoS
  split
  · exact .inl rfl
  · rename_i hlt
    have hql : 0 < (trimS q).length := List.length_pos_iff.2 hq
    have hp : trimS p ≠ [] := fun h0 => by rw [h0] at hlt; simp at hlt; exact hq hlt
    refine .inr ?_
    rw [(divS_len P _ _).2, Nat.add_sub_cancel, divS, divGo, divGo_keep _ _ _ _ _ _ _ (by simp) (Nat.le_refl _), cf_set _ _ _ _ (by simp), if_pos rfl,
      show (trimS p).length - (trimS q).length + (trimS q).length - 1 = (trimS p).length - 1 by omega]
    have hi : inv P (cf (trimS q) ((trimS q).length - 1)) ≠ 0 := fun h0 => by
      have := bm_inv ho (trim_last q hq)
      rw [h0, bm_zero] at this
      exact absurd this (by decide)
    exact bm_ne ho (trim_last p hp) hi
/-- P510: p is q times the quotient and the remainder. -/
theorem div_back {P g : UInt8} (ho : ordS P g = 255) {p q : List UInt8} (hq : trimS q ≠ []) : trimS (plusS (mulS P (quoS P p q) q) (modS P p q)) = trimS p := by
  apply trim_ext
  intro k
  rw [cf_plus, cf_mul]
  by_cases hlt : (trimS p).length < (trimS q).length
  · rw [quoS, if_pos hlt, modS, if_pos hlt, cf_trim]; exact UInt8.zero_xor
  · have h := (divS_spec ho (p := trimS p) hq (trim_last q hq) (by omega)).2 k
    rw [quoS, if_neg hlt, modS, if_neg hlt, cf_trim, (divS_len P _ _).2, part_ext (fun _ => rfl) (fun k => (cf_trim q k).symm), UInt8.xor_comm, h, cf_trim]
theorem mod_short {P g : UInt8} (ho : ordS P g = 255) {p q : List UInt8} (hq : trimS q ≠ []) : (modS P p q).length < (trimS q).length := by
  have hql : 0 < (trimS q).length := List.length_pos_iff.2 hq
  by_cases hlt : (trimS p).length < (trimS q).length
  · rw [modS, if_pos hlt]; exact hlt
  · have h := (divS_spec ho (p := trimS p) hq (trim_last q hq) (by omega)).1
    rw [modS, if_neg hlt]
    by_cases hz : trimS (divS P (trimS p) (trimS q)).1 = []
    · rw [hz]; exact hql
    · have h1 := trim_last _ hz
      rw [cf_trim] at h1
      rcases Nat.lt_or_ge (trimS (divS P (trimS p) (trimS q)).1).length (trimS q).length with h2 | h2
      · exact h2
      · exact absurd (h _ (by omega)) h1
theorem mod_tidy (P : UInt8) (p q : List UInt8) : Tidy (modS P p q) := by
  unfold modS
  split <;> exact trim_tidy _
theorem eval_back {P g : UInt8} (ho : ordS P g = 255) {p q : List UInt8} (hq : trimS q ≠ []) (x : UInt8) (h0 : evalS P x q = 0) : evalS P x (modS P p q) = evalS P x p := by
  have h := congrArg (evalS P x) (div_back ho (p := p) hq)
  rw [eval_trim, eval_trim, eval_plus, eval_mul, h0, bm_zero, UInt8.zero_xor] at h
  exact h
/-- Divided by the polynomial with the one root x: what is left is the value at x. -/
theorem root_left {P g : UInt8} (ho : ordS P g = 255) (p : List UInt8) (x : UInt8) : trimS [x, 1] = [x, 1] ∧ modS P p [x, 1] = (if evalS P x p = 0 then [] else [evalS P x p]) := by
  have ht : trimS [x, 1] = [x, 1] := trim_id (.inr (by show (1 : UInt8) ≠ 0; decide))
  have hq : trimS [x, 1] ≠ [] := by rw [ht]; simp
  refine ⟨ht, ?_⟩
  have hs := mod_short ho (p := p) hq
  have he := eval_back ho (p := p) hq x (by
    show bm P (bm P 0 x ^^^ 1) x ^^^ x = 0
    rw [zero_bm, UInt8.zero_xor, one_bm, UInt8.xor_self])
  have hd := mod_tidy P p [x, 1]
  rw [ht] at hs
  generalize modS P p [x, 1] = m at *
  match m, hs, he, hd with
  | [], _, he, _ => rw [← he]; rfl
  | [c], _, he, hd =>
    have hc : evalS P x [c] = c := by show bm P 0 x ^^^ c = c; rw [zero_bm, UInt8.zero_xor]
    rw [hc] at he
    have : c ≠ 0 := by
      rcases hd with h | h
      · simp at h
      · exact h
    rw [← he, if_neg this]
  | _ :: _ :: _, hs, _, _ => simp at hs; omega
end Go.Proofs.Ytdpkeffkpecmjaa
