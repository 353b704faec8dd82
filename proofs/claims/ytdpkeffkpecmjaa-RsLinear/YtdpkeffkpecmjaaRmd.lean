/- Plain facts: a word that few places part from a good one is mended. -/
import Derived.Test.YtdpkeffkpecmjaaRmc
import Derived.Test.YtdpkeffkpecmjaaRsr
namespace Go.Proofs.Ytdpkeffkpecmjaa
open Go.RowKit
set_option linter.unusedVariables false

/-- What two words differ by, at a power. -/
def er (r c : List UInt8) (k : Nat) : UInt8 := cf r.reverse k ^^^ cf c.reverse k
/-- The amounts, as the syndromes have them. -/
def ya (f : Nat) (r c : List UInt8) (k : Nat) : UInt8 := bm 29 (er r c k) (pw 29 2 (k * f))
theorem er_ge {r c : List UInt8} (h : c.length = r.length) {k : Nat} (hk : r.length ≤ k) : er r c k = 0 := by
  unfold er
  rw [cf_ge (by simpa using hk), cf_ge (by simp; omega)]; rfl
theorem er_at {r c : List UInt8} (h : c.length = r.length) {i : Nat} (hi : i < r.length) : er r c (r.length - 1 - i) = cf r i ^^^ cf c i := by
  unfold er
  rw [cf_reverse _ _ (by omega), cf_reverse _ _ (by omega), h, show r.length - 1 - (r.length - 1 - i) = i by omega]
/-- The sum over a list. -/
def sl (g : Nat → UInt8) : List Nat → UInt8
  | [] => 0
  | k :: K => g k ^^^ sl g K
theorem sg_one (v : UInt8) (k : Nat) : ∀ n, k < n → sg (fun j => if j = k then v else 0) n = v
  | 0, h => by omega
  | n + 1, h => by
    rw [sg]
    by_cases he : k = n
    · subst he
      rw [sg_zero k fun i hi => if_neg (by omega), if_pos rfl, UInt8.zero_xor]
    · rw [sg_one v k n (by omega), if_neg (fun h => he h.symm), xor_zero']
theorem sl_sg (g : Nat → UInt8) (n : Nat) : ∀ K : List Nat, K.Nodup → (∀ k ∈ K, k < n) → sl g K = sg (fun j => if j ∈ K then g j else 0) n
  | [], _, _ => (sg_zero n fun i _ => by simp).symm
  | k :: K, hn, hK => by
    have hnd := List.nodup_cons.1 hn
    rw [sl, sl_sg g n K hnd.2 (fun j hj => hK j (by simp [hj])), ← sg_one (g k) k n (hK k (by simp)), ← sg_xor]
    exact sg_ext n fun j hj => by
      by_cases h1 : j = k
      · subst h1; simp [hnd.1]
      · by_cases h2 : j ∈ K <;> simp [h1, h2]
theorem sig_at (y : Nat → UInt8) (i : Nat) : ∀ K, sig y K i = sl (fun k => bm 29 (y k) (pw 29 2 (k * i))) K
  | [] => rfl
  | k :: K => by
    rw [sig, sl, ← sig_at y i K]
    show bm 29 (y k) (pw 29 (pw 29 2 k) i) ^^^ _ = _
    rw [pw_mul]
/-- The syndromes of a word are those of what parts it from a good one. -/
theorem syn_sig {f p : Nat} {r c : List UInt8} (h : c.length = r.length) (hg : ∀ i, i < p → syn f c i = 0) (K : List Nat) (hn : K.Nodup) (hK : ∀ k ∈ K, k < r.length) (hs : ∀ k, er r c k ≠ 0 → k ∈ K) (i : Nat) (hi : i < p) : syn f r i = sig (ya f r c) K i := by
  have h0 := hg i hi
  unfold syn at h0 ⊢
  have e1 : evalS 29 (pwI 29 2 ((f : Int) + (i : Int))) r.reverse = sEv (er r c) (pw 29 2 (f + i)) r.length := by
    have h1 : evalS 29 (pwI 29 2 ((f : Int) + (i : Int))) r.reverse = evalS 29 (pwI 29 2 ((f : Int) + (i : Int))) (plusS r.reverse c.reverse) := by
      rw [eval_plus, h0, xor_zero']
    rw [h1, eval_sEv _ _ (n := r.length) (by simp [plusS]; omega), cf_plus_s, show (f : Int) + (i : Int) = ((f + i : Nat) : Int) by omega, pwI_eq]
    rfl
  rw [e1, sig_at, sl_sg _ r.length K hn hK]
  exact sg_ext _ fun k hk => by
    show bm 29 (er r c k) (pw 29 (pw 29 2 (f + i)) k) = _
    rw [pw_mul]
    by_cases hm : k ∈ K
    · rw [if_pos hm]
      unfold ya
      rw [bm_assoc, ← pw_add]
      congr 2
      rw [Nat.add_mul, Nat.mul_comm f, Nat.mul_comm i]
    · rw [if_neg hm, show er r c k = 0 from Classical.byContradiction fun h => hm (hs k h), zero_bm]
theorem mul_agree {p : Nat} (c : Ser) {a b : Ser} (h : ∀ j, j < p → a j = b j) (i : Nat) (hi : i < p) : sMul c a i = sMul c b i := sg_ext _ fun j hj => by rw [h _ (by omega)]
theorem mod_exists {p : Nat} {a b : Ser} (h : ∀ j, j < p → a j = b j) : ∃ W, a = sAdd (sMul (sPow p) W) b := ⟨fun k => a (k + p) ^^^ b (k + p), funext fun k => by
  show a k = sMul (sPow p) _ k ^^^ b k
  rw [pow_mul_s]
  by_cases hk : p ≤ k
  · rw [if_pos hk, show k - p + p = k by omega, UInt8.xor_assoc, UInt8.xor_self, xor_zero']
  · rw [if_neg hk, UInt8.zero_xor, h k (by omega)]⟩
/-- TWO GOOD WORDS that differ at no more than p places are one. -/
theorem good_apart {f p : Nat} {r c : List UInt8} (h : c.length = r.length) (hl : r.length ≤ 255) (hc : ∀ i, i < p → syn f c i = 0) (hr : ∀ i, i < p → syn f r i = 0) (K : List Nat) (hn : K.Nodup) (hK : ∀ k ∈ K, k < r.length) (hs : ∀ k, er r c k ≠ 0 → k ∈ K) (hp : K.length ≤ p) : r = c := by
  have hz : om (ya f r c) K = sNil := funext fun i => by
    by_cases hi : i < p
    · rw [← key_eq, mul_comm_s, mul_agree (b := sNil) (pol K) (fun j hj => (syn_sig h hc K hn hK hs j hj).symm.trans (hr j hj)) i hi, mul_comm_s, nil_mul_s]
    · exact om_low _ K i (by omega)
  have he : ∀ k, er r c k = 0 := fun k => Classical.byContradiction fun hk => by
    have hm := hs k hk
    obtain ⟨d, hd, h1, _⟩ := forney (ya f r c) (k := k) (by have := hK k hm; omega) K hn (fun j hj => by have := hK j hj; omega) hm (N := K.length + 3) (Nat.le_refl _)
    rw [hz] at h1
    have h2 : sEv sNil (xi k) (K.length + 3) = 0 := sg_zero _ fun i _ => zero_bm 29 _
    rw [h2] at h1
    rcases bm_zero_or h1.symm with h3 | h3
    · unfold ya at h3
      rcases bm_zero_or h3 with h4 | h4
      · exact hk h4
      · exact pw_ne one_d _ h4
    · exact hd h3
  exact cf_ext h.symm fun i hi => by
    have := he (r.length - 1 - i)
    rw [er_at h hi] at this
    exact xor_zero_eq this

theorem nodup_leN {α : Type} [DecidableEq α] : ∀ (l m : List α), l.Nodup → (∀ x, x ∈ l → x ∈ m) → l.length ≤ m.length
  | [], _, _, _ => Nat.zero_le _
  | a :: t, m, hn, hs => by
    have ha := hs a (by simp)
    have hnd := List.nodup_cons.1 hn
    have := nodup_leN t (m.erase a) hnd.2 (fun x hx => (List.mem_erase_of_ne (fun h => hnd.1 (by rw [← h]; exact hx))).2 (hs x (by simp [hx])))
    rw [List.length_erase_of_mem ha] at this
    have : 0 < m.length := List.length_pos_of_mem ha
    simp only [List.length_cons]; omega
theorem nodup_len {α : Type} [DecidableEq α] {l m : List α} (h1 : l.Nodup) (h2 : m.Nodup) (h : ∀ x, x ∈ l ↔ x ∈ m) : l.length = m.length :=
  Nat.le_antisymm (nodup_leN l m h1 fun x hx => (h x).1 hx) (nodup_leN m l h2 fun x hx => (h x).2 hx)
/-- The powers of the lost places. -/
def lostP (L : List Int) (n : Nat) : List Nat := (powS L n).map Int.toNat
theorem lostP_length (L : List Int) (n : Nat) : (lostP L n).length = L.length := by simp [lostP, powS]
theorem lostP_get {L : List Int} {n : Nat} (h : areS L n = true) (i : Nat) (hi : i < L.length) : ((lostP L n)[i]'(by rw [lostP_length]; exact hi) : Nat) = n - 1 - (L.getD i 0).toNat := by
  have := are_at h i hi
  simp only [lostP, powS, List.map_map, List.getElem_map, Function.comp]
  rw [List.getD_eq_getElem?_getD, List.getElem?_eq_getElem hi] at this ⊢
  simp only [Option.getD_some] at this ⊢
  omega
theorem are_apart {L : List Int} {n : Nat} (h : areS L n = true) {i j : Nat} (hij : i < j) (hj : j < L.length) : L.getD i 0 ≠ L.getD j 0 := fun he => by
  have h2 := (are_at h j hj).2.2
  rw [← he, List.contains_eq_mem, decide_eq_false_iff_not] at h2
  apply h2
  rw [List.getD_eq_getElem?_getD, List.getElem?_eq_getElem (show i < L.length by omega)]
  exact List.mem_take_iff_getElem.2 ⟨i, by omega, rfl⟩
theorem lostP_nodup {L : List Int} {n : Nat} (h : areS L n = true) : (lostP L n).Nodup := by
  rw [List.nodup_iff_pairwise_ne, List.pairwise_iff_getElem]
  intro i j hi hj hij
  rw [lostP_length] at hi hj
  rw [lostP_get h i hi, lostP_get h j hj]
  have h1 := are_at h i hi
  have h2 := are_at h j hj
  have h3 := are_apart h hij hj
  omega
theorem lostP_lt {L : List Int} {n : Nat} (h : areS L n = true) {k : Nat} (hk : k ∈ lostP L n) : k < n := by
  obtain ⟨i, hi, rfl⟩ := List.mem_iff_getElem.1 hk
  rw [lostP_length] at hi
  rw [lostP_get h i hi]
  have := are_at h i hi
  omega
theorem lostP_mem {L : List Int} {n : Nat} (h : areS L n = true) {i : Nat} (hi : i < n) : n - 1 - i ∈ lostP L n ↔ (i : Int) ∈ L := by
  constructor
  · intro hk
    obtain ⟨j, hj, he⟩ := List.mem_iff_getElem.1 hk
    rw [lostP_length] at hj
    rw [lostP_get h j hj] at he
    have := are_at h j hj
    have h3 : L.getD j 0 = (i : Int) := by omega
    rw [← h3, List.getD_eq_getElem?_getD, List.getElem?_eq_getElem hj]
    exact List.getElem_mem hj
  · intro hm
    obtain ⟨j, hj, he⟩ := List.mem_iff_getElem.1 hm
    have h1 := lostP_get h j hj
    rw [List.getD_eq_getElem?_getD, List.getElem?_eq_getElem hj, Option.getD_some, he, Int.toNat_natCast] at h1
    rw [← h1]
    exact List.getElem_mem _
theorem cf_two (X : UInt8) : cf [1, X] = sLin X := funext fun k => by
  match k with
  | 0 => rfl
  | 1 => rfl
  | k + 2 => show ([] : List UInt8).getD k 0 = _; simp [sLin]
theorem ofTo_pol {L : List Int} {n : Nat} (h : areS L n = true) : ∀ k, k ≤ L.length → cf (ofTo (powS L n) k) = pol ((lostP L n).take k)
  | 0, _ => cf_one
  | k + 1, hk => by
    have hlt : k < (lostP L n).length := by rw [lostP_length]; omega
    have h1 := are_at h k (by omega)
    rw [ofTo, cf_mul_s, ofTo_pol h k (by omega), cf_two, List.take_add_one, List.getElem?_eq_getElem hlt, pol_append]
    congr 1
    show sLin _ = sMul (sLin _) sOne
    rw [mul_one_s, lostP_get h k (by omega), pow_get L n k (by omega), ← pwI_eq]
    congr 2
    omega
/-- The turned ones besides the lost. -/
def turnP (r c : List UInt8) (L : List Int) : List Nat := (List.range r.length).filter fun k => decide (er r c k ≠ 0 ∧ k ∉ lostP L r.length)
theorem turnP_mem {r c : List UInt8} {L : List Int} {k : Nat} : k ∈ turnP r c L ↔ k < r.length ∧ er r c k ≠ 0 ∧ k ∉ lostP L r.length := by
  unfold turnP
  rw [List.mem_filter, List.mem_range]
  simp
theorem turnP_nodup (r c : List UInt8) (L : List Int) : (turnP r c L).Nodup := List.Nodup.sublist List.filter_sublist List.nodup_range
/-- All powers where something may be off. -/
def allP (r c : List UInt8) (L : List Int) : List Nat := lostP L r.length ++ turnP r c L
theorem allP_nodup {r c : List UInt8} {L : List Int} (h : areS L r.length = true) : (allP r c L).Nodup := by
  unfold allP
  rw [List.nodup_append]
  exact ⟨lostP_nodup h, turnP_nodup r c L, fun a ha b hb he => (turnP_mem.1 hb).2.2 (he ▸ ha)⟩
theorem allP_lt {r c : List UInt8} {L : List Int} (h : areS L r.length = true) {k : Nat} (hk : k ∈ allP r c L) : k < r.length := by
  rcases List.mem_append.1 hk with h1 | h1
  · exact lostP_lt h h1
  · exact (turnP_mem.1 h1).1
theorem allP_supp {r c : List UInt8} (hlen : c.length = r.length) {L : List Int} {k : Nat} (hk : er r c k ≠ 0) : k ∈ allP r c L := by
  have hlt : k < r.length := Classical.byContradiction fun h => hk (er_ge hlen (by omega))
  by_cases hm : k ∈ lostP L r.length
  · exact List.mem_append.2 (.inl hm)
  · exact List.mem_append.2 (.inr (turnP_mem.2 ⟨hlt, hk, hm⟩))
theorem low_of (p : Nat) (l : List UInt8) (i : Nat) : cf (lowS p l) i = if i < p then cf l i else 0 := by
  unfold lowS; rw [cf_trim, cf_take]
theorem syns_at (f p : Nat) (r : List UInt8) (i : Nat) (hi : i < p) : cf (syns f p r) i = syn f r i := by
  unfold syns; rw [cf_map, if_pos hi]
theorem mem_places (loc : List UInt8) (n : Nat) (x : Int) : ∀ m, x ∈ placesTo loc n m ↔ ∃ i : Nat, i < m ∧ x = (i : Int) ∧ evalS 29 (pwI 29 2 ((i : Int) + 1 - (n : Int))) loc = 0
  | 0 => by simp [placesTo]
  | m + 1 => by
    have ih := mem_places loc n x m
    rw [placesTo]
    split
    · rename_i h0
      rw [List.mem_append, ih, List.mem_singleton]
      constructor
      · rintro (⟨i, h1, h2, h3⟩ | h)
        · exact ⟨i, by omega, h2, h3⟩
        · exact ⟨m, by omega, h, h0⟩
      · rintro ⟨i, h1, h2, h3⟩
        by_cases he : i = m
        · subst he; exact .inr h2
        · exact .inl ⟨i, by omega, h2, h3⟩
    · rename_i h0
      rw [ih]
      constructor
      · rintro ⟨i, h1, h2, h3⟩; exact ⟨i, by omega, h2, h3⟩
      · rintro ⟨i, h1, h2, h3⟩
        by_cases he : i = m
        · subst he; exact absurd h3 h0
        · exact ⟨i, by omega, h2, h3⟩
theorem nodup_places (loc : List UInt8) (n : Nat) : ∀ m, (placesTo loc n m).Nodup
  | 0 => by simp [placesTo]
  | m + 1 => by
    rw [placesTo]
    split
    · rw [List.nodup_append]
      refine ⟨nodup_places loc n m, by simp, fun a ha b hb he => ?_⟩
      obtain ⟨i, h1, h2, _⟩ := (mem_places loc n a m).1 ha
      rw [List.mem_singleton] at hb
      omega
    · exact nodup_places loc n m
/-- The word that is made, place by place. -/
theorem am_at (f p : Nat) (word S loc : List UInt8) (PL : List Int) (hn : PL.Nodup) (hr : ∀ x ∈ PL, 0 ≤ x ∧ x < word.length) (i : Nat) (hi : i < word.length) : ∀ k, k ≤ PL.length → cf (amTo f p word S loc PL k) i = cf word i ^^^ (if (i : Int) ∈ PL.take k then offS f p S loc ((word.length : Int) - 1 - (i : Int)) else 0)
  | 0, _ => by rw [amTo, List.take_zero, if_neg (by simp), xor_zero']
  | k + 1, hk => by
    have hlt : k < PL.length := by omega
    have hgd : PL.getD k 0 = PL[k] := by rw [List.getD_eq_getElem?_getD, List.getElem?_eq_getElem hlt]; rfl
    have hm := hr PL[k] (List.getElem_mem hlt)
    have ht : PL.take (k + 1) = PL.take k ++ [PL[k]] := by rw [List.take_add_one, List.getElem?_eq_getElem hlt]; rfl
    rw [amTo, cf_set _ _ _ _ (by rw [amTo_length, hgd]; omega), am_at f p word S loc PL hn hr i hi k (by omega), ht, hgd]
    by_cases he : (i : Int) = PL[k]
    · have hi2 : i = PL[k].toNat := by omega
      have hnm : (i : Int) ∉ PL.take k := fun hmem => by
        obtain ⟨j, hj, hje⟩ := List.mem_take_iff_getElem.1 hmem
        have := (List.pairwise_iff_getElem.1 (List.nodup_iff_pairwise_ne.1 hn)) j k (by omega) hlt (by omega)
        exact this (hje.trans he)
      rw [if_pos hi2, if_pos (List.mem_append.2 (.inr (List.mem_singleton.2 he))), ← hi2, am_at f p word S loc PL hn hr i hi k (by omega), if_neg hnm, xor_zero', ← he]
    · rw [if_neg (by omega)]
      congr 1
      by_cases hmem : (i : Int) ∈ PL.take k
      · rw [if_pos hmem, if_pos (List.mem_append.2 (.inl hmem))]
      · rw [if_neg hmem, if_neg (fun h => (List.mem_append.1 h).elim hmem fun h => he (List.mem_singleton.1 h))]
theorem tidy_len {l : List UInt8} (ht : Tidy l) {d : Nat} (h1 : Low (d + 1) (cf l)) (h2 : cf l d ≠ 0) : l.length = d + 1 := by
  have hge : d < l.length := Classical.byContradiction fun h => h2 (cf_ge (by omega))
  have := tidy_top ht (by omega)
  rcases Nat.lt_or_ge (d + 1) l.length with h | h
  · exact absurd (h1 (l.length - 1) (by omega)) this
  · omega
end Go.Proofs.Ytdpkeffkpecmjaa
