/- What the document's New answers is what the program's New answers: plain facts. -/
import Derived.Test.YtgmbkelmgolkpaaDoorRfm
import Derived.Test.YtgmbkelmgolkpaaDoorNwb
import Derived.Test.YtgmbkelmgolkpaaDoorGf
namespace Go.Proofs.YtgmbkelmgolkpaaDoor
set_option linter.unusedVariables false

/-- Are the first k names right, and unlike those ahead of them? -/
def okA (A : List Tx) : Nat → Bool
  | 0 => true
  | k + 1 => okA A k && (nmS (A.getD k []) && decide (atS (A.take k) (A.getD k []) < 0))
/-- Is it a rule, as the document asks? -/
def okR (O A : List Tx) (r : List Tx) : Bool := decide (1 ≤ r.length) && decide (0 ≤ atS O (r.getD 0 [])) && (r.drop 1).all (fun x => decide (0 ≤ atS A x))
def docO (T O : List Tx) (s : Tx) (L : List (List Tx)) : Bool := decide (0 ≤ atS O s) && decide (1 ≤ L.length) && okA (T ++ O) (T ++ O).length && L.all (okR O (T ++ O))
def docE (T O : List Tx) (s : Tx) (L : List (List Tx)) : Int := if docO T O s L then (if L.length ≤ 128 ∧ T.length + O.length + 1 ≤ 128 then 0 else 3) else 130
theorem okA_all (A : List Tx) : ∀ k, k ≤ A.length → (okA A k = true ↔ ∀ j, j < k → nmS (A.getD j []) = true ∧ ∀ i, i < j → A.getD i [] ≠ A.getD j [])
  | 0, _ => by simp [okA]
  | k + 1, hk => by
    have ih := okA_all A k (by omega)
    have hn : decide (atS (A.take k) (A.getD k []) < 0) = true ↔ ∀ i, i < k → A.getD i [] ≠ A.getD k [] := by
      rw [decide_eq_true_eq, at_neg]
      constructor
      · intro h i hi e
        apply h
        rw [List.mem_take_iff_getElem]
        exact ⟨i, by omega, by rw [← e, List.getD_eq_getElem?_getD, List.getElem?_eq_getElem (by omega)]; rfl⟩
      · intro h hm
        rw [List.mem_take_iff_getElem] at hm
        obtain ⟨i, hi, e⟩ := hm
        refine h i (by omega) ?_
        rw [← e, List.getD_eq_getElem?_getD, List.getElem?_eq_getElem (by omega)]; rfl
    rw [okA, Bool.and_eq_true, Bool.and_eq_true, ih, hn]
    constructor
    · rintro ⟨h1, h2, h3⟩ j hj
      by_cases e : j = k
      · subst e; exact ⟨h2, h3⟩
      · exact h1 j (by omega)
    · intro h
      exact ⟨fun j hj => h j (by omega), (h k (by omega)).1, (h k (by omega)).2⟩
theorem getD_l {T O : List Tx} {j : Nat} (h : j < T.length) : (T ++ O).getD j [] = T.getD j [] := by
  rw [List.getD_eq_getElem?_getD, List.getD_eq_getElem?_getD, List.getElem?_append_left h]
theorem getD_r {T O : List Tx} (j : Nat) : (T ++ O).getD (T.length + j) [] = O.getD j [] := by
  rw [List.getD_eq_getElem?_getD, List.getD_eq_getElem?_getD, List.getElem?_append_right (by omega)]
  congr 2
  omega
theorem nodup_getD {L : List Tx} (h : ∀ j, j < L.length → ∀ i, i < j → L.getD i [] ≠ L.getD j []) : L.Nodup := by
  rw [List.nodup_iff_pairwise_ne, List.pairwise_iff_getElem]
  intro i j hi hj hij e
  refine h j hj i hij ?_
  rw [List.getD_eq_getElem?_getD, List.getD_eq_getElem?_getD, List.getElem?_eq_getElem hi, List.getElem?_eq_getElem hj]
  exact e
theorem mem_getD {L : List Tx} {x : Tx} (h : x ∈ L) : ∃ j, j < L.length ∧ L.getD j [] = x := by
  obtain ⟨j, hj, e⟩ := List.getElem_of_mem h
  exact ⟨j, hj, by rw [List.getD_eq_getElem?_getD, List.getElem?_eq_getElem hj]; exact e⟩
theorem nam_okA {T O : List Tx} : okA (T ++ O) (T ++ O).length = true ↔ Nam T O := by
  rw [okA_all _ _ (Nat.le_refl _)]
  constructor
  · intro h
    have hl : (T ++ O).length = T.length + O.length := List.length_append
    refine ⟨fun x hx => ?_, nodup_getD fun j hj i hi e => ?_, nodup_getD fun j hj i hi e => ?_, fun x h1 h2 => ?_⟩
    · rcases hx with hx | hx
      · obtain ⟨j, hj, e⟩ := mem_getD hx
        have := (h j (by omega)).1
        rwa [getD_l hj, e] at this
      · obtain ⟨j, hj, e⟩ := mem_getD hx
        have := (h (T.length + j) (by omega)).1
        rwa [getD_r, e] at this
    · exact (h j (by omega)).2 i hi (by rw [getD_l hj, getD_l (by omega)]; exact e)
    · exact (h (T.length + j) (by omega)).2 (T.length + i) (by omega) (by rw [getD_r, getD_r]; exact e)
    · obtain ⟨i, hi, e1⟩ := mem_getD h1
      obtain ⟨j, hj, e2⟩ := mem_getD h2
      exact (h (T.length + j) (by omega)).2 i (by omega) (by rw [getD_r, getD_l hi, e1, e2])
  · intro h j hj
    have hl : (T ++ O).length = T.length + O.length := List.length_append
    have hm : ∀ k, k < T.length + O.length → (k < T.length ∧ (T ++ O).getD k [] = T.getD k []) ∨ ∃ q, k = T.length + q ∧ q < O.length ∧ (T ++ O).getD k [] = O.getD q [] := fun k hk => by
      by_cases hk2 : k < T.length
      · exact .inl ⟨hk2, getD_l hk2⟩
      · refine .inr ⟨k - T.length, by omega, by omega, ?_⟩
        have := getD_r (T := T) (O := O) (k - T.length)
        rwa [show T.length + (k - T.length) = k by omega] at this
    rcases hm j (by omega) with ⟨h1, h2⟩ | ⟨q, h1, h2, h3⟩
    · refine ⟨by rw [h2]; exact h.all _ (.inl (getD_mem h1)), fun i hi e => ?_⟩
      rw [h2, getD_l (by omega)] at e
      have := getD_inj h.dupT (show i < T.length by omega) h1 e
      omega
    · refine ⟨by rw [h3]; exact h.all _ (.inr (getD_mem h2)), fun i hi e => ?_⟩
      rw [h3] at e
      rcases hm i (by omega) with ⟨g1, g2⟩ | ⟨q', g1, g2, g3⟩
      · rw [g2] at e
        exact h.off _ (getD_mem g1) (e ▸ getD_mem h2)
      · rw [g3] at e
        have := getD_inj h.dupO g2 h2 e
        omega
theorem nu_of_none (A : List Tx) (t : Nat) (x : Tx) : ∀ m, nuTo A t m x = none → ∀ j, j < m → j ≠ t → A.getD j [] ≠ x
  | 0, _ => fun j hj => by omega
  | m + 1, h => by
    rw [nuTo] at h
    intro j hj ht
    split at h
    · rename_i hm
      exact nu_of_none A t x m h j (by omega) ht
    · have h' : (if x = A.getD m [] then some (m : Int) else nuTo A t m x) = none := h
      by_cases e : x = A.getD m []
      · rw [if_pos e] at h'; cases h'
      · rw [if_neg e] at h'
        by_cases hj2 : j = m
        · subst hj2; exact fun e' => e e'.symm
        · exact nu_of_none A t x m h' j (by omega) ht
theorem gd_iff (A : List Tx) (t : Nat) : ∀ m, gdTo A t m = true → ∀ j, j < m → j ≠ t → nmS (A.getD j []) = true ∧ ∀ i, i < j → i ≠ t → A.getD i [] ≠ A.getD j []
  | 0, _ => fun j hj => by omega
  | m + 1, h => by
    rw [gdTo, Bool.and_eq_true] at h
    intro j hj ht
    by_cases hj2 : j = m
    · subst hj2
      have h2 := h.2
      rw [decide_eq_false ht, Bool.false_or, Bool.and_eq_true, Option.isNone_iff_eq_none] at h2
      exact ⟨h2.1, nu_of_none A t _ j h2.2⟩
    · exact gd_iff A t m h.1 j (by omega) ht
theorem nam_gd {T O : List Tx} (h : gdF T O = true) : Nam T O := by
  have hl := allN_len T O
  have hg := gd_iff (allN T O) T.length _ h
  refine ⟨fun x hx => ?_, nodup_getD fun j hj i hi e => ?_, nodup_getD fun j hj i hi e => ?_, fun x h1 h2 => ?_⟩
  · rcases hx with hx | hx
    · obtain ⟨j, hj, e⟩ := mem_getD hx
      have := (hg j (by omega) (by omega)).1
      rwa [alN_T hj, e] at this
    · obtain ⟨j, hj, e⟩ := mem_getD hx
      have := (hg (T.length + 1 + j) (by omega) (by omega)).1
      rwa [alN_O, e] at this
  · exact (hg j (by omega) (by omega)).2 i hi (by omega) (by rw [alN_T hj, alN_T (by omega)]; exact e)
  · exact (hg (T.length + 1 + j) (by omega) (by omega)).2 (T.length + 1 + i) (by omega) (by omega) (by rw [alN_O, alN_O]; exact e)
  · obtain ⟨i, hi, e1⟩ := mem_getD h1
    obtain ⟨j, hj, e2⟩ := mem_getD h2
    exact (hg (T.length + 1 + j) (by omega) (by omega)).2 i (by omega) (by omega) (by rw [alN_O, alN_T hi, e1, e2])
theorem nam_no {T O : List Tx} {x : Tx} (h1 : x ∉ T) (h2 : x ∉ O) : nuF T O x = none := by
  unfold nuF
  refine nu_none _ _ _ _ fun j hj ht e => ?_
  rcases alN_split hj ht with ⟨g1, g2⟩ | ⟨k, g1, g2, g3⟩
  · rw [g2] at e; exact h1 (e ▸ getD_mem g1)
  · rw [g3] at e; exact h2 (e ▸ getD_mem g2)
theorem Nam.some_iff {T O : List Tx} (h : Nam T O) (x : Tx) : (nuF T O x).isSome = decide (0 ≤ atS (T ++ O) x) := by
  rw [Bool.eq_iff_iff, decide_eq_true_eq, at_iff, List.mem_append]
  constructor
  · intro hs
    by_cases h1 : x ∈ T
    · exact .inl h1
    · by_cases h2 : x ∈ O
      · exact .inr h2
      · rw [nam_no h1 h2] at hs; cases hs
  · intro hx; exact (h.find hx).2.2.1
theorem Nam.left_iff {T O : List Tx} (h : Nam T O) (x : Tx) : decide ((T.length : Int) < vaF (nuF T O) x) = decide (0 ≤ atS O x) := by
  rw [Bool.eq_iff_iff, decide_eq_true_eq, decide_eq_true_eq, at_iff]
  constructor
  · intro hs
    by_cases h2 : x ∈ O
    · exact h2
    · exfalso
      by_cases h1 : x ∈ T
      · unfold vaF at hs
        rw [h.inT h1, Option.getD_some] at hs
        obtain ⟨j, g1, g2, _⟩ := at_mem h1
        omega
      · unfold vaF at hs
        rw [nam_no h1 h2, Option.getD_none] at hs
        omega
  · intro hx
    have := h.find (.inr hx)
    rw [this.1]; exact this.2.2.2 hx
theorem doc_new (T O : List Tx) (s : Tx) (L : List (List Tx)) : docE T O s L = newE T O s L := by
  unfold docE newE docO
  by_cases hn : Nam T O
  · rw [nam_okA.2 hn, hn.good, hn.left_iff, Bool.and_true, Bool.true_and]
    have hro : L.all (roF (nuF T O) T.length) = L.all (okR O (T ++ O)) := by
      congr 1
      funext r
      unfold roF okR
      rw [hn.left_iff]
      congr 1
      congr 1
      funext x
      exact hn.some_iff x
    rw [hro, allN_len]
    cases decide (0 ≤ atS O s) with
    | false => simp
    | true =>
      cases decide (1 ≤ L.length) with
      | false => simp
      | true =>
        cases L.all (okR O (T ++ O)) with
        | false => simp
        | true =>
          simp only [Bool.and_true, if_true]
          by_cases h1 : L.length ≤ 128 ∧ T.length + O.length + 1 ≤ 128
          · rw [if_pos h1, decide_eq_true h1.1, decide_eq_true (by omega)]; rfl
          · rw [if_neg h1, if_neg]
            rw [Bool.and_eq_true, decide_eq_true_eq, decide_eq_true_eq]
            omega
  · have h1 : okA (T ++ O) (T ++ O).length = false := by
      cases hc : okA (T ++ O) (T ++ O).length with
      | false => rfl
      | true => exact absurd (nam_okA.1 hc) hn
    have h2 : gdF T O = false := by
      cases hc : gdF T O with
      | false => rfl
      | true => exact absurd (nam_gd hc) hn
    rw [h1, h2]
    simp
/-- What stands fast where there is no error. -/
theorem doc_ok {T O : List Tx} {s : Tx} {L : List (List Tx)} (h : docE T O s L = 0) : Nam T O ∧ s ∈ O ∧ (∀ r ∈ L, 1 ≤ r.length ∧ r.getD 0 [] ∈ O ∧ ∀ x ∈ r.drop 1, x ∈ T ∨ x ∈ O) ∧ docO T O s L = true ∧ (L.length ≤ 128 ∧ T.length + O.length + 1 ≤ 128) := by
  have hd : docO T O s L = true := by
    cases hc : docO T O s L with
    | true => rfl
    | false => unfold docE at h; rw [hc] at h; simp at h
  have hb : L.length ≤ 128 ∧ T.length + O.length + 1 ≤ 128 := by
    by_cases hc : L.length ≤ 128 ∧ T.length + O.length + 1 ≤ 128
    · exact hc
    · unfold docE at h; rw [hd, if_pos rfl, if_neg hc] at h; cases h
  have hd2 := hd
  unfold docO at hd2
  simp only [Bool.and_eq_true, decide_eq_true_eq] at hd2
  obtain ⟨⟨⟨h1, h2⟩, h3⟩, h4⟩ := hd2
  refine ⟨nam_okA.1 h3, (at_iff _ _).1 h1, fun r hr => ?_, hd, hb⟩
  have := List.all_eq_true.1 h4 r hr
  unfold okR at this
  simp only [Bool.and_eq_true, decide_eq_true_eq, List.all_eq_true] at this
  obtain ⟨⟨g1, g2⟩, g3⟩ := this
  refine ⟨g1, (at_iff _ _).1 g2, fun x hx => ?_⟩
  have := (at_iff _ _).1 (g3 x hx)
  exact List.mem_append.1 this
theorem doc_rules {T O : List Tx} {s : Tx} {L : List (List Tx)} (h : docE T O s L = 0) : L.map (rnF (nuF T O)) = L.map (dnF T O) := by
  obtain ⟨hn, _, hr, _⟩ := doc_ok h
  apply List.map_congr_left
  intro r hm
  obtain ⟨h1, h2, h3⟩ := hr r hm
  unfold rnF dnF
  rw [(hn.find (.inr h2)).1]
  congr 1
  apply List.map_congr_left
  intro x hx
  exact (hn.find (h3 x hx)).1
theorem doc_start {T O : List Tx} {s : Tx} {L : List (List Tx)} (h : docE T O s L = 0) : (T.length : Int) + 1 + atS O s = (((vaF (nuF T O) s).toNat : Nat) : Int) ∧ 0 ≤ atS O s := by
  obtain ⟨hn, hs, _⟩ := doc_ok h
  have h2 := hn.inO hs
  have h3 := (at_iff O s).2 hs
  refine ⟨?_, h3⟩
  unfold vaF
  rw [h2]
  simp only [Option.getD_some]
  omega
end Go.Proofs.YtgmbkelmgolkpaaDoor
