/- The document's names, numbers and rules of a text are the program's: plain facts. -/
import Derived.Test.YtgmbkelmgolkpaaDoorRfd
import Derived.Test.YtgmbkelmgolkpaaDoorGd
namespace Go.Proofs.YtgmbkelmgolkpaaDoor
set_option linter.unusedVariables false

theorem at_spec (L : List Tx) (x : Tx) : ∀ k, k ≤ L.length → (atTo L x k = -1 ∧ x ∉ L.take k) ∨ (∃ j, j < k ∧ atTo L x k = (j : Int) ∧ L.getD j [] = x ∧ ∀ i, i < j → L.getD i [] ≠ x)
  | 0, _ => .inl ⟨rfl, by simp⟩
  | k + 1, hk => by
    rw [atTo]
    rcases at_spec L x k (by omega) with ⟨h1, h2⟩ | ⟨j, h1, h2, h3, h4⟩
    · by_cases he : L.getD k [] = x
      · rw [if_pos ⟨by omega, he⟩]
        refine .inr ⟨k, by omega, rfl, he, fun i hi e => h2 ?_⟩
        rw [List.mem_take_iff_getElem]
        exact ⟨i, by omega, by rw [← e, List.getD_eq_getElem?_getD, List.getElem?_eq_getElem (by omega)]; rfl⟩
      · rw [if_neg (fun h => he h.2), getD_take (by omega)]
        refine .inl ⟨h1, fun h => ?_⟩
        rcases List.mem_append.1 h with h | h
        · exact h2 h
        · exact he (List.mem_singleton.1 h).symm
    · rw [if_neg (fun h => by omega)]
      exact .inr ⟨j, by omega, h2, h3, h4⟩
theorem at_iff (L : List Tx) (x : Tx) : 0 ≤ atS L x ↔ x ∈ L := by
  unfold atS
  rcases at_spec L x L.length (Nat.le_refl _) with ⟨h1, h2⟩ | ⟨j, h1, h2, h3, h4⟩
  · rw [List.take_length] at h2
    exact ⟨fun h => by omega, fun h => absurd h h2⟩
  · refine ⟨fun _ => ?_, fun _ => by omega⟩
    rw [← h3, List.getD_eq_getElem?_getD, List.getElem?_eq_getElem h1]
    exact List.getElem_mem h1
theorem at_neg (L : List Tx) (x : Tx) : atS L x < 0 ↔ x ∉ L := by
  have := at_iff L x
  constructor
  · intro h hm; have := this.2 hm; omega
  · intro h; rcases Int.lt_or_le (atS L x) 0 with h1 | h1
    · exact h1
    · exact absurd (this.1 h1) h
theorem at_mem {L : List Tx} {x : Tx} (h : x ∈ L) : ∃ j, j < L.length ∧ atS L x = (j : Int) ∧ L.getD j [] = x ∧ ∀ i, i < j → L.getD i [] ≠ x := by
  rcases at_spec L x L.length (Nat.le_refl _) with ⟨h1, h2⟩ | h1
  · rw [List.take_length] at h2; exact absurd h h2
  · exact h1
/-- A name put behind others, if it is none of them. -/
def insL (out : List Tx) (x : Tx) : List Tx := if out.contains x then out else out ++ [x]
theorem ins_mem (out : List Tx) (x y : Tx) : y ∈ insL out x ↔ y ∈ out ∨ y = x := by
  unfold insL
  split
  · rename_i h
    have := List.contains_iff_mem.1 h
    exact ⟨.inl, fun h => h.elim id (fun e => e ▸ this)⟩
  · rw [List.mem_append, List.mem_singleton]
theorem ins_old {out : List Tx} {x : Tx} (h : x ∈ out) : insL out x = out := if_pos (List.contains_iff_mem.2 h)
theorem fold_mem (N : List Tx) : ∀ (out : List Tx) (y : Tx), y ∈ N.foldl insL out ↔ y ∈ out ∨ y ∈ N := by
  induction N with
  | nil => intro out y; simp
  | cons a N ih => intro out y; rw [List.foldl_cons, ih, ins_mem, List.mem_cons, or_assoc]
theorem fr_fold (N : List Tx) : ∀ k, k ≤ N.length → frTo N k = (N.take k).foldl insL []
  | 0, _ => by simp [frTo]
  | k + 1, hk => by rw [frTo, getD_take (by omega), List.foldl_append, ← fr_fold N k (by omega)]; rfl
theorem fr_all (N : List Tx) : frTo N N.length = N.foldl insL [] := by rw [fr_fold N _ (Nat.le_refl _), List.take_length]
theorem ins_filter (p : Tx → Bool) (out : List Tx) (x : Tx) : (insL out x).filter p = if p x then insL (out.filter p) x else out.filter p := by
  unfold insL
  by_cases h : x ∈ out
  · rw [if_pos (List.contains_iff_mem.2 h)]
    by_cases hp : p x = true
    · rw [if_pos hp, if_pos (List.contains_iff_mem.2 (List.mem_filter.2 ⟨h, hp⟩))]
    · rw [if_neg hp]
  · rw [if_neg (fun hc => h (List.contains_iff_mem.1 hc)), List.filter_append]
    by_cases hp : p x = true
    · rw [if_pos hp, if_neg (fun hc => h (List.mem_filter.1 (List.contains_iff_mem.1 hc)).1)]
      simp [hp]
    · rw [if_neg hp]; simp [hp]
theorem fold_filter (p : Tx → Bool) (N : List Tx) : ∀ out, (N.foldl insL out).filter p = (N.filter p).foldl insL (out.filter p) := by
  induction N with
  | nil => intro out; rfl
  | cons a N ih =>
    intro out
    rw [List.foldl_cons, ih, ins_filter]
    by_cases hp : p a = true
    · rw [if_pos hp, List.filter_cons_of_pos hp, List.foldl_cons]
    · rw [if_neg hp, List.filter_cons_of_neg hp]
/-- The names of a line's first q words. -/
def dwTo (ws : List Tx) : Nat → List Tx
  | 0 => []
  | q + 1 => if q ≠ 1 ∧ ws.getD q [] ≠ tOr then dwTo ws q ++ [ws.getD q []] else dwTo ws q
theorem mw_fold (ws oth : List Tx) (non : Bool) (out : List Tx) : ∀ q, mwTo ws oth non out q = ((dwTo ws q).filter (fun x => decide (0 ≤ atS oth x) == non)).foldl insL out
  | 0 => rfl
  | q + 1 => by
    rw [mwTo, dwTo]
    by_cases h1 : q ≠ 1 ∧ ws.getD q [] ≠ tOr
    · rw [if_pos h1, List.filter_append, List.foldl_append, ← mw_fold ws oth non out q]
      by_cases h2 : decide (0 ≤ atS oth (ws.getD q [])) = non
      · rw [List.filter_cons_of_pos (by simpa using h2)]
        show _ = insL _ _
        unfold insL
        by_cases h3 : atS (mwTo ws oth non out q) (ws.getD q []) < 0
        · rw [if_pos ⟨h1.1, h1.2, h2, h3⟩, if_neg (fun hc => (at_neg _ _).1 h3 (List.contains_iff_mem.1 hc))]
        · rw [if_neg (fun h => h3 h.2.2.2), if_pos (List.contains_iff_mem.2 (by rw [← at_iff]; omega))]
      · rw [if_neg (fun h => h2 h.2.2.1), List.filter_cons_of_neg (by simpa using h2)]
        rfl
    · rw [if_neg h1, if_neg (fun h => h1 ⟨h.1, h.2.1⟩)]
      exact mw_fold ws oth non out q
theorem al_fold (ws : List Tx) (h0 : ws.getD 0 [] ≠ tOr) (out : List Tx) : ∀ k, ((alTo ws k).1.flatten ++ (alTo ws k).2).foldl insL out = (dwTo ws (2 + k)).foldl insL out ∧ ws.getD 0 [] ∈ (alTo ws k).2
  | 0 => by
    have e : dwTo ws 2 = [ws.getD 0 []] := by rw [dwTo, if_neg (by simp), dwTo, if_pos ⟨by decide, h0⟩]; rfl
    refine ⟨?_, List.mem_singleton.2 rfl⟩
    show _ = (dwTo ws 2).foldl insL out
    rw [e]; rfl
  | k + 1 => by
    obtain ⟨h1, h2⟩ := al_fold ws h0 out k
    rw [alTo, show 2 + (k + 1) = (2 + k) + 1 by omega, dwTo]
    by_cases he : ws.getD (2 + k) [] = tOr
    · rw [if_pos (beq_iff_eq.2 he), if_neg (fun h => h.2 he)]
      refine ⟨?_, List.mem_singleton.2 rfl⟩
      rw [List.flatten_append, List.foldl_append]
      simp only [List.flatten_cons, List.flatten_nil, List.append_nil]
      rw [h1]
      refine ins_old ?_
      rw [← h1, fold_mem]
      exact .inr (List.mem_append.2 (.inr h2))
    · rw [if_neg (fun h => he (beq_iff_eq.1 h)), if_pos ⟨by omega, he⟩]
      refine ⟨?_, List.mem_append.2 (.inl h2)⟩
      rw [← List.append_assoc, List.foldl_append, h1, List.foldl_append]
theorem alS_fold {ws : List Tx} (h0 : ws.getD 0 [] ≠ tOr) (h2 : 2 ≤ ws.length) (out : List Tx) : (alS ws).flatten.foldl insL out = (dwTo ws ws.length).foldl insL out := by
  have := (al_fold ws h0 out (ws.length - 2)).1
  unfold alS
  rw [List.flatten_append, show ws.length = 2 + (ws.length - 2) by omega]
  simpa using this
/-- The names of the first k lines. -/
def awTo (ls : List Tx) : Nat → List Tx
  | 0 => []
  | k + 1 => if skipS (fldS (ls.getD k [])) then awTo ls k else awTo ls k ++ dwTo (fldS (ls.getD k [])) (fldS (ls.getD k [])).length
theorem mt_fold (ls oth : List Tx) (non : Bool) : ∀ k, mtTo ls oth non k = ((awTo ls k).filter (fun x => decide (0 ≤ atS oth x) == non)).foldl insL []
  | 0 => rfl
  | k + 1 => by
    rw [mtTo, awTo]
    split
    · exact mt_fold ls oth non k
    · rw [mw_fold, mt_fold ls oth non k, List.filter_append, List.foldl_append]
theorem ln_parts {ws : List Tx} (h : lnS ws = true) : 2 ≤ ws.length ∧ nmS (ws.getD 0 []) = true ∧ ws.getD 1 [] = tArr ∧ ∀ x ∈ ws.drop 2, x = tOr ∨ nmS x = true := by
  unfold lnS at h
  simp only [Bool.and_eq_true, decide_eq_true_eq, beq_iff_eq, List.all_eq_true, Bool.or_eq_true] at h
  exact ⟨h.1.1.1, h.1.1.2, h.1.2, h.2⟩
theorem nm_not {x : Tx} (h : nmS x = true) : x ≠ tEnd ∧ x ≠ tArr ∧ x ≠ tOr ∧ x ≠ [] := by
  unfold nmS at h
  simp only [Bool.and_eq_true, decide_eq_true_eq, Bool.not_eq_true', beq_eq_false_iff_ne] at h
  exact ⟨h.1.1.2, h.1.2, h.2, fun e => by rw [e] at h; simp at h⟩
theorem rd_fold (ls : List Tx) : ∀ k, (∀ j, j < k → goodL ls j = true) → (rdTo ls k).flatten.foldl insL [] = (awTo ls k).foldl insL []
  | 0, _ => rfl
  | k + 1, h => by
    have ih := rd_fold ls k (fun j hj => h j (by omega))
    rw [rdTo, awTo]
    by_cases hs : skipS (fldS (ls.getD k [])) = true
    · rw [if_pos hs, if_pos hs]; exact ih
    · rw [if_neg hs, if_neg hs, List.flatten_append, List.foldl_append, List.foldl_append, ih]
      have hg := h k (by omega)
      unfold goodL at hg
      rw [Bool.or_eq_true] at hg
      have hl : lnS (fldS (ls.getD k [])) = true := hg.resolve_left hs
      obtain ⟨h1, h2, _⟩ := ln_parts hl
      exact alS_fold (nm_not h2).2.2.1 h1 _
/-- The names that stand left, as the document has them. -/
def obTo (ls : List Tx) : Nat → List Tx
  | 0 => []
  | k + 1 => if skipS (fldS (ls.getD k [])) then obTo ls k else insL (obTo ls k) ((fldS (ls.getD k [])).getD 0 [])
theorem al_left (ws : List Tx) : ∀ k, (∀ r ∈ (alTo ws k).1, r.getD 0 [] = ws.getD 0 []) ∧ (alTo ws k).2.getD 0 [] = ws.getD 0 []
  | 0 => ⟨fun r h => (by cases h), rfl⟩
  | k + 1 => by
    obtain ⟨h1, h2⟩ := al_left ws k
    rw [alTo]
    split
    · refine ⟨fun r h => ?_, rfl⟩
      rcases List.mem_append.1 h with h | h
      · exact h1 r h
      · rw [List.mem_singleton.1 h]; exact h2
    · refine ⟨h1, ?_⟩
      have := (al_cur ws k).1
      show ((alTo ws k).2 ++ _).getD 0 [] = _
      rw [List.getD_eq_getElem?_getD, List.getElem?_append_left (by omega), ← List.getD_eq_getElem?_getD]
      exact h2
theorem alS_left (ws : List Tx) : ∀ r ∈ alS ws, r.getD 0 [] = ws.getD 0 [] := by
  intro r h
  rcases List.mem_append.1 h with h | h
  · exact (al_left ws _).1 r h
  · rw [List.mem_singleton.1 h]; exact (al_left ws _).2
theorem alS_ne (ws : List Tx) : alS ws ≠ [] := by unfold alS; simp
theorem ob_mem (ls : List Tx) (x : Tx) : ∀ k, x ∈ obTo ls k ↔ x ∈ leftsS (rdTo ls k)
  | 0 => by simp [obTo, rdTo, leftsS]
  | k + 1 => by
    have ih := ob_mem ls x k
    rw [obTo, rdTo]
    split
    · exact ih
    · rw [ins_mem, ih]
      unfold leftsS
      rw [List.map_append, List.mem_append]
      apply or_congr Iff.rfl
      rw [List.mem_map]
      constructor
      · rintro rfl
        obtain ⟨r, hr⟩ := List.exists_mem_of_ne_nil _ (alS_ne (fldS (ls.getD k [])))
        exact ⟨r, hr, alS_left _ r hr⟩
      · rintro ⟨r, hr, rfl⟩
        exact alS_left _ r hr
theorem te_doc (ls : List Tx) (n : Nat) (h : ∀ j, j < n → goodL ls j = true) : mtTo ls (obTo ls n) false n = teS (rdTo ls n) ∧ mtTo ls (obTo ls n) true n = otS (rdTo ls n) := by
  unfold teS otS
  rw [fr_all, rd_fold ls n h, mt_fold, mt_fold, fold_filter, fold_filter]
  have e : ∀ x, decide (0 ≤ atS (obTo ls n) x) = (leftsS (rdTo ls n)).contains x := fun x => by
    rw [Bool.eq_iff_iff, decide_eq_true_eq, at_iff, ob_mem, List.contains_iff_mem]
  constructor
  · congr 1
    apply List.filter_congr
    intro x _
    rw [e]; cases (leftsS (rdTo ls n)).contains x <;> rfl
  · congr 1
    apply List.filter_congr
    intro x _
    rw [e]; cases (leftsS (rdTo ls n)).contains x <;> rfl
theorem nu_none (A : List Tx) (t : Nat) (x : Tx) : ∀ m, (∀ j, j < m → j ≠ t → A.getD j [] ≠ x) → nuTo A t m x = none
  | 0, _ => rfl
  | m + 1, h => by
    rw [nuTo]
    split
    · exact nu_none A t x m fun j hj => h j (by omega)
    · rename_i hm
      show (if x = A.getD m [] then some (m : Int) else nuTo A t m x) = none
      rw [if_neg (fun e => h m (by omega) hm e.symm)]
      exact nu_none A t x m fun j hj => h j (by omega)
theorem nu_at (A : List Tx) (t : Nat) (x : Tx) {j : Nat} (ht : j ≠ t) (he : A.getD j [] = x) : ∀ m, j < m → (∀ i, j < i → i < m → i ≠ t → A.getD i [] ≠ x) → nuTo A t m x = some (j : Int)
  | 0, h, _ => by omega
  | m + 1, h, hn => by
    rw [nuTo]
    by_cases hm : m = t
    · rw [if_pos hm]
      exact nu_at A t x ht he m (by omega) fun i h1 h2 => hn i h1 (by omega)
    · rw [if_neg hm]
      by_cases hj : j = m
      · subst hj; exact if_pos he.symm
      · show (if x = A.getD m [] then some (m : Int) else nuTo A t m x) = some (j : Int)
        rw [if_neg (fun e => hn m (by omega) (by omega) hm e.symm)]
        exact nu_at A t x ht he m (by omega) fun i h1 h2 => hn i h1 (by omega)
theorem gd_all (A : List Tx) (t : Nat) : ∀ m, (∀ j, j < m → j ≠ t → nmS (A.getD j []) = true ∧ ∀ i, i < j → i ≠ t → A.getD i [] ≠ A.getD j []) → gdTo A t m = true
  | 0, _ => rfl
  | m + 1, h => by
    rw [gdTo, gd_all A t m fun j hj => h j (by omega)]
    by_cases hm : m = t
    · simp [hm]
    · obtain ⟨h1, h2⟩ := h m (by omega) hm
      rw [h1, nu_none A t _ m h2]
      simp
/-- Names that are all unlike, and none the end. -/
structure Nam (T O : List Tx) : Prop where
  all : ∀ x, x ∈ T ∨ x ∈ O → nmS x = true
  dupT : T.Nodup
  dupO : O.Nodup
  off : ∀ x, x ∈ T → x ∉ O
theorem alN_T {T O : List Tx} {j : Nat} (h : j < T.length) : (allN T O).getD j [] = T.getD j [] := by
  unfold allN
  simp only [List.flatten_cons, List.flatten_nil, List.append_nil]
  rw [List.getD_eq_getElem?_getD, List.getD_eq_getElem?_getD, List.getElem?_append_left h]
theorem alN_O {T O : List Tx} (j : Nat) : (allN T O).getD (T.length + 1 + j) [] = O.getD j [] := by
  unfold allN
  simp only [List.flatten_cons, List.flatten_nil, List.append_nil]
  rw [List.getD_eq_getElem?_getD, List.getD_eq_getElem?_getD, List.getElem?_append_right (by omega), List.getElem?_append_right (by simp; omega)]
  congr 2
  simp; omega
theorem getD_inj {L : List Tx} (hd : L.Nodup) {i j : Nat} (hi : i < L.length) (hj : j < L.length) (h : L.getD i [] = L.getD j []) : i = j := by
  rw [List.getD_eq_getElem?_getD, List.getD_eq_getElem?_getD, List.getElem?_eq_getElem hi, List.getElem?_eq_getElem hj] at h
  exact (List.getElem_inj hd).1 h
theorem alN_split {T O : List Tx} {i : Nat} (hi : i < (allN T O).length) (ht : i ≠ T.length) : (i < T.length ∧ (allN T O).getD i [] = T.getD i []) ∨ ∃ k, i = T.length + 1 + k ∧ k < O.length ∧ (allN T O).getD i [] = O.getD k [] := by
  rw [allN_len] at hi
  rcases Nat.lt_or_ge i T.length with h | h
  · exact .inl ⟨h, alN_T h⟩
  · refine .inr ⟨i - (T.length + 1), by omega, by omega, ?_⟩
    have := alN_O (T := T) (O := O) (i - (T.length + 1))
    rwa [show T.length + 1 + (i - (T.length + 1)) = i by omega] at this
theorem Nam.one {T O : List Tx} (h : Nam T O) {i j : Nat} (hi : i < (allN T O).length) (hj : j < (allN T O).length) (ti : i ≠ T.length) (tj : j ≠ T.length) (e : (allN T O).getD i [] = (allN T O).getD j []) : i = j := by
  rcases alN_split hi ti with ⟨h1, h2⟩ | ⟨k, h1, h2, h3⟩
  · rcases alN_split hj tj with ⟨g1, g2⟩ | ⟨l, g1, g2, g3⟩
    · rw [h2, g2] at e; exact getD_inj h.dupT h1 g1 e
    · rw [h2, g3] at e; exact absurd (e ▸ getD_mem g2) (h.off _ (getD_mem h1))
  · rcases alN_split hj tj with ⟨g1, g2⟩ | ⟨l, g1, g2, g3⟩
    · rw [h3, g2] at e; exact absurd (e ▸ getD_mem h2) (h.off _ (getD_mem g1))
    · rw [h3, g3] at e; have := getD_inj h.dupO h2 g2 e; omega
theorem Nam.good {T O : List Tx} (h : Nam T O) : gdF T O = true := by
  apply gd_all
  intro j hj ht
  constructor
  · rcases alN_split hj ht with ⟨h1, h2⟩ | ⟨k, h1, h2, h3⟩
    · rw [h2]; exact h.all _ (.inl (getD_mem h1))
    · rw [h3]; exact h.all _ (.inr (getD_mem h2))
  · intro i hi ti e
    have := h.one (by omega) hj ti ht e
    omega
theorem Nam.inT {T O : List Tx} (h : Nam T O) {x : Tx} (hx : x ∈ T) : nuF T O x = some (atS T x) := by
  obtain ⟨j, h1, h2, h3, h4⟩ := at_mem hx
  rw [h2]
  have hl := allN_len T O
  refine nu_at _ _ x (by omega) (by rw [alN_T h1]; exact h3) _ (by omega) fun i g1 g2 g3 e => ?_
  have := h.one g2 (show j < _ by omega) g3 (by omega) (by rw [e, alN_T h1]; exact h3.symm)
  omega
theorem Nam.inO {T O : List Tx} (h : Nam T O) {x : Tx} (hx : x ∈ O) : nuF T O x = some ((T.length + 1 : Nat) + atS O x) := by
  obtain ⟨j, h1, h2, h3, h4⟩ := at_mem hx
  rw [h2]
  have hl := allN_len T O
  have := nu_at (allN T O) T.length x (j := T.length + 1 + j) (by omega) (by rw [alN_O]; exact h3) (allN T O).length (by omega) fun i g1 g2 g3 e => by
    have := h.one g2 (show T.length + 1 + j < _ by omega) g3 (by omega) (by rw [e, alN_O]; exact h3.symm)
    omega
  rw [show ((T.length + 1 + j : Nat) : Int) = ((T.length + 1 : Nat) : Int) + (j : Int) by omega] at this
  exact this
/-- The number of a name, as the document finds it. -/
def dfS (T O : List Tx) (x : Tx) : Int := if x = tEnd then (T.length : Int) else if 0 ≤ atS T x then atS T x else if 0 ≤ atS O x then (T.length : Int) + 1 + atS O x else -1
theorem Nam.find {T O : List Tx} (h : Nam T O) {x : Tx} (hx : x ∈ T ∨ x ∈ O) : vaF (nuF T O) x = dfS T O x ∧ 0 ≤ dfS T O x ∧ (nuF T O x).isSome = true ∧ (x ∈ O → (T.length : Int) < dfS T O x) := by
  have hne := (nm_not (h.all x hx)).1
  unfold dfS vaF
  rw [if_neg hne]
  by_cases hT : x ∈ T
  · rw [h.inT hT, if_pos ((at_iff _ _).2 hT)]
    exact ⟨rfl, (at_iff _ _).2 hT, rfl, fun hO => absurd hO (h.off x hT)⟩
  · have hO := hx.resolve_left hT
    rw [h.inO hO, if_neg (fun hc => hT ((at_iff _ _).1 hc)), if_pos ((at_iff _ _).2 hO)]
    have := (at_iff _ _).2 hO
    refine ⟨?_, by omega, rfl, fun _ => by omega⟩
    show ((T.length + 1 : Nat) : Int) + atS O x = _
    omega
/-- All words of a text's rules are names. -/
theorem al_names (ws : List Tx) (h : lnS ws = true) : ∀ k, 2 + k ≤ ws.length → (∀ r ∈ (alTo ws k).1, ∀ x ∈ r, nmS x = true) ∧ ∀ x ∈ (alTo ws k).2, nmS x = true := by
  obtain ⟨h1, h2, h3, h4⟩ := ln_parts h
  intro k
  induction k with
  | zero => exact fun _ => ⟨fun r hr => (by cases hr), fun x hx => (by rw [List.mem_singleton.1 hx]; exact h2)⟩
  | succ k ih =>
    intro hk
    obtain ⟨g1, g2⟩ := ih (by omega)
    rw [alTo]
    split
    · refine ⟨fun r hr => ?_, fun x hx => (by rw [List.mem_singleton.1 hx]; exact h2)⟩
      rcases List.mem_append.1 hr with hr | hr
      · exact g1 r hr
      · rw [List.mem_singleton.1 hr]; exact g2
    · rename_i hne
      refine ⟨g1, fun x hx => ?_⟩
      rcases List.mem_append.1 hx with hx | hx
      · exact g2 x hx
      · rw [List.mem_singleton.1 hx]
        have hm : ws.getD (2 + k) [] ∈ ws.drop 2 := by
          rw [List.getD_eq_getElem?_getD, List.getElem?_eq_getElem (show 2 + k < ws.length by omega)]
          exact List.mem_drop_iff_getElem.2 ⟨k, by omega, by simp⟩
        exact (h4 _ hm).resolve_left (fun e => hne (beq_iff_eq.2 e))
theorem rd_names (ls : List Tx) : ∀ k, (∀ j, j < k → goodL ls j = true) → ∀ r ∈ rdTo ls k, 1 ≤ r.length ∧ ∀ x ∈ r, nmS x = true
  | 0, _ => fun r hr => by cases hr
  | k + 1, h => by
    have ih := rd_names ls k (fun j hj => h j (by omega))
    rw [rdTo]
    by_cases hs : skipS (fldS (ls.getD k [])) = true
    · rw [if_pos hs]; exact ih
    · rw [if_neg hs]
      have hg := h k (by omega)
      unfold goodL at hg
      rw [Bool.or_eq_true] at hg
      have hl : lnS (fldS (ls.getD k [])) = true := hg.resolve_left hs
      have h1 := (ln_parts hl).1
      have hn := al_names _ hl ((fldS (ls.getD k [])).length - 2) (by omega)
      intro r hr
      rcases List.mem_append.1 hr with hr | hr
      · exact ih r hr
      · refine ⟨alS_pos r hr, ?_⟩
        rcases List.mem_append.1 hr with hr | hr
        · exact hn.1 r hr
        · rw [List.mem_singleton.1 hr]; exact hn.2
theorem te_mem {L : List (List Tx)} {x : Tx} : x ∈ teS L ↔ x ∈ L.flatten ∧ x ∉ leftsS L := by
  unfold teS
  rw [List.mem_filter, fr_iff _ _ _ (Nat.le_refl _), List.take_length]
  simp
theorem ot_mem {L : List (List Tx)} {x : Tx} : x ∈ otS L ↔ x ∈ L.flatten ∧ x ∈ leftsS L := by
  unfold otS
  rw [List.mem_filter, fr_iff _ _ _ (Nat.le_refl _), List.take_length]
  simp
theorem nam_of {L : List (List Tx)} (h : ∀ r ∈ L, 1 ≤ r.length ∧ ∀ x ∈ r, nmS x = true) : Nam (teS L) (otS L) where
  all := fun x hx => by
    have hf : x ∈ L.flatten := hx.elim (fun h => (te_mem.1 h).1) (fun h => (ot_mem.1 h).1)
    obtain ⟨r, hr, hx⟩ := List.mem_flatten.1 hf
    exact (h r hr).2 x hx
  dupT := (fr_nodup _ _).filter _
  dupO := (fr_nodup _ _).filter _
  off := fun x h1 h2 => (te_mem.1 h1).2 (ot_mem.1 h2).2
theorem in_names {L : List (List Tx)} {r : List Tx} (hr : r ∈ L) {x : Tx} (hx : x ∈ r) : x ∈ teS L ∨ x ∈ otS L := by
  have hf : x ∈ L.flatten := List.mem_flatten.2 ⟨r, hr, hx⟩
  by_cases h : x ∈ leftsS L
  · exact .inr (ot_mem.2 ⟨hf, h⟩)
  · exact .inl (te_mem.2 ⟨hf, h⟩)
theorem left_in {L : List (List Tx)} {r : List Tx} (hr : r ∈ L) (h1 : 1 ≤ r.length) : r.getD 0 [] ∈ otS L := by
  refine ot_mem.2 ⟨List.mem_flatten.2 ⟨r, hr, getD_mem h1⟩, List.mem_map.2 ⟨r, hr, rfl⟩⟩
/-- The rules with the document's numbers are the program's. -/
theorem rn_doc {L : List (List Tx)} (h : ∀ r ∈ L, 1 ≤ r.length ∧ ∀ x ∈ r, nmS x = true) {r : List Tx} (hr : r ∈ L) : rnF (nuF (teS L) (otS L)) r = ((dfS (teS L) (otS L) (r.getD 0 [])).toNat, (r.drop 1).map (dfS (teS L) (otS L))) := by
  have hn := nam_of h
  unfold rnF
  rw [(hn.find (.inr (left_in hr (h r hr).1))).1]
  congr 1
  apply List.map_congr_left
  intro x hx
  exact (hn.find (in_names hr (List.mem_of_mem_drop hx))).1
end Go.Proofs.YtgmbkelmgolkpaaDoor
