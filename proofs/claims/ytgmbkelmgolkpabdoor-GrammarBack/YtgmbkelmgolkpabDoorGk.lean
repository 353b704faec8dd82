/- Texts of one proof, one behind the other. -/
import Derived.Test.YtgmbkelmgolkpabDoorFld
import Derived.Test.YtgmbkelmgolkpabDoorPrt
import Derived.Lib.SpaceUEq
import Derived.Laws.RangeAny
/- Plain: places of texts in rows, lines and words byte by byte, names and their numbers. -/
namespace Go.Proofs.YtgmbkelmgolkpabDoor
open Go.RowKit
set_option linter.unusedVariables false

/-- The place of a text in a row; -1: it is not there. -/
def atTo (L : List Tx) (x : Tx) : Nat → Int
  | 0 => -1
  | k + 1 => if atTo L x k < 0 ∧ L.getD k [] = x then (k : Int) else atTo L x k
def atS (L : List Tx) (x : Tx) : Int := atTo L x L.length
theorem at_found {L : List Tx} {x : Tx} {k : Nat} (hn : ∀ j, j < k → L.getD j [] ≠ x) (he : L.getD k [] = x) : ∀ m, k < m → atTo L x m = (k : Int)
  | 0, h => by omega
  | m + 1, h => by
    have hneg : ∀ q, q ≤ k → atTo L x q = -1 := fun q => by
      induction q with
      | zero => intro _; rfl
      | succ q ih => intro hq; rw [atTo, if_neg (fun hc => hn q (by omega) hc.2)]; exact ih (by omega)
    rw [atTo]
    by_cases hm : k = m
    · subst hm
      rw [if_pos ⟨by rw [hneg k (Nat.le_refl _)]; decide, he⟩]
    · have ih := at_found hn he m (by omega)
      rw [ih, if_neg (fun hc => by omega)]
theorem at_none {L : List Tx} {x : Tx} : ∀ m, (∀ j, j < m → L.getD j [] ≠ x) → atTo L x m = -1
  | 0, _ => rfl
  | m + 1, h => by rw [atTo, if_neg (fun hc => h m (by omega) hc.2)]; exact at_none m fun j hj => h j (by omega)
/-- A piece of a text. -/
def pcS (x : Tx) (a b : Nat) : Tx := (x.take b).drop a
theorem ba_cut (x : Tx) (a b : Nat) : (bA x).extract a b = bA (pcS x a b) := by
  unfold pcS bA
  apply ByteArray.ext
  rw [ByteArray.data_extract]
  apply Array.toList_inj.1
  simp [List.drop_take]
/-- The lines that end ahead of a place, and where the next one begins. -/
def lnTo (x : Tx) : Nat → List Tx × Nat
  | 0 => ([], 0)
  | i + 1 => if i = x.length ∨ x.getD i 0 = 10 then ((lnTo x i).1 ++ [pcS x (lnTo x i).2 i], i + 1) else lnTo x i
def dlnS (x : Tx) : List Tx := (lnTo x (x.length + 1)).1
theorem ln_le (x : Tx) : ∀ i, (lnTo x i).2 ≤ i ∧ (lnTo x i).1.length ≤ i
  | 0 => ⟨Nat.le_refl _, by simp [lnTo]⟩
  | i + 1 => by
    obtain ⟨h1, h2⟩ := ln_le x i
    rw [lnTo]; split
    · exact ⟨Nat.le_refl _, by rw [List.length_append, List.length_singleton]; omega⟩
    · exact ⟨by omega, by omega⟩
/-- The words that end ahead of a place, and where an open one begins. -/
def wdTo (x : Tx) : Nat → List Tx × Option Nat
  | 0 => ([], none)
  | i + 1 => if i = x.length ∨ x.getD i 0 = 32 ∨ x.getD i 0 = 9 then (match (wdTo x i).2 with
      | some a => ((wdTo x i).1 ++ [pcS x a i], none)
      | none => ((wdTo x i).1, none)) else (match (wdTo x i).2 with
      | some a => ((wdTo x i).1, some a)
      | none => ((wdTo x i).1, some i))
def dwdS (x : Tx) : List Tx := (wdTo x (x.length + 1)).1
theorem wd_le (x : Tx) : ∀ i, (wdTo x i).1.length ≤ i ∧ ∀ a, (wdTo x i).2 = some a → a < i
  | 0 => ⟨by simp [wdTo], fun a h => by cases h⟩
  | i + 1 => by
    obtain ⟨h1, h2⟩ := wd_le x i
    rw [wdTo]
    cases hf : (wdTo x i).2 with
    | some b =>
      split
      · exact ⟨by rw [List.length_append, List.length_singleton]; omega, fun a h => by cases h⟩
      · exact ⟨by show (wdTo x i).1.length ≤ _; omega, fun a h => by cases h; have := h2 b hf; omega⟩
    | none =>
      split
      · exact ⟨by show (wdTo x i).1.length ≤ _; omega, fun a h => by cases h⟩
      · exact ⟨by show (wdTo x i).1.length ≤ _; omega, fun a h => by cases h; omega⟩
theorem ln_run (x : Tx) (p : Nat) : ∀ q, p ≤ q → (∀ t, p ≤ t → t < q → t < x.length ∧ x.getD t 0 ≠ 10) → lnTo x q = lnTo x p := by
  intro q
  induction q with
  | zero => intro hp _; rw [show p = 0 by omega]
  | succ q ih =>
    intro hp h
    by_cases hq : p = q + 1
    · rw [hq]
    · have h1 := h q (by omega) (by omega)
      rw [lnTo, if_neg (fun hc => by rcases hc with hc | hc; · omega
                                     · exact h1.2 hc)]
      exact ih (by omega) fun t h1 h2 => h t h1 (by omega)
theorem ln_split (x : Tx) : ∀ (k p : Nat), p ≤ x.length → (lnTo x p).2 = p → Lib.count (x.drop p) [10] = k → (lnTo x p).1 ++ Lib.splitK [10] 0 k (x.drop p) = dlnS x := by
  intro k
  induction k with
  | zero =>
    intro p hp hf hc
    have hm : Lib.index (x.drop p) [10] = -1 := by
      have hge := Lib.indexByte_ge (x.drop p) 10
      rw [← Lib.index_one] at hge
      rcases Int.lt_or_le (Lib.index (x.drop p) [10]) 0 with h | h
      · omega
      · have := Lib.count_hit (s := x.drop p) (sub := [10]) (by simp) (show Lib.index (x.drop p) [10] = ((Lib.index (x.drop p) [10]).toNat : Nat) by omega)
        omega
    rw [Lib.index_one] at hm
    have hn := Lib.indexByte_none hm
    have hr := ln_run x p x.length hp (fun t h1 h2 => ⟨h2, fun he => hn (t - p) (by
      rw [List.getElem?_drop, show p + (t - p) = t by omega, List.getElem?_eq_getElem h2]
      rw [List.getD_eq_getElem?_getD, List.getElem?_eq_getElem h2] at he
      exact congrArg some he)⟩)
    unfold dlnS
    rw [lnTo, if_pos (.inl rfl), hr, hf]
    show _ ++ [x.drop p] = _ ++ [pcS x p x.length]
    unfold pcS
    rw [List.take_length]
  | succ k ih =>
    intro p hp hf hc
    have hge := Lib.indexByte_ge (x.drop p) 10
    rw [← Lib.index_one] at hge
    have hm : ¬ Lib.index (x.drop p) [10] = -1 := fun hm => by
      have := Lib.count_miss (s := x.drop p) (sub := [10]) hm
      omega
    obtain ⟨o, ho⟩ : ∃ o : Nat, Lib.index (x.drop p) [10] = (o : Int) := ⟨(Lib.index (x.drop p) [10]).toNat, by omega⟩
    have hcn := Lib.count_hit (s := x.drop p) (sub := [10]) (by simp) ho
    have ho2 := ho
    rw [Lib.index_one] at ho2
    obtain ⟨h1, h2⟩ := Lib.indexByte_some ho2
    rw [List.getElem?_drop] at h1
    have hlt : p + o < x.length := by
      rcases Nat.lt_or_ge (p + o) x.length with h | h
      · exact h
      · rw [List.getElem?_eq_none h] at h1; cases h1
    have hr := ln_run x p (p + o) (by omega) (fun t h3 h4 => ⟨by omega, fun he => h2 (t - p) (by omega) (by
      have h5 : t < x.length := by omega
      rw [List.getElem?_drop, show p + (t - p) = t by omega, List.getElem?_eq_getElem h5]
      rw [List.getD_eq_getElem?_getD, List.getElem?_eq_getElem h5] at he
      exact congrArg some he)⟩)
    have hx : x.getD (p + o) 0 = 10 := by rw [List.getD_eq_getElem?_getD, h1]; rfl
    have hs : lnTo x (p + o + 1) = ((lnTo x p).1 ++ [pcS x p (p + o)], p + o + 1) := by
      rw [lnTo, if_pos (.inr hx), hr, hf]
    have hd : (x.drop p).drop (o + 1) = x.drop (p + o + 1) := by rw [List.drop_drop]; rfl
    have hi := ih (p + o + 1) (by omega) (by rw [hs]) (by rw [← hd]; simp only [List.length_singleton] at hcn; omega)
    rw [← hi, hs]
    rw [Lib.splitK, if_neg (fun e => hm (beq_iff_eq.1 e)), ho]
    show _ ++ ((x.drop p).take (o + 0) :: Lib.splitK [10] 0 k ((x.drop p).drop (o + 1))) = _
    rw [hd, List.append_assoc]
    congr 1
    show _ = pcS x p (p + o) :: _
    congr 1
    unfold pcS
    rw [List.drop_take]
    congr 1
    omega
/-- The document's lines are Split's. -/
theorem dln_eq (x : Tx) : dlnS x = lnsS x := by
  have h := ln_split x _ 0 (Nat.zero_le _) rfl rfl
  unfold lnsS
  have h2 := Lib.splitB_data nlB 0 (Lib.countB ⟨x.toArray⟩ nlB) ⟨x.toArray⟩
  rw [← h]
  exact h2.symm
theorem wd_run (x : Tx) (p : Nat) : ∀ j, 1 ≤ j → (∀ t, p ≤ t → t < p + j → t < x.length ∧ x.getD t 0 ≠ 32 ∧ x.getD t 0 ≠ 9) → wdTo x (p + j) = ((wdTo x p).1, some ((wdTo x p).2.getD p)) := by
  intro j
  induction j with
  | zero => intro h; omega
  | succ j ih =>
    intro _ h
    have h1 := h (p + j) (by omega) (by omega)
    have hn : ¬ (p + j = x.length ∨ x.getD (p + j) 0 = 32 ∨ x.getD (p + j) 0 = 9) := fun hc => by
      rcases hc with hc | hc | hc
      · omega
      · exact h1.2.1 hc
      · exact h1.2.2 hc
    show wdTo x (p + j + 1) = _
    rw [wdTo, if_neg hn]
    by_cases hj : j = 0
    · subst hj
      show (match (wdTo x p).2 with | some a => ((wdTo x p).1, some a) | none => ((wdTo x p).1, some p)) = _
      cases (wdTo x p).2 <;> rfl
    · rw [ih (by omega) fun t h1 h2 => h t h1 (by omega)]
theorem sp_wd (x : Tx) : ∀ (f pos : Nat) (st : Option Nat) (acc : List (Nat × Nat)), pos ≤ x.length → x.length - pos ≤ f → wdTo x pos = (acc.map (fun y => pcS x y.1 y.2), st) → wdTo x x.length = ((Lib.spansFromP isBl (bA x) f pos st acc).1.map (fun y => pcS x y.1 y.2), (Lib.spansFromP isBl (bA x) f pos st acc).2) := by
  intro f
  induction f with
  | zero =>
    intro pos st acc hp hf h
    obtain rfl : pos = x.length := by omega
    exact h
  | succ f ih =>
    intro pos st acc hp hf h
    have hsz := ba_size x
    by_cases hlt : pos < x.length
    · have hb : pos < (bA x).size := by omega
      have hg := ba_get x pos hb
      have hN : Utf8.decode (bA x) pos = Lib.decodeN (x.length - pos) (x.getD pos 0).toNat (x.getD (pos + 1) 0).toNat (x.getD (pos + 2) 0).toNat (x.getD (pos + 3) 0).toNat := Lib.decode_N (bA x) pos
      unfold Lib.spansFromP
      rw [if_pos hb]
      rcases Nat.lt_or_ge (x.getD pos 0).toNat 128 with ha | ha
      · rw [hN, Lib.decodeN_ascii _ _ _ _ _ ha]
        by_cases hbl : x.getD pos 0 = 32 ∨ x.getD pos 0 = 9
        · have hi : isBl (x.getD pos 0).toNat = true := by
            rcases hbl with e | e <;> rw [e] <;> rfl
          simp only [hi, if_true]
          cases st with
          | some a => exact ih _ _ _ (by omega) (by omega) (by rw [wdTo, if_pos (.inr hbl), h, List.map_append]; rfl)
          | none => exact ih _ _ _ (by omega) (by omega) (by rw [wdTo, if_pos (.inr hbl), h])
        · have hi : isBl (x.getD pos 0).toNat = false := by
            unfold isBl
            rw [Bool.or_eq_false_iff]
            refine ⟨beq_eq_false_iff_ne.2 fun e => hbl (.inl ?_), beq_eq_false_iff_ne.2 fun e => hbl (.inr ?_)⟩
            · exact UInt8.toNat_inj.1 e
            · exact UInt8.toNat_inj.1 e
          simp only [hi]
          have hw := wd_run x pos 1 (Nat.le_refl _) (fun t h1 h2 => by
            obtain rfl : t = pos := by omega
            exact ⟨hlt, fun e => hbl (.inl e), fun e => hbl (.inr e)⟩)
          rw [h] at hw
          cases st with
          | some a => exact ih _ _ _ (by omega) (by omega) hw
          | none => exact ih _ _ _ (by omega) (by omega) hw
      · have hh := decode_high (bA x) pos hb (by rw [hg]; exact ha)
        have hc := Lib.decodeN_conts (x.length - pos) (x.getD pos 0).toNat (x.getD (pos + 1) 0).toNat (x.getD (pos + 2) 0).toNat (x.getD (pos + 3) 0).toNat
        rw [← hN] at hc
        generalize Utf8.decode (bA x) pos = d at *
        obtain ⟨r, wd⟩ := d
        obtain ⟨hr, hwd⟩ := hh
        obtain ⟨c2, c3, c4, c5⟩ := hc
        simp only at hr hwd c2 c3 c4 c5
        have hi : isBl r = false := by
          unfold isBl
          rw [Bool.or_eq_false_iff]
          exact ⟨beq_eq_false_iff_ne.2 (by omega), beq_eq_false_iff_ne.2 (by omega)⟩
        simp only [hi]
        have hhi : ∀ t, 128 ≤ (x.getD t 0).toNat → x.getD t 0 ≠ 32 ∧ x.getD t 0 ≠ 9 := fun t h => ⟨fun e => by rw [e] at h; exact absurd h (by decide), fun e => by rw [e] at h; exact absurd h (by decide)⟩
        have hw := wd_run x pos wd hwd (fun t h1 h2 => by
          by_cases h3 : t = pos
          · subst h3; exact ⟨hlt, hhi _ ha⟩
          · by_cases h4 : t = pos + 1
            · subst h4; have := c2 (by omega); exact ⟨by omega, hhi _ (by omega)⟩
            · by_cases h5 : t = pos + 2
              · subst h5; have := c3 (by omega); exact ⟨by omega, hhi _ (by omega)⟩
              · obtain rfl : t = pos + 3 := by omega
                have := c4 (by omega); exact ⟨by omega, hhi _ (by omega)⟩)
        rw [h] at hw
        have hle : pos + wd ≤ x.length := by
          by_cases h4 : 4 ≤ wd
          · have := c4 h4; omega
          · by_cases h3 : 3 ≤ wd
            · have := c3 h3; omega
            · by_cases h2 : 2 ≤ wd
              · have := c2 h2; omega
              · omega
        cases st with
        | some a => exact ih _ _ _ hle (by omega) hw
        | none => exact ih _ _ _ hle (by omega) hw
    · obtain rfl : pos = x.length := by omega
      rw [Lib.spansFromP_end isBl (bA x) _ _ _ _ (by omega)]
      exact h
/-- The document's words are FieldsFunc's. -/
theorem dwd_eq (x : Tx) : dwdS x = fldS x := by
  have h := sp_wd x x.length 0 none [] (Nat.zero_le _) (by omega) rfl
  have hsz := ba_size x
  have hp : ∀ a b, ((bA x).extract a b).data.toList = pcS x a b := fun a b => by rw [ba_cut]; rfl
  show dwdS x = (((Lib.closeSpans (bA x) (Lib.spansFromP isBl (bA x) (bA x).size 0 none [])).map fun y => (bA x).extract y.1 y.2).map fun b => b.data.toList)
  unfold dwdS
  rw [wdTo, if_pos (.inl rfl), h, hsz, List.map_map]
  unfold Lib.closeSpans
  generalize Lib.spansFromP isBl (bA x) x.length 0 none [] = r
  obtain ⟨r1, r2⟩ := r
  have hm : ∀ l : List (Nat × Nat), l.map ((fun b : ByteArray => b.data.toList) ∘ fun y => (bA x).extract y.1 y.2) = l.map (fun y => pcS x y.1 y.2) := fun l => List.map_congr_left fun y _ => hp y.1 y.2
  cases r2 with
  | some a => simp only; rw [hm, List.map_append, hsz]; rfl
  | none => simp only; rw [hm]
theorem at_spec (L : List Tx) (x : Tx) : ∀ k, k ≤ L.length → (atTo L x k = -1 ∧ x ∉ L.take k) ∨ (∃ j, j < k ∧ atTo L x k = (j : Int) ∧ L.getD j [] = x ∧ ∀ i, i < j → L.getD i [] ≠ x)
  | 0, _ => .inl ⟨rfl, by simp⟩
  | k + 1, hk => by
    rw [atTo]
    rcases at_spec L x k (by omega) with ⟨h1, h2⟩ | ⟨j, h1, h2, h3, h4⟩
    · by_cases he : L.getD k [] = x
      · rw [if_pos ⟨by omega, he⟩]
        refine .inr ⟨k, by omega, rfl, he, fun i hi e => h2 ?_⟩
        rw [List.mem_take_iff_getElem]
        exact ⟨i, by omega, by rw [← e, List.getD_eq_getElem?_getD, List.getElem?_eq_getElem (by omega)]; rfl⟩
      · rw [if_neg (fun h => he h.2), getD_take (by omega)]
        refine .inl ⟨h1, fun h => ?_⟩
        rcases List.mem_append.1 h with h | h
        · exact h2 h
        · exact he (List.mem_singleton.1 h).symm
    · rw [if_neg (fun h => by omega)]
      exact .inr ⟨j, by omega, h2, h3, h4⟩
theorem at_iff (L : List Tx) (x : Tx) : 0 ≤ atS L x ↔ x ∈ L := by
  unfold atS
  rcases at_spec L x L.length (Nat.le_refl _) with ⟨h1, h2⟩ | ⟨j, h1, h2, h3, h4⟩
  · rw [List.take_length] at h2
    exact ⟨fun h => by omega, fun h => absurd h h2⟩
  · refine ⟨fun _ => ?_, fun _ => by omega⟩
    rw [← h3, List.getD_eq_getElem?_getD, List.getElem?_eq_getElem h1]
    exact List.getElem_mem h1
theorem at_neg (L : List Tx) (x : Tx) : atS L x < 0 ↔ x ∉ L := by
  have := at_iff L x
  constructor
  · intro h hm; have := this.2 hm; omega
  · intro h; rcases Int.lt_or_le (atS L x) 0 with h1 | h1
    · exact h1
    · exact absurd (this.1 h1) h
theorem at_mem {L : List Tx} {x : Tx} (h : x ∈ L) : ∃ j, j < L.length ∧ atS L x = (j : Int) ∧ L.getD j [] = x ∧ ∀ i, i < j → L.getD i [] ≠ x := by
  rcases at_spec L x L.length (Nat.le_refl _) with ⟨h1, h2⟩ | h1
  · rw [List.take_length] at h2; exact absurd h h2
  · exact h1
/-- A name put behind others, if it is none of them. -/
def insL (out : List Tx) (x : Tx) : List Tx := if out.contains x then out else out ++ [x]
theorem ins_mem (out : List Tx) (x y : Tx) : y ∈ insL out x ↔ y ∈ out ∨ y = x := by
  unfold insL
  split
  · rename_i h
    have := List.contains_iff_mem.1 h
    exact ⟨.inl, fun h => h.elim id (fun e => e ▸ this)⟩
  · rw [List.mem_append, List.mem_singleton]
theorem ins_old {out : List Tx} {x : Tx} (h : x ∈ out) : insL out x = out := if_pos (List.contains_iff_mem.2 h)
theorem fold_mem (N : List Tx) : ∀ (out : List Tx) (y : Tx), y ∈ N.foldl insL out ↔ y ∈ out ∨ y ∈ N := by
  induction N with
  | nil => intro out y; simp
  | cons a N ih => intro out y; rw [List.foldl_cons, ih, ins_mem, List.mem_cons, or_assoc]
theorem fr_fold (N : List Tx) : ∀ k, k ≤ N.length → frTo N k = (N.take k).foldl insL []
  | 0, _ => by simp [frTo]
  | k + 1, hk => by rw [frTo, getD_take (by omega), List.foldl_append, ← fr_fold N k (by omega)]; rfl
theorem fr_all (N : List Tx) : frTo N N.length = N.foldl insL [] := by rw [fr_fold N _ (Nat.le_refl _), List.take_length]
theorem ln_parts {ws : List Tx} (h : lnS ws = true) : 2 ≤ ws.length ∧ nmS (ws.getD 0 []) = true ∧ ws.getD 1 [] = tArr ∧ ∀ x ∈ ws.drop 2, x = tOr ∨ nmS x = true := by
  unfold lnS at h
  simp only [Bool.and_eq_true, decide_eq_true_eq, beq_iff_eq, List.all_eq_true, Bool.or_eq_true] at h
  exact ⟨h.1.1.1, h.1.1.2, h.1.2, h.2⟩
theorem nm_not {x : Tx} (h : nmS x = true) : x ≠ tEnd ∧ x ≠ tArr ∧ x ≠ tOr ∧ x ≠ [] := by
  unfold nmS at h
  simp only [Bool.and_eq_true, decide_eq_true_eq, Bool.not_eq_true', beq_eq_false_iff_ne] at h
  exact ⟨h.1.1.2, h.1.2, h.2, fun e => by rw [e] at h; simp at h⟩
theorem al_left (ws : List Tx) : ∀ k, (∀ r ∈ (alTo ws k).1, r.getD 0 [] = ws.getD 0 []) ∧ (alTo ws k).2.getD 0 [] = ws.getD 0 []
  | 0 => ⟨fun r h => (by cases h), rfl⟩
  | k + 1 => by
    obtain ⟨h1, h2⟩ := al_left ws k
    rw [alTo]
    split
    · refine ⟨fun r h => ?_, rfl⟩
      rcases List.mem_append.1 h with h | h
      · exact h1 r h
      · rw [List.mem_singleton.1 h]; exact h2
    · refine ⟨h1, ?_⟩
      have := (al_cur ws k).1
      show ((alTo ws k).2 ++ _).getD 0 [] = _
      rw [List.getD_eq_getElem?_getD, List.getElem?_append_left (by omega), ← List.getD_eq_getElem?_getD]
      exact h2
theorem alS_left (ws : List Tx) : ∀ r ∈ alS ws, r.getD 0 [] = ws.getD 0 [] := by
  intro r h
  rcases List.mem_append.1 h with h | h
  · exact (al_left ws _).1 r h
  · rw [List.mem_singleton.1 h]; exact (al_left ws _).2
theorem nu_none (A : List Tx) (t : Nat) (x : Tx) : ∀ m, (∀ j, j < m → j ≠ t → A.getD j [] ≠ x) → nuTo A t m x = none
  | 0, _ => rfl
  | m + 1, h => by
    rw [nuTo]
    split
    · exact nu_none A t x m fun j hj => h j (by omega)
    · rename_i hm
      show (if x = A.getD m [] then some (m : Int) else nuTo A t m x) = none
      rw [if_neg (fun e => h m (by omega) hm e.symm)]
      exact nu_none A t x m fun j hj => h j (by omega)
theorem nu_at (A : List Tx) (t : Nat) (x : Tx) {j : Nat} (ht : j ≠ t) (he : A.getD j [] = x) : ∀ m, j < m → (∀ i, j < i → i < m → i ≠ t → A.getD i [] ≠ x) → nuTo A t m x = some (j : Int)
  | 0, h, _ => by omega
  | m + 1, h, hn => by
    rw [nuTo]
    by_cases hm : m = t
    · rw [if_pos hm]
      exact nu_at A t x ht he m (by omega) fun i h1 h2 => hn i h1 (by omega)
    · rw [if_neg hm]
      by_cases hj : j = m
      · subst hj; exact if_pos he.symm
      · show (if x = A.getD m [] then some (m : Int) else nuTo A t m x) = some (j : Int)
        rw [if_neg (fun e => hn m (by omega) (by omega) hm e.symm)]
        exact nu_at A t x ht he m (by omega) fun i h1 h2 => hn i h1 (by omega)
theorem gd_all (A : List Tx) (t : Nat) : ∀ m, (∀ j, j < m → j ≠ t → nmS (A.getD j []) = true ∧ ∀ i, i < j → i ≠ t → A.getD i [] ≠ A.getD j []) → gdTo A t m = true
  | 0, _ => rfl
  | m + 1, h => by
    rw [gdTo, gd_all A t m fun j hj => h j (by omega)]
    by_cases hm : m = t
    · simp [hm]
    · obtain ⟨h1, h2⟩ := h m (by omega) hm
      rw [h1, nu_none A t _ m h2]
      simp
/-- Names that are all unlike, and none the end. -/
structure Nam (T O : List Tx) : Prop where
  all : ∀ x, x ∈ T ∨ x ∈ O → nmS x = true
  dupT : T.Nodup
  dupO : O.Nodup
  off : ∀ x, x ∈ T → x ∉ O
theorem alN_T {T O : List Tx} {j : Nat} (h : j < T.length) : (allN T O).getD j [] = T.getD j [] := by
  unfold allN
  simp only [List.flatten_cons, List.flatten_nil, List.append_nil]
  rw [List.getD_eq_getElem?_getD, List.getD_eq_getElem?_getD, List.getElem?_append_left h]
theorem alN_O {T O : List Tx} (j : Nat) : (allN T O).getD (T.length + 1 + j) [] = O.getD j [] := by
  unfold allN
  simp only [List.flatten_cons, List.flatten_nil, List.append_nil]
  rw [List.getD_eq_getElem?_getD, List.getD_eq_getElem?_getD, List.getElem?_append_right (by omega), List.getElem?_append_right (by simp; omega)]
  congr 2
  simp; omega
theorem getD_inj {L : List Tx} (hd : L.Nodup) {i j : Nat} (hi : i < L.length) (hj : j < L.length) (h : L.getD i [] = L.getD j []) : i = j := by
  rw [List.getD_eq_getElem?_getD, List.getD_eq_getElem?_getD, List.getElem?_eq_getElem hi, List.getElem?_eq_getElem hj] at h
  exact (List.getElem_inj hd).1 h
theorem alN_split {T O : List Tx} {i : Nat} (hi : i < (allN T O).length) (ht : i ≠ T.length) : (i < T.length ∧ (allN T O).getD i [] = T.getD i []) ∨ ∃ k, i = T.length + 1 + k ∧ k < O.length ∧ (allN T O).getD i [] = O.getD k [] := by
  rw [allN_len] at hi
  rcases Nat.lt_or_ge i T.length with h | h
  · exact .inl ⟨h, alN_T h⟩
  · refine .inr ⟨i - (T.length + 1), by omega, by omega, ?_⟩
    have := alN_O (T := T) (O := O) (i - (T.length + 1))
    rwa [show T.length + 1 + (i - (T.length + 1)) = i by omega] at this
theorem Nam.one {T O : List Tx} (h : Nam T O) {i j : Nat} (hi : i < (allN T O).length) (hj : j < (allN T O).length) (ti : i ≠ T.length) (tj : j ≠ T.length) (e : (allN T O).getD i [] = (allN T O).getD j []) : i = j := by
  rcases alN_split hi ti with ⟨h1, h2⟩ | ⟨k, h1, h2, h3⟩
  · rcases alN_split hj tj with ⟨g1, g2⟩ | ⟨l, g1, g2, g3⟩
    · rw [h2, g2] at e; exact getD_inj h.dupT h1 g1 e
    · rw [h2, g3] at e; exact absurd (e ▸ getD_mem g2) (h.off _ (getD_mem h1))
  · rcases alN_split hj tj with ⟨g1, g2⟩ | ⟨l, g1, g2, g3⟩
    · rw [h3, g2] at e; exact absurd (e ▸ getD_mem h2) (h.off _ (getD_mem g1))
    · rw [h3, g3] at e; have := getD_inj h.dupO h2 g2 e; omega
theorem Nam.good {T O : List Tx} (h : Nam T O) : gdF T O = true := by
  apply gd_all
  intro j hj ht
  constructor
  · rcases alN_split hj ht with ⟨h1, h2⟩ | ⟨k, h1, h2, h3⟩
    · rw [h2]; exact h.all _ (.inl (getD_mem h1))
    · rw [h3]; exact h.all _ (.inr (getD_mem h2))
  · intro i hi ti e
    have := h.one (by omega) hj ti ht e
    omega
theorem Nam.inT {T O : List Tx} (h : Nam T O) {x : Tx} (hx : x ∈ T) : nuF T O x = some (atS T x) := by
  obtain ⟨j, h1, h2, h3, h4⟩ := at_mem hx
  rw [h2]
  have hl := allN_len T O
  refine nu_at _ _ x (by omega) (by rw [alN_T h1]; exact h3) _ (by omega) fun i g1 g2 g3 e => ?_
  have := h.one g2 (show j < _ by omega) g3 (by omega) (by rw [e, alN_T h1]; exact h3.symm)
  omega
theorem Nam.inO {T O : List Tx} (h : Nam T O) {x : Tx} (hx : x ∈ O) : nuF T O x = some ((T.length + 1 : Nat) + atS O x) := by
  obtain ⟨j, h1, h2, h3, h4⟩ := at_mem hx
  rw [h2]
  have hl := allN_len T O
  have := nu_at (allN T O) T.length x (j := T.length + 1 + j) (by omega) (by rw [alN_O]; exact h3) (allN T O).length (by omega) fun i g1 g2 g3 e => by
    have := h.one g2 (show T.length + 1 + j < _ by omega) g3 (by omega) (by rw [e, alN_O]; exact h3.symm)
    omega
  rw [show ((T.length + 1 + j : Nat) : Int) = ((T.length + 1 : Nat) : Int) + (j : Int) by omega] at this
  exact this
/-- The number of a name, as the document finds it. -/
def dfS (T O : List Tx) (x : Tx) : Int := if x = tEnd then (T.length : Int) else if 0 ≤ atS T x then atS T x else if 0 ≤ atS O x then (T.length : Int) + 1 + atS O x else -1
theorem Nam.find {T O : List Tx} (h : Nam T O) {x : Tx} (hx : x ∈ T ∨ x ∈ O) : vaF (nuF T O) x = dfS T O x ∧ 0 ≤ dfS T O x ∧ (nuF T O x).isSome = true ∧ (x ∈ O → (T.length : Int) < dfS T O x) := by
  have hne := (nm_not (h.all x hx)).1
  unfold dfS vaF
  rw [if_neg hne]
  by_cases hT : x ∈ T
  · rw [h.inT hT, if_pos ((at_iff _ _).2 hT)]
    exact ⟨rfl, (at_iff _ _).2 hT, rfl, fun hO => absurd hO (h.off x hT)⟩
  · have hO := hx.resolve_left hT
    rw [h.inO hO, if_neg (fun hc => hT ((at_iff _ _).1 hc)), if_pos ((at_iff _ _).2 hO)]
    have := (at_iff _ _).2 hO
    refine ⟨?_, by omega, rfl, fun _ => by omega⟩
    show ((T.length + 1 : Nat) : Int) + atS O x = _
    omega
/-- All words of a text's rules are names. -/
theorem al_names (ws : List Tx) (h : lnS ws = true) : ∀ k, 2 + k ≤ ws.length → (∀ r ∈ (alTo ws k).1, ∀ x ∈ r, nmS x = true) ∧ ∀ x ∈ (alTo ws k).2, nmS x = true := by
  obtain ⟨h1, h2, h3, h4⟩ := ln_parts h
  intro k
  induction k with
  | zero => exact fun _ => ⟨fun r hr => (by cases hr), fun x hx => (by rw [List.mem_singleton.1 hx]; exact h2)⟩
  | succ k ih =>
    intro hk
    obtain ⟨g1, g2⟩ := ih (by omega)
    rw [alTo]
    split
    · refine ⟨fun r hr => ?_, fun x hx => (by rw [List.mem_singleton.1 hx]; exact h2)⟩
      rcases List.mem_append.1 hr with hr | hr
      · exact g1 r hr
      · rw [List.mem_singleton.1 hr]; exact g2
    · rename_i hne
      refine ⟨g1, fun x hx => ?_⟩
      rcases List.mem_append.1 hx with hx | hx
      · exact g2 x hx
      · rw [List.mem_singleton.1 hx]
        have hm : ws.getD (2 + k) [] ∈ ws.drop 2 := by
          rw [List.getD_eq_getElem?_getD, List.getElem?_eq_getElem (show 2 + k < ws.length by omega)]
          exact List.mem_drop_iff_getElem.2 ⟨k, by omega, by simp⟩
        exact (h4 _ hm).resolve_left (fun e => hne (beq_iff_eq.2 e))
theorem rd_names (ls : List Tx) : ∀ k, (∀ j, j < k → goodL ls j = true) → ∀ r ∈ rdTo ls k, 1 ≤ r.length ∧ ∀ x ∈ r, nmS x = true
  | 0, _ => fun r hr => by cases hr
  | k + 1, h => by
    have ih := rd_names ls k (fun j hj => h j (by omega))
    rw [rdTo]
    by_cases hs : skipS (fldS (ls.getD k [])) = true
    · rw [if_pos hs]; exact ih
    · rw [if_neg hs]
      have hg := h k (by omega)
      unfold goodL at hg
      rw [Bool.or_eq_true] at hg
      have hl : lnS (fldS (ls.getD k [])) = true := hg.resolve_left hs
      have h1 := (ln_parts hl).1
      have hn := al_names _ hl ((fldS (ls.getD k [])).length - 2) (by omega)
      intro r hr
      rcases List.mem_append.1 hr with hr | hr
      · exact ih r hr
      · refine ⟨alS_pos r hr, ?_⟩
        rcases List.mem_append.1 hr with hr | hr
        · exact hn.1 r hr
        · rw [List.mem_singleton.1 hr]; exact hn.2
theorem te_mem {L : List (List Tx)} {x : Tx} : x ∈ teS L ↔ x ∈ L.flatten ∧ x ∉ leftsS L := by
  unfold teS
  rw [List.mem_filter, fr_iff _ _ _ (Nat.le_refl _), List.take_length]
  simp
theorem ot_mem {L : List (List Tx)} {x : Tx} : x ∈ otS L ↔ x ∈ L.flatten ∧ x ∈ leftsS L := by
  unfold otS
  rw [List.mem_filter, fr_iff _ _ _ (Nat.le_refl _), List.take_length]
  simp
theorem nam_of {L : List (List Tx)} (h : ∀ r ∈ L, 1 ≤ r.length ∧ ∀ x ∈ r, nmS x = true) : Nam (teS L) (otS L) where
  all := fun x hx => by
    have hf : x ∈ L.flatten := hx.elim (fun h => (te_mem.1 h).1) (fun h => (ot_mem.1 h).1)
    obtain ⟨r, hr, hx⟩ := List.mem_flatten.1 hf
    exact (h r hr).2 x hx
  dupT := (fr_nodup _ _).filter _
  dupO := (fr_nodup _ _).filter _
  off := fun x h1 h2 => (te_mem.1 h1).2 (ot_mem.1 h2).2
theorem in_names {L : List (List Tx)} {r : List Tx} (hr : r ∈ L) {x : Tx} (hx : x ∈ r) : x ∈ teS L ∨ x ∈ otS L := by
  have hf : x ∈ L.flatten := List.mem_flatten.2 ⟨r, hr, hx⟩
  by_cases h : x ∈ leftsS L
  · exact .inr (ot_mem.2 ⟨hf, h⟩)
  · exact .inl (te_mem.2 ⟨hf, h⟩)
theorem left_in {L : List (List Tx)} {r : List Tx} (hr : r ∈ L) (h1 : 1 ≤ r.length) : r.getD 0 [] ∈ otS L := by
  refine ot_mem.2 ⟨List.mem_flatten.2 ⟨r, hr, getD_mem h1⟩, List.mem_map.2 ⟨r, hr, rfl⟩⟩
/-- What New answers of a text's rules. -/
theorem newE_of {L : List (List Tx)} (h : ∀ r ∈ L, 1 ≤ r.length ∧ ∀ x ∈ r, nmS x = true) (h0 : 1 ≤ L.length) :
    newE (teS L) (otS L) (stS L) L = if L.length ≤ 128 ∧ (teS L).length + 1 + (otS L).length ≤ 128 then 0 else 3 := by
  have hn := nam_of h
  have hL : L.getD 0 [] ∈ L := by rw [List.getD_eq_getElem?_getD, List.getElem?_eq_getElem h0]; exact List.getElem_mem h0
  have hs := hn.find (.inr (left_in hL (h _ hL).1))
  have hs4 := hs.2.2.2 (left_in hL (h _ hL).1)
  unfold newE
  rw [hn.good, show stS L = (L.getD 0 []).getD 0 [] from rfl, hs.1, decide_eq_true hs4, Bool.true_and, if_pos rfl]
  have hro : L.all (roF (nuF (teS L) (otS L)) (teS L).length) = true := by
    rw [List.all_eq_true]
    intro r hr
    obtain ⟨h1, h2⟩ := h r hr
    have hl := hn.find (.inr (left_in hr h1))
    unfold roF
    rw [decide_eq_true h1, hl.1, decide_eq_true (hl.2.2.2 (left_in hr h1)), Bool.true_and, Bool.true_and, List.all_eq_true]
    intro x hx
    exact (hn.find (in_names hr (List.mem_of_mem_drop hx))).2.2.1
  rw [hro, decide_eq_true h0, Bool.true_and, if_pos rfl, allN_len]
  by_cases hc : L.length ≤ 128 ∧ (teS L).length + 1 + (otS L).length ≤ 128
  · rw [if_pos hc, decide_eq_true hc.1, decide_eq_true hc.2]; rfl
  · rw [if_neg hc, if_neg]
    intro hh
    simp only [Bool.and_eq_true, decide_eq_true_eq] at hh
    exact hc hh
end Go.Proofs.YtgmbkelmgolkpabDoor
/- Plain: a text that is made of lines of words is read as these. -/
namespace Go.Proofs.YtgmbkelmgolkpabDoor
set_option linter.unusedVariables false

theorem byte_at {l r : Tx} {c : UInt8} (h : c ∉ l) : Lib.index (l ++ c :: r) [c] = (l.length : Int) := by
  rw [Lib.index_one]
  have hat : (l ++ c :: r)[l.length]? = some c := by rw [List.getElem?_append_right (Nat.le_refl _), Nat.sub_self]; rfl
  have hge := Lib.indexByte_ge (l ++ c :: r) c
  rcases Int.lt_or_le (Lib.indexByte (l ++ c :: r) c) 0 with h0 | h0
  · exact absurd hat (Lib.indexByte_none (show Lib.indexByte (l ++ c :: r) c = -1 by omega) l.length)
  · obtain ⟨o, ho⟩ : ∃ o : Nat, Lib.indexByte (l ++ c :: r) c = (o : Int) := ⟨_, (Int.toNat_of_nonneg h0).symm⟩
    obtain ⟨h1, h2⟩ := Lib.indexByte_some ho
    rw [ho]
    congr 1
    rcases Nat.lt_trichotomy o l.length with h3 | h3 | h3
    · rw [List.getElem?_append_left h3] at h1
      exact absurd (List.mem_of_getElem? h1) h
    · exact h3
    · exact absurd hat (h2 l.length h3)
theorem byte_no {l : Tx} {c : UInt8} (h : c ∉ l) : Lib.index l [c] = -1 := by
  rw [Lib.index_one]
  have hge := Lib.indexByte_ge l c
  rcases Int.lt_or_le (Lib.indexByte l c) 0 with h0 | h0
  · omega
  · obtain ⟨o, ho⟩ : ∃ o : Nat, Lib.indexByte l c = (o : Int) := ⟨_, (Int.toNat_of_nonneg h0).symm⟩
    exact absurd (List.mem_of_getElem? (Lib.indexByte_some ho).1) h
/-- Lines, each with its end. -/
def catL (ls : List Tx) : Tx := (ls.map (· ++ [10])).flatten
theorem split_cat : ∀ (ls : List Tx), (∀ l ∈ ls, (10 : UInt8) ∉ l) → Lib.splitK [10] 0 (Lib.count (catL ls) [10]) (catL ls) = ls ++ [[]]
  | [], _ => by
    have : Lib.count (catL []) [10] = 0 := Lib.count_miss (byte_no (by simp [catL]))
    rw [this]; rfl
  | l :: ls, h => by
    have e : catL (l :: ls) = l ++ 10 :: catL ls := by unfold catL; simp
    have hi := byte_at (r := catL ls) (h l (List.mem_cons_self ..))
    rw [e, Lib.count_hit (by simp) hi]
    have hd : (l ++ 10 :: catL ls).drop (l.length + 1) = catL ls := by
      rw [List.drop_append]; simp
    have ih := split_cat ls fun l' h' => h l' (List.mem_cons_of_mem _ h')
    show Lib.splitK [10] 0 (1 + Lib.count ((l ++ 10 :: catL ls).drop (l.length + 1)) [10]) _ = _
    rw [hd, Nat.add_comm, Lib.splitK, if_neg (by rw [hi]; exact fun e => by have := beq_iff_eq.1 e; omega), hi]
    show (l ++ 10 :: catL ls).take (l.length + 0) :: Lib.splitK [10] 0 _ ((l ++ 10 :: catL ls).drop (l.length + 1)) = _
    rw [hd, ih, Nat.add_zero, List.take_left]
    rfl
theorem lns_cat (ls : List Tx) (h : ∀ l ∈ ls, (10 : UInt8) ∉ l) : lnsS (catL ls) = ls ++ [[]] := by
  have h2 := Lib.splitB_data nlB 0 (Lib.countB ⟨(catL ls).toArray⟩ nlB) ⟨(catL ls).toArray⟩
  unfold lnsS
  rw [← split_cat ls h]
  exact h2
/-- Words, a blank between. -/
def blS : List Tx → Tx
  | [] => []
  | w :: r => w ++ (r.map (fun x => (32 : UInt8) :: x)).flatten
/-- A word: something, and no blank in it. -/
def wdB (w : Tx) : Prop := 1 ≤ w.length ∧ ∀ b ∈ w, b ≠ 32 ∧ b ≠ 9
theorem wd_word (x A w : Tx) (B : Tx) (hx : x = A ++ w ++ B) (hw : wdB w) (h : (wdTo x A.length).2 = none) : wdTo x (A.length + w.length) = ((wdTo x A.length).1, some A.length) := by
  rw [wd_run x A.length w.length hw.1 fun t h1 h2 => ?_, h]
  · rfl
  · have hl : t - A.length < w.length := by omega
    have e : x[t]? = some w[t - A.length] := by
      rw [hx, List.append_assoc, List.getElem?_append_right h1, List.getElem?_append_left hl, List.getElem?_eq_getElem hl]
    have hm := hw.2 _ (List.getElem_mem hl)
    have ht : t < x.length := by rw [hx]; simp; omega
    have e2 : x.getD t 0 = w[t - A.length] := by rw [List.getD_eq_getElem?_getD, e]; rfl
    rw [e2]
    exact ⟨ht, hm⟩
theorem pc_word (x A w B : Tx) (hx : x = A ++ w ++ B) : pcS x A.length (A.length + w.length) = w := by
  unfold pcS
  rw [hx, ← List.length_append, List.take_left, List.drop_left]
theorem wd_all (x : Tx) : ∀ (ws : List Tx) (A : Tx), ws ≠ [] → (∀ w ∈ ws, wdB w) → x = A ++ blS ws → (wdTo x A.length).2 = none → dwdS x = (wdTo x A.length).1 ++ ws
  | [], A, h0, _, _, _ => absurd rfl h0
  | [w], A, _, hw, hx, hn => by
    have hx' : x = A ++ w ++ [] := by rw [hx]; simp [blS]
    have hl : x.length = A.length + w.length := by rw [hx']; simp
    have h1 := wd_word x A w [] hx' (hw w (List.mem_singleton.2 rfl)) hn
    unfold dwdS
    rw [wdTo, if_pos (.inl rfl), hl, h1]
    show (wdTo x A.length).1 ++ [pcS x A.length (A.length + w.length)] = _
    rw [pc_word x A w [] hx']
  | w :: w2 :: r, A, _, hw, hx, hn => by
    have e : blS (w :: w2 :: r) = w ++ 32 :: blS (w2 :: r) := by simp [blS]
    have hx' : x = A ++ w ++ 32 :: blS (w2 :: r) := by rw [hx, e, List.append_assoc]
    have hww := hw w (List.mem_cons_self ..)
    have h1 := wd_word x A w _ hx' hww hn
    have hb : x.getD (A.length + w.length) 0 = 32 := by
      rw [List.getD_eq_getElem?_getD, hx', List.getElem?_append_right (by simp), show A.length + w.length - (A ++ w).length = 0 by simp]; rfl
    have h2 : wdTo x (A.length + w.length + 1) = ((wdTo x A.length).1 ++ [w], none) := by
      rw [wdTo, if_pos (.inr (.inl hb)), h1]
      show ((wdTo x A.length).1 ++ [pcS x A.length (A.length + w.length)], none) = _
      rw [pc_word x A w _ hx']
    have hA : (A ++ w ++ [32]).length = A.length + w.length + 1 := by simp [Nat.add_assoc]
    have ih := wd_all x (w2 :: r) (A ++ w ++ [32]) (by simp) (fun y hy => hw y (List.mem_cons_of_mem _ hy)) (by rw [hx']; simp) (by rw [hA, h2])
    rw [ih, hA, h2]
    simp
theorem fld_words {ws : List Tx} (h0 : ws ≠ []) (h : ∀ w ∈ ws, wdB w) : fldS (blS ws) = ws := by
  rw [← dwd_eq]
  have := wd_all (blS ws) ws [] h0 h rfl rfl
  rw [this]; rfl
theorem fld_none : fldS [] = [] := by rw [← dwd_eq]; decide
/-- One word of a line's alternatives. -/
def alStep (a : Tx) (s : List (List Tx) × List Tx) (w : Tx) : List (List Tx) × List Tx := if w == tOr then (s.1 ++ [s.2], [a]) else (s.1, s.2 ++ [w])
theorem al_foldl (ws : List Tx) : ∀ k, 2 + k ≤ ws.length → alTo ws k = ((ws.drop 2).take k).foldl (alStep (ws.getD 0 [])) ([], [ws.getD 0 []])
  | 0, _ => by simp [alTo]
  | k + 1, hk => by
    have ih := al_foldl ws k (by omega)
    have hl : k < (ws.drop 2).length := by rw [List.length_drop]; omega
    have hg : (ws.drop 2)[k] = ws.getD (2 + k) [] := by rw [List.getElem_drop, List.getD_eq_getElem?_getD, List.getElem?_eq_getElem (show 2 + k < ws.length by omega)]; rfl
    rw [List.take_succ_eq_append_getElem hl, List.foldl_append, ← ih, hg, alTo]
    rfl
theorem al_all2 {ws : List Tx} (h : 2 ≤ ws.length) : alS ws = ((ws.drop 2).foldl (alStep (ws.getD 0 [])) ([], [ws.getD 0 []])).1 ++ [((ws.drop 2).foldl (alStep (ws.getD 0 [])) ([], [ws.getD 0 []])).2] := by
  unfold alS
  rw [al_foldl ws (ws.length - 2) (by omega), List.take_of_length_le (by rw [List.length_drop]; omega)]
theorem step_names (a : Tx) : ∀ (r : List Tx) (s : List (List Tx) × List Tx), (∀ x ∈ r, x ≠ tOr) → r.foldl (alStep a) s = (s.1, s.2 ++ r)
  | [], s, _ => by simp
  | x :: r, s, h => by
    rw [List.foldl_cons, step_names a r _ fun y hy => h y (List.mem_cons_of_mem _ hy)]
    unfold alStep
    rw [if_neg (fun e => h x (List.mem_cons_self ..) (beq_iff_eq.1 e))]
    simp
theorem step_bars (a : Tx) : ∀ (rs : List (List Tx)) (s : List (List Tx) × List Tx), (∀ r ∈ rs, ∀ x ∈ r, x ≠ tOr) → ((rs.map (fun r => tOr :: r)).flatten.foldl (alStep a) s).1 ++ [((rs.map (fun r => tOr :: r)).flatten.foldl (alStep a) s).2] = s.1 ++ [s.2] ++ rs.map (fun r => a :: r)
  | [], s, _ => by simp
  | r :: rs, s, h => by
    have hr := h r (List.mem_cons_self ..)
    have e1 : alStep a s tOr = (s.1 ++ [s.2], [a]) := by unfold alStep; rw [if_pos (beq_self_eq_true _)]
    have e2 : (tOr :: r).foldl (alStep a) s = (s.1 ++ [s.2], [a] ++ r) := by rw [List.foldl_cons, e1, step_names a r _ hr]
    have := step_bars a rs (s.1 ++ [s.2], [a] ++ r) fun r' h' => h r' (List.mem_cons_of_mem _ h')
    rw [List.map_cons, List.flatten_cons, List.foldl_append, e2, this]
    simp
/-- A left side's line, as words. -/
def wlS (a : Tx) : List (List Tx) → List Tx
  | [] => [a, tArr]
  | r :: rs => a :: tArr :: (r ++ (rs.map (fun r => tOr :: r)).flatten)
theorem al_line (a : Tx) (r : List Tx) (rs : List (List Tx)) (h : ∀ r' ∈ r :: rs, ∀ x ∈ r', x ≠ tOr) : alS (wlS a (r :: rs)) = (r :: rs).map (fun r => a :: r) := by
  rw [al_all2 (by simp [wlS])]
  have e1 : (wlS a (r :: rs)).drop 2 = r ++ (rs.map (fun r => tOr :: r)).flatten := rfl
  have e2 : (wlS a (r :: rs)).getD 0 [] = a := rfl
  rw [e1, e2, List.foldl_append, step_names a r _ (h r (List.mem_cons_self ..))]
  rw [step_bars a rs _ fun r' h' => h r' (List.mem_cons_of_mem _ h')]
  simp
end Go.Proofs.YtgmbkelmgolkpabDoor
/- Plain: rules gathered by their left sides; the text of them is read as them. -/
namespace Go.Proofs.YtgmbkelmgolkpabDoor
set_option linter.unusedVariables false

def lfS (r : List Tx) : Tx := r.getD 0 []
/-- The left sides, each once, as they come. -/
def dsS (L : List (List Tx)) : List Tx := (leftsS L).foldl insL []
/-- The rules of a left side. -/
def grS (L : List (List Tx)) (a : Tx) : List (List Tx) := L.filter (fun r => lfS r == a)
def altS (L : List (List Tx)) (a : Tx) : List (List Tx) := (grS L a).map (fun r => r.drop 1)
def lineS (L : List (List Tx)) (a : Tx) : Tx := blS (wlS a (altS L a))
def linesL (L : List (List Tx)) : List Tx := (dsS L).map (lineS L)
/-- The rules, one left side behind the other. -/
def gpL (L : List (List Tx)) : List (List Tx) := ((dsS L).map (grS L)).flatten
/-- Rules of names, with left sides that open no remark. -/
structure NmL (L : List (List Tx)) : Prop where
  nm : ∀ r ∈ L, 1 ≤ r.length ∧ ∀ x ∈ r, nmS x = true
  hs : ∀ r ∈ L, (lfS r).getD 0 0 ≠ 35
  one : 1 ≤ L.length
theorem ds_mem (L : List (List Tx)) (a : Tx) : a ∈ dsS L ↔ ∃ r ∈ L, lfS r = a := by
  unfold dsS
  rw [fold_mem]
  unfold leftsS
  simp only [List.not_mem_nil, false_or, List.mem_map]
  rfl
theorem ds_nodup (L : List (List Tx)) : (dsS L).Nodup := by
  unfold dsS
  rw [← fr_all]
  exact fr_nodup _ _
theorem gr_mem {L : List (List Tx)} {a : Tx} {r : List Tx} : r ∈ grS L a ↔ r ∈ L ∧ lfS r = a := by
  unfold grS
  rw [List.mem_filter, beq_iff_eq]
theorem gr_ne {L : List (List Tx)} {a : Tx} (h : a ∈ dsS L) : grS L a ≠ [] := by
  obtain ⟨r, hr, e⟩ := (ds_mem L a).1 h
  exact List.ne_nil_of_mem (gr_mem.2 ⟨hr, e⟩)
theorem gp_mem (L : List (List Tx)) (r : List Tx) : r ∈ gpL L ↔ r ∈ L := by
  unfold gpL
  rw [List.mem_flatten]
  constructor
  · rintro ⟨l, hl, hr⟩
    obtain ⟨a, ha, rfl⟩ := List.mem_map.1 hl
    exact (gr_mem.1 hr).1
  · intro h
    exact ⟨grS L (lfS r), List.mem_map.2 ⟨lfS r, (ds_mem L _).2 ⟨r, h, rfl⟩, rfl⟩, gr_mem.2 ⟨h, rfl⟩⟩
theorem filter_or {α : Type} (p q : α → Bool) (hd : ∀ x, p x = true → q x = false) : ∀ l : List α, (l.filter p).length + (l.filter q).length = (l.filter (fun x => p x || q x)).length
  | [] => rfl
  | x :: l => by
    have ih := filter_or p q hd l
    cases hp : p x with
    | true =>
      have hq := hd x hp
      simp [hp, hq]; omega
    | false =>
      cases hq : q x with
      | true => simp [hp, hq]; omega
      | false => simp [hp, hq]; omega
theorem gp_len_of (L : List (List Tx)) : ∀ D : List Tx, D.Nodup → ((D.map (grS L)).flatten).length = (L.filter (fun r => D.contains (lfS r))).length
  | [], _ => by
    have e : L.filter (fun r => ([] : List Tx).contains (lfS r)) = [] := List.filter_eq_nil_iff.2 fun r _ => by simp
    rw [e]; rfl
  | a :: D, h => by
    rw [List.nodup_cons] at h
    rw [List.map_cons, List.flatten_cons, List.length_append, gp_len_of L D h.2]
    unfold grS
    rw [filter_or (fun r => lfS r == a) (fun r => D.contains (lfS r)) (fun r hr => by
      rw [beq_iff_eq] at hr
      cases hc : D.contains (lfS r) with
      | false => rfl
      | true => rw [List.contains_iff_mem, hr] at hc; exact absurd hc h.1)]
    first | rfl | (congr 1; apply List.filter_congr; intro r _; rw [List.contains_cons])
theorem gp_len (L : List (List Tx)) : (gpL L).length = L.length := by
  unfold gpL
  rw [gp_len_of L _ (ds_nodup L), List.filter_eq_self.2]
  intro r hr
  rw [List.contains_iff_mem]
  exact (ds_mem L _).2 ⟨r, hr, rfl⟩
theorem fold_same (a : Tx) : ∀ (B : List Tx) (out : List Tx), (∀ x ∈ B, x = a) → a ∈ out → B.foldl insL out = out
  | [], out, _, _ => rfl
  | x :: B, out, h, ha => by
    have hx := h x (List.mem_cons_self ..)
    subst hx
    rw [List.foldl_cons, ins_old ha]
    exact fold_same x B out (fun y hy => h y (List.mem_cons_of_mem _ hy)) ha
theorem fold_block (a : Tx) (B : List Tx) (out : List Tx) (hB : B ≠ []) (h : ∀ x ∈ B, x = a) (ha : a ∉ out) : B.foldl insL out = out ++ [a] := by
  cases B with
  | nil => exact absurd rfl hB
  | cons x B =>
    have hx := h x (List.mem_cons_self ..)
    subst hx
    have e : insL out x = out ++ [x] := by unfold insL; rw [if_neg (fun hc => ha (List.contains_iff_mem.1 hc))]
    rw [List.foldl_cons, e]
    exact fold_same x B _ (fun y hy => h y (List.mem_cons_of_mem _ hy)) (by simp)
theorem fold_blocks (f : Tx → List Tx) : ∀ (D out : List Tx), D.Nodup → (∀ a ∈ D, f a ≠ [] ∧ ∀ x ∈ f a, x = a) → (∀ a ∈ D, a ∉ out) → ((D.map f).flatten).foldl insL out = out ++ D
  | [], out, _, _, _ => by simp
  | a :: D, out, hn, hf, ho => by
    rw [List.nodup_cons] at hn
    obtain ⟨h1, h2⟩ := hf a (List.mem_cons_self ..)
    rw [List.map_cons, List.flatten_cons, List.foldl_append, fold_block a (f a) out h1 h2 (ho a (List.mem_cons_self ..))]
    rw [fold_blocks f D (out ++ [a]) hn.2 (fun b hb => hf b (List.mem_cons_of_mem _ hb)) (fun b hb hc => by
      rcases List.mem_append.1 hc with hc | hc
      · exact ho b (List.mem_cons_of_mem _ hb) hc
      · rw [List.mem_singleton.1 hc] at hb; exact hn.1 hb)]
    simp
theorem ds_gp (L : List (List Tx)) : dsS (gpL L) = dsS L := by
  have e : leftsS (gpL L) = ((dsS L).map (fun a => (grS L a).map lfS)).flatten := by
    unfold leftsS gpL
    rw [List.map_flatten, List.map_map]
    rfl
  show (leftsS (gpL L)).foldl insL [] = _
  rw [e, fold_blocks _ _ _ (ds_nodup L) (fun a ha => ⟨?_, fun x hx => ?_⟩) (fun a _ => by simp), List.nil_append]
  · intro hn
    exact gr_ne ha (List.map_eq_nil_iff.1 hn)
  · obtain ⟨r, hr, rfl⟩ := List.mem_map.1 hx
    exact (gr_mem.1 hr).2
theorem gr_filter (L : List (List Tx)) (a b : Tx) : (grS L b).filter (fun r => lfS r == a) = if b = a then grS L a else [] := by
  by_cases h : b = a
  · rw [if_pos h, h]
    unfold grS
    rw [List.filter_filter]
    apply List.filter_congr
    intro r _
    cases lfS r == a <;> rfl
  · rw [if_neg h, List.filter_eq_nil_iff]
    intro r hr
    rw [(gr_mem.1 hr).2, beq_iff_eq]
    exact h
theorem gr_gp_of (L : List (List Tx)) (a : Tx) : ∀ D : List Tx, D.Nodup → ((D.map (grS L)).flatten).filter (fun r => lfS r == a) = if a ∈ D then grS L a else []
  | [], _ => by simp
  | b :: D, h => by
    rw [List.nodup_cons] at h
    rw [List.map_cons, List.flatten_cons, List.filter_append, gr_filter, gr_gp_of L a D h.2]
    by_cases e : b = a
    · subst e
      rw [if_pos rfl, if_neg h.1, if_pos (List.mem_cons_self ..), List.append_nil]
    · rw [if_neg e, List.nil_append]
      by_cases hm : a ∈ D
      · rw [if_pos hm, if_pos (List.mem_cons_of_mem _ hm)]
      · rw [if_neg hm, if_neg]
        intro hc
        rcases List.mem_cons.1 hc with hc | hc
        · exact e hc.symm
        · exact hm hc
theorem gr_gp {L : List (List Tx)} {a : Tx} (h : a ∈ dsS L) : grS (gpL L) a = grS L a := by
  have := gr_gp_of L a (dsS L) (ds_nodup L)
  rw [if_pos h] at this
  exact this
theorem lines_gp (L : List (List Tx)) : linesL (gpL L) = linesL L := by
  unfold linesL
  rw [ds_gp]
  apply List.map_congr_left
  intro a ha
  unfold lineS altS
  rw [gr_gp ha]
theorem fold_first : ∀ (N : List Tx) (a : Tx) (out : List Tx), (N.foldl insL (a :: out)).getD 0 [] = a
  | [], a, out => rfl
  | x :: N, a, out => by
    rw [List.foldl_cons]
    unfold insL
    split
    · exact fold_first N a out
    · exact fold_first N a (out ++ [x])
theorem ds_first {L : List (List Tx)} (h : 1 ≤ L.length) : (dsS L).getD 0 [] = stS L := by
  cases L with
  | nil => simp at h
  | cons r L =>
    show ((leftsS (r :: L)).foldl insL []).getD 0 [] = _
    unfold leftsS
    rw [List.map_cons, List.foldl_cons]
    show ((L.map _).foldl insL [r.getD 0 []]).getD 0 [] = _
    exact fold_first _ _ _
theorem st_gp {L : List (List Tx)} (h : 1 ≤ L.length) : stS (gpL L) = stS L := by
  rw [← ds_first h, ← ds_gp, ds_first (by rw [gp_len]; exact h)]
theorem NmL.gp {L : List (List Tx)} (h : NmL L) : NmL (gpL L) := ⟨fun r hr => h.nm r ((gp_mem L r).1 hr), fun r hr => h.hs r ((gp_mem L r).1 hr), by rw [gp_len]; exact h.one⟩
/-- The text of rules. -/
def txtS (L : List (List Tx)) : Tx := catL (linesL L)
theorem txt_gp (L : List (List Tx)) : txtS (gpL L) = txtS L := by unfold txtS; rw [lines_gp]
theorem nm_word {x : Tx} (h : nmS x = true) : wdB x ∧ (10 : UInt8) ∉ x := by
  unfold nmS at h
  simp only [Bool.and_eq_true, decide_eq_true_eq] at h
  obtain ⟨⟨⟨⟨⟨h1, h2⟩, h3⟩, _⟩, _⟩, _⟩ := h
  rw [List.all_eq_true] at h3
  have hb : ∀ b ∈ x, 32 < b.toNat := fun b hm => by
    have := h3 b hm
    unfold okC at this
    rw [Bool.and_eq_true, decide_eq_true_eq] at this
    exact this.1
  refine ⟨⟨h1, fun b hm => ⟨fun e => ?_, fun e => ?_⟩⟩, fun hm => ?_⟩
  · have := hb b hm; rw [e] at this; exact absurd this (by decide)
  · have := hb b hm; rw [e] at this; exact absurd this (by decide)
  · have := hb 10 hm; exact absurd this (by decide)
theorem arw_word : wdB tArr ∧ (10 : UInt8) ∉ tArr := ⟨⟨by decide, by decide⟩, by decide⟩
theorem bar_word : wdB tOr ∧ (10 : UInt8) ∉ tOr := ⟨⟨by decide, by decide⟩, by decide⟩
theorem bars_mem {rs : List (List Tx)} {w : Tx} (h : w ∈ (rs.map (fun r => tOr :: r)).flatten) : w = tOr ∨ ∃ r ∈ rs, w ∈ r := by
  obtain ⟨l, hl, hw⟩ := List.mem_flatten.1 h
  obtain ⟨r, hr, rfl⟩ := List.mem_map.1 hl
  rcases List.mem_cons.1 hw with hw | hw
  · exact .inl hw
  · exact .inr ⟨r, hr, hw⟩
theorem wl_mem {a : Tx} {rs : List (List Tx)} {w : Tx} (h : w ∈ wlS a rs) : w = a ∨ w = tArr ∨ w = tOr ∨ ∃ r ∈ rs, w ∈ r := by
  cases rs with
  | nil =>
    rcases List.mem_cons.1 h with h | h
    · exact .inl h
    · exact .inr (.inl (List.mem_singleton.1 h))
  | cons r rs =>
    rcases List.mem_cons.1 h with h | h
    · exact .inl h
    · rcases List.mem_cons.1 h with h | h
      · exact .inr (.inl h)
      · rcases List.mem_append.1 h with h | h
        · exact .inr (.inr (.inr ⟨r, List.mem_cons_self .., h⟩))
        · rcases bars_mem h with h | ⟨r', hr, hw⟩
          · exact .inr (.inr (.inl h))
          · exact .inr (.inr (.inr ⟨r', List.mem_cons_of_mem _ hr, hw⟩))
theorem alt_mem {L : List (List Tx)} (hL : NmL L) {a : Tx} {r : List Tx} (hr : r ∈ altS L a) : ∀ x ∈ r, nmS x = true := by
  obtain ⟨r0, h0, rfl⟩ := List.mem_map.1 hr
  intro x hx
  exact (hL.nm r0 (gr_mem.1 h0).1).2 x (List.mem_of_mem_drop hx)
theorem left_nm {L : List (List Tx)} (hL : NmL L) {a : Tx} (ha : a ∈ dsS L) : nmS a = true ∧ a.getD 0 0 ≠ 35 := by
  obtain ⟨r, hr, rfl⟩ := (ds_mem L a).1 ha
  obtain ⟨h1, h2⟩ := hL.nm r hr
  exact ⟨h2 _ (by unfold lfS; exact getD_mem h1), hL.hs r hr⟩
theorem wl_ok {L : List (List Tx)} (hL : NmL L) {a : Tx} (ha : a ∈ dsS L) : ∀ w ∈ wlS a (altS L a), wdB w ∧ (10 : UInt8) ∉ w := by
  intro w hw
  rcases wl_mem hw with rfl | rfl | rfl | ⟨r, hr, hx⟩
  · exact nm_word (left_nm hL ha).1
  · exact arw_word
  · exact bar_word
  · exact nm_word (alt_mem hL hr w hx)
theorem wl_ne (a : Tx) (rs : List (List Tx)) : wlS a rs ≠ [] := by cases rs <;> simp [wlS]
theorem line_fld {L : List (List Tx)} (hL : NmL L) {a : Tx} (ha : a ∈ dsS L) : fldS (lineS L a) = wlS a (altS L a) := fld_words (wl_ne _ _) fun w hw => (wl_ok hL ha w hw).1
theorem bl_no {ws : List Tx} (h : ∀ w ∈ ws, (10 : UInt8) ∉ w) : (10 : UInt8) ∉ blS ws := by
  cases ws with
  | nil => simp [blS]
  | cons w r =>
    intro hm
    unfold blS at hm
    rcases List.mem_append.1 hm with hm | hm
    · exact h w (List.mem_cons_self ..) hm
    · obtain ⟨l, hl, hb⟩ := List.mem_flatten.1 hm
      obtain ⟨x, hx, rfl⟩ := List.mem_map.1 hl
      rcases List.mem_cons.1 hb with hb | hb
      · exact absurd hb (by decide)
      · exact h x (List.mem_cons_of_mem _ hx) hb
theorem txt_lines {L : List (List Tx)} (hL : NmL L) : lnsS (txtS L) = linesL L ++ [[]] := by
  refine lns_cat _ fun l hl => ?_
  obtain ⟨a, ha, rfl⟩ := List.mem_map.1 hl
  exact bl_no fun w hw => (wl_ok hL ha w hw).2
/-- What a line gives. -/
def lnA (l : Tx) : List (List Tx) := if skipS (fldS l) then [] else alS (fldS l)
theorem rd_flat (ls : List Tx) : ∀ k, k ≤ ls.length → rdTo ls k = ((ls.take k).map lnA).flatten
  | 0, _ => by simp [rdTo]
  | k + 1, hk => by
    have ih := rd_flat ls k (by omega)
    rw [rdTo, getD_take (by omega), List.map_append, List.flatten_append, ← ih]
    show _ = _ ++ [lnA (ls.getD k [])].flatten
    unfold lnA
    split <;> simp
theorem alt_some {L : List (List Tx)} {a : Tx} (ha : a ∈ dsS L) : ∃ r rs, altS L a = r :: rs := by
  unfold altS
  cases h : grS L a with
  | nil => exact absurd h (gr_ne ha)
  | cons r rs => exact ⟨_, _, rfl⟩
theorem line_alS {L : List (List Tx)} (hL : NmL L) {a : Tx} (ha : a ∈ dsS L) : alS (wlS a (altS L a)) = grS L a := by
  have e : grS L a = (altS L a).map (fun r => a :: r) := by
    unfold altS
    rw [List.map_map]
    refine (List.map_id _).symm.trans (List.map_congr_left fun r hr => ?_)
    obtain ⟨h1, h2⟩ := gr_mem.1 hr
    have h3 := (hL.nm r h1).1
    show r = a :: r.drop 1
    cases r with
    | nil => simp at h3
    | cons y r => rw [← h2]; rfl
  rw [e]
  obtain ⟨r, rs, hrs⟩ := alt_some ha
  have hn : ∀ r' ∈ altS L a, ∀ x ∈ r', x ≠ tOr := fun r' h' x hx => (nm_not (alt_mem hL h' x hx)).2.2.1
  rw [hrs] at hn ⊢
  exact al_line a r rs hn
theorem line_skip {L : List (List Tx)} (hL : NmL L) {a : Tx} (ha : a ∈ dsS L) : skipS (wlS a (altS L a)) = false := by
  obtain ⟨r, rs, hrs⟩ := alt_some ha
  rw [hrs]
  unfold skipS
  show (false || (a.getD 0 0 == 35)) = false
  rw [Bool.false_or, beq_eq_false_iff_ne]
  exact (left_nm hL ha).2
theorem line_lnS {L : List (List Tx)} (hL : NmL L) {a : Tx} (ha : a ∈ dsS L) : lnS (wlS a (altS L a)) = true := by
  obtain ⟨r, rs, hrs⟩ := alt_some ha
  have hw : ∀ w ∈ (wlS a (altS L a)).drop 2, w = tOr ∨ nmS w = true := by
    rw [hrs]
    intro w hw
    have hw' : w ∈ r ++ (rs.map (fun r => tOr :: r)).flatten := hw
    rcases List.mem_append.1 hw' with h | h
    · exact .inr (alt_mem hL (by rw [hrs]; exact List.mem_cons_self ..) w h)
    · rcases bars_mem h with h | ⟨r', hr, hx⟩
      · exact .inl h
      · exact .inr (alt_mem hL (by rw [hrs]; exact List.mem_cons_of_mem _ hr) w hx)
  unfold lnS
  simp only [Bool.and_eq_true, decide_eq_true_eq, beq_iff_eq, List.all_eq_true, Bool.or_eq_true]
  refine ⟨⟨⟨?_, ?_⟩, ?_⟩, hw⟩
  · rw [hrs]; simp [wlS]
  · rw [hrs]; exact (left_nm hL ha).1
  · rw [hrs]; rfl
theorem txt_pars {L : List (List Tx)} (hL : NmL L) : parsL (txtS L) = gpL L := by
  unfold parsL
  rw [rd_flat _ _ (Nat.le_refl _), List.take_length, txt_lines hL, List.map_append, List.flatten_append]
  have e : ([[]] : List Tx).map lnA = [[]] := by
    show [lnA []] = _
    unfold lnA
    rw [fld_none]; rfl
  rw [e]
  show _ ++ [] = _
  rw [List.append_nil]
  unfold linesL gpL
  rw [List.map_map]
  congr 1
  apply List.map_congr_left
  intro a ha
  show lnA (lineS L a) = _
  unfold lnA
  rw [line_fld hL ha, line_skip hL ha, if_neg (by decide)]
  exact line_alS hL ha
theorem txt_good {L : List (List Tx)} (hL : NmL L) : prG (txtS L) = true := by
  refine prG_true fun j hj => ?_
  have hm : (lnsS (txtS L)).getD j [] ∈ lnsS (txtS L) := getD_mem hj
  generalize (lnsS (txtS L)).getD j [] = l at *
  have hg : ∀ l, l ∈ lnsS (txtS L) → (skipS (fldS l) || lnS (fldS l)) = true := by
    intro l hl
    rw [txt_lines hL] at hl
    rcases List.mem_append.1 hl with hl | hl
    · obtain ⟨a, ha, rfl⟩ := List.mem_map.1 hl
      rw [line_fld hL ha, line_lnS hL ha, Bool.or_true]
    · rw [List.mem_singleton.1 hl, fld_none]; rfl
  unfold goodL
  exact hg _ (getD_mem hj)
end Go.Proofs.YtgmbkelmgolkpabDoor
