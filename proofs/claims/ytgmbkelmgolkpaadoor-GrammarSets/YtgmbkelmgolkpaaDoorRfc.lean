/- The document's lines and words are those of the library. -/
import Derived.Test.YtgmbkelmgolkpaaDoorRfb
import Derived.Test.YtgmbkelmgolkpaaDoorFld
import Derived.Lib.SpaceUEq
import Derived.Laws.RangeAny
namespace Go.Proofs.YtgmbkelmgolkpaaDoor
open Go.RowKit
set_option linter.unusedVariables false

theorem ln_run (x : Tx) (p : Nat) : ∀ q, p ≤ q → (∀ t, p ≤ t → t < q → t < x.length ∧ x.getD t 0 ≠ 10) → lnTo x q = lnTo x p := by
  intro q
  induction q with
  | zero => intro hp _; rw [show p = 0 by omega]
  | succ q ih =>
    intro hp h
    by_cases hq : p = q + 1
    · rw [hq]
    · have h1 := h q (by omega) (by omega)
      rw [lnTo, if_neg (fun hc => by rcases hc with hc | hc; · omega
                                     · exact h1.2 hc)]
      exact ih (by omega) fun t h1 h2 => h t h1 (by omega)
theorem ln_split (x : Tx) : ∀ (k p : Nat), p ≤ x.length → (lnTo x p).2 = p → Lib.count (x.drop p) [10] = k → (lnTo x p).1 ++ Lib.splitK [10] 0 k (x.drop p) = dlnS x := by
  intro k
  induction k with
  | zero =>
    intro p hp hf hc
    have hm : Lib.index (x.drop p) [10] = -1 := by
      have hge := Lib.indexByte_ge (x.drop p) 10
      rw [← Lib.index_one] at hge
      rcases Int.lt_or_le (Lib.index (x.drop p) [10]) 0 with h | h
      · omega
      · have := Lib.count_hit (s := x.drop p) (sub := [10]) (by simp) (show Lib.index (x.drop p) [10] = ((Lib.index (x.drop p) [10]).toNat : Nat) by omega)
        omega
    rw [Lib.index_one] at hm
    have hn := Lib.indexByte_none hm
    have hr := ln_run x p x.length hp (fun t h1 h2 => ⟨h2, fun he => hn (t - p) (by
      rw [List.getElem?_drop, show p + (t - p) = t by omega, List.getElem?_eq_getElem h2]
      rw [List.getD_eq_getElem?_getD, List.getElem?_eq_getElem h2] at he
      exact congrArg some he)⟩)
    unfold dlnS
    rw [lnTo, if_pos (.inl rfl), hr, hf]
    show _ ++ [x.drop p] = _ ++ [pcS x p x.length]
    unfold pcS
    rw [List.take_length]
  | succ k ih =>
    intro p hp hf hc
    have hge := Lib.indexByte_ge (x.drop p) 10
    rw [← Lib.index_one] at hge
    have hm : ¬ Lib.index (x.drop p) [10] = -1 := fun hm => by
      have := Lib.count_miss (s := x.drop p) (sub := [10]) hm
      omega
    obtain ⟨o, ho⟩ : ∃ o : Nat, Lib.index (x.drop p) [10] = (o : Int) := ⟨(Lib.index (x.drop p) [10]).toNat, by omega⟩
    have hcn := Lib.count_hit (s := x.drop p) (sub := [10]) (by simp) ho
    have ho2 := ho
    rw [Lib.index_one] at ho2
    obtain ⟨h1, h2⟩ := Lib.indexByte_some ho2
    rw [List.getElem?_drop] at h1
    have hlt : p + o < x.length := by
      rcases Nat.lt_or_ge (p + o) x.length with h | h
      · exact h
      · rw [List.getElem?_eq_none h] at h1; cases h1
    have hr := ln_run x p (p + o) (by omega) (fun t h3 h4 => ⟨by omega, fun he => h2 (t - p) (by omega) (by
      have h5 : t < x.length := by omega
      rw [List.getElem?_drop, show p + (t - p) = t by omega, List.getElem?_eq_getElem h5]
      rw [List.getD_eq_getElem?_getD, List.getElem?_eq_getElem h5] at he
      exact congrArg some he)⟩)
    have hx : x.getD (p + o) 0 = 10 := by rw [List.getD_eq_getElem?_getD, h1]; rfl
    have hs : lnTo x (p + o + 1) = ((lnTo x p).1 ++ [pcS x p (p + o)], p + o + 1) := by
      rw [lnTo, if_pos (.inr hx), hr, hf]
    have hd : (x.drop p).drop (o + 1) = x.drop (p + o + 1) := by rw [List.drop_drop]; rfl
    have hi := ih (p + o + 1) (by omega) (by rw [hs]) (by rw [← hd]; simp only [List.length_singleton] at hcn; omega)
    rw [← hi, hs]
    rw [Lib.splitK, if_neg (fun e => hm (beq_iff_eq.1 e)), ho]
    show _ ++ ((x.drop p).take (o + 0) :: Lib.splitK [10] 0 k ((x.drop p).drop (o + 1))) = _
    rw [hd, List.append_assoc]
    congr 1
    show _ = pcS x p (p + o) :: _
    congr 1
    unfold pcS
    rw [List.drop_take]
    congr 1
    omega
/-- The document's lines are Split's. -/
theorem dln_eq (x : Tx) : dlnS x = lnsS x := by
  have h := ln_split x _ 0 (Nat.zero_le _) rfl rfl
  unfold lnsS
  have h2 := Lib.splitB_data nlB 0 (Lib.countB ⟨x.toArray⟩ nlB) ⟨x.toArray⟩
  rw [← h]
  exact h2.symm

theorem wd_run (x : Tx) (p : Nat) : ∀ j, 1 ≤ j → (∀ t, p ≤ t → t < p + j → t < x.length ∧ x.getD t 0 ≠ 32 ∧ x.getD t 0 ≠ 9) → wdTo x (p + j) = ((wdTo x p).1, some ((wdTo x p).2.getD p)) := by
  intro j
  induction j with
  | zero => intro h; omega
  | succ j ih =>
    intro _ h
    have h1 := h (p + j) (by omega) (by omega)
    have hn : ¬ (p + j = x.length ∨ x.getD (p + j) 0 = 32 ∨ x.getD (p + j) 0 = 9) := fun hc => by
      rcases hc with hc | hc | hc
      · omega
      · exact h1.2.1 hc
      · exact h1.2.2 hc
    show wdTo x (p + j + 1) = _
    rw [wdTo, if_neg hn]
    by_cases hj : j = 0
    · subst hj
      show (match (wdTo x p).2 with | some a => ((wdTo x p).1, some a) | none => ((wdTo x p).1, some p)) = _
      cases (wdTo x p).2 <;> rfl
    · rw [ih (by omega) fun t h1 h2 => h t h1 (by omega)]
theorem sp_wd (x : Tx) : ∀ (f pos : Nat) (st : Option Nat) (acc : List (Nat × Nat)), pos ≤ x.length → x.length - pos ≤ f → wdTo x pos = (acc.map (fun y => pcS x y.1 y.2), st) → wdTo x x.length = ((Lib.spansFromP isBl (bA x) f pos st acc).1.map (fun y => pcS x y.1 y.2), (Lib.spansFromP isBl (bA x) f pos st acc).2) := by
  intro f
  induction f with
  | zero =>
    intro pos st acc hp hf h
    obtain rfl : pos = x.length := by omega
    exact h
  | succ f ih =>
    intro pos st acc hp hf h
    have hsz := ba_size x
    by_cases hlt : pos < x.length
    · have hb : pos < (bA x).size := by omega
      have hg := ba_get x pos hb
      have hN : Utf8.decode (bA x) pos = Lib.decodeN (x.length - pos) (x.getD pos 0).toNat (x.getD (pos + 1) 0).toNat (x.getD (pos + 2) 0).toNat (x.getD (pos + 3) 0).toNat := Lib.decode_N (bA x) pos
      unfold Lib.spansFromP
      rw [if_pos hb]
      rcases Nat.lt_or_ge (x.getD pos 0).toNat 128 with ha | ha
      · rw [hN, Lib.decodeN_ascii _ _ _ _ _ ha]
        by_cases hbl : x.getD pos 0 = 32 ∨ x.getD pos 0 = 9
        · have hi : isBl (x.getD pos 0).toNat = true := by
            rcases hbl with e | e <;> rw [e] <;> rfl
          simp only [hi, if_true]
          cases st with
          | some a => exact ih _ _ _ (by omega) (by omega) (by rw [wdTo, if_pos (.inr hbl), h, List.map_append]; rfl)
          | none => exact ih _ _ _ (by omega) (by omega) (by rw [wdTo, if_pos (.inr hbl), h])
        · have hi : isBl (x.getD pos 0).toNat = false := by
            unfold isBl
            rw [Bool.or_eq_false_iff]
            refine ⟨beq_eq_false_iff_ne.2 fun e => hbl (.inl ?_), beq_eq_false_iff_ne.2 fun e => hbl (.inr ?_)⟩
            · exact UInt8.toNat_inj.1 e
            · exact UInt8.toNat_inj.1 e
          simp only [hi]
          have hw := wd_run x pos 1 (Nat.le_refl _) (fun t h1 h2 => by
            obtain rfl : t = pos := by omega
            exact ⟨hlt, fun e => hbl (.inl e), fun e => hbl (.inr e)⟩)
          rw [h] at hw
          cases st with
          | some a => exact ih _ _ _ (by omega) (by omega) hw
          | none => exact ih _ _ _ (by omega) (by omega) hw
      · have hh := decode_high (bA x) pos hb (by rw [hg]; exact ha)
        have hc := Lib.decodeN_conts (x.length - pos) (x.getD pos 0).toNat (x.getD (pos + 1) 0).toNat (x.getD (pos + 2) 0).toNat (x.getD (pos + 3) 0).toNat
        rw [← hN] at hc
        generalize Utf8.decode (bA x) pos = d at *
        obtain ⟨r, wd⟩ := d
        obtain ⟨hr, hwd⟩ := hh
        obtain ⟨c2, c3, c4, c5⟩ := hc
        simp only at hr hwd c2 c3 c4 c5
        have hi : isBl r = false := by
          unfold isBl
          rw [Bool.or_eq_false_iff]
          exact ⟨beq_eq_false_iff_ne.2 (by omega), beq_eq_false_iff_ne.2 (by omega)⟩
        simp only [hi]
        have hhi : ∀ t, 128 ≤ (x.getD t 0).toNat → x.getD t 0 ≠ 32 ∧ x.getD t 0 ≠ 9 := fun t h => ⟨fun e => by rw [e] at h; exact absurd h (by decide), fun e => by rw [e] at h; exact absurd h (by decide)⟩
        have hw := wd_run x pos wd hwd (fun t h1 h2 => by
          by_cases h3 : t = pos
          · subst h3; exact ⟨hlt, hhi _ ha⟩
          · by_cases h4 : t = pos + 1
            · subst h4; have := c2 (by omega); exact ⟨by omega, hhi _ (by omega)⟩
            · by_cases h5 : t = pos + 2
              · subst h5; have := c3 (by omega); exact ⟨by omega, hhi _ (by omega)⟩
              · obtain rfl : t = pos + 3 := by omega
                have := c4 (by omega); exact ⟨by omega, hhi _ (by omega)⟩)
        rw [h] at hw
        have hle : pos + wd ≤ x.length := by
          by_cases h4 : 4 ≤ wd
          · have := c4 h4; omega
          · by_cases h3 : 3 ≤ wd
            · have := c3 h3; omega
            · by_cases h2 : 2 ≤ wd
              · have := c2 h2; omega
              · omega
        cases st with
        | some a => exact ih _ _ _ hle (by omega) hw
        | none => exact ih _ _ _ hle (by omega) hw
    · obtain rfl : pos = x.length := by omega
      rw [Lib.spansFromP_end isBl (bA x) _ _ _ _ (by omega)]
      exact h
/-- The document's words are FieldsFunc's. -/
theorem dwd_eq (x : Tx) : dwdS x = fldS x := by
  have h := sp_wd x x.length 0 none [] (Nat.zero_le _) (by omega) rfl
  have hsz := ba_size x
  have hp : ∀ a b, ((bA x).extract a b).data.toList = pcS x a b := fun a b => by rw [ba_cut]; rfl
  show dwdS x = (((Lib.closeSpans (bA x) (Lib.spansFromP isBl (bA x) (bA x).size 0 none [])).map fun y => (bA x).extract y.1 y.2).map fun b => b.data.toList)
  unfold dwdS
  rw [wdTo, if_pos (.inl rfl), h, hsz, List.map_map]
  unfold Lib.closeSpans
  generalize Lib.spansFromP isBl (bA x) x.length 0 none [] = r
  obtain ⟨r1, r2⟩ := r
  have hm : ∀ l : List (Nat × Nat), l.map ((fun b : ByteArray => b.data.toList) ∘ fun y => (bA x).extract y.1 y.2) = l.map (fun y => pcS x y.1 y.2) := fun l => List.map_congr_left fun y _ => hp y.1 y.2
  cases r2 with
  | some a => simp only; rw [hm, List.map_append, hsz]; rfl
  | none => simp only; rw [hm]
end Go.Proofs.YtgmbkelmgolkpaaDoor
