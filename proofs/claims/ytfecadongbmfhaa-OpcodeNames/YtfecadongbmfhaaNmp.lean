/- The modes of a mnemonic: plain facts. -/
import Derived.Test.YtfecadongbmfhaaCnt
namespace Go.Proofs.Ytfecadongbmfhaa
open Go.RowKit
set_option linter.unusedVariables false

/- as the bytes come; by rising modes -/
def pmL (f : Nat) : Nat → List Int
  | 0 => []
  | k + 1 => pmL f k ++ (if (inS k).1 = f then [((inS k).2 : Int)] else [])
def mdT (f : Nat) : Nat → List Int
  | 0 => []
  | m + 1 => mdT f m ++ (if hcS f (m : Int) = true then [(m : Int)] else [])
def mdV (l : List Int) : Nat → List Int
  | 0 => []
  | m + 1 => mdV l m ++ (if l.contains (m : Int) = true then [(m : Int)] else [])
theorem mem_pm (f : Nat) (x : Int) : ∀ k, x ∈ pmL f k ↔ ∃ i, i < k ∧ Mt f x i
  | 0 => by simp [pmL]
  | k + 1 => by
    rw [pmL, List.mem_append, mem_pm f x k]
    constructor
    · rintro (⟨i, hi, hm⟩ | h)
      · exact ⟨i, by omega, hm⟩
      · by_cases h0 : (inS k).1 = f
        · rw [if_pos h0] at h
          simp at h
          exact ⟨k, by omega, h0, h.symm⟩
        · rw [if_neg h0] at h
          simp at h
    · rintro ⟨i, hi, hm⟩
      rcases Nat.lt_or_ge i k with h | h
      · exact .inl ⟨i, h, hm⟩
      · obtain rfl : i = k := by omega
        exact .inr (by rw [if_pos hm.1]; simp [hm.2])
theorem hc_con (f : Nat) (x : Int) : (pmL f 256).contains x = hcS f x := by
  rw [Bool.eq_iff_iff, hc_iff, List.contains_iff_mem, mem_pm]
theorem md_eq (f : Nat) : ∀ m, mdT f m = mdV (pmL f 256) m
  | 0 => rfl
  | m + 1 => by rw [mdT, mdV, md_eq f m, hc_con]
theorem mdT_lt (f : Nat) : ∀ m, ∀ x ∈ mdT f m, x < (m : Int)
  | 0 => fun x h => by simp [mdT] at h
  | m + 1 => fun x h => by
    rw [mdT, List.mem_append] at h
    rcases h with h | h
    · have := mdT_lt f m x h; omega
    · split at h
      · simp at h; omega
      · simp at h
theorem mdT_rise (f : Nat) : ∀ m, (mdT f m).Pairwise (fun a b => a ≤ b)
  | 0 => by simp [mdT]
  | m + 1 => by
    rw [mdT, List.pairwise_append]
    refine ⟨mdT_rise f m, by split <;> simp, fun a ha b hb => ?_⟩
    have := mdT_lt f m a ha
    split at hb
    · simp at hb; omega
    · simp at hb
theorem mdT_len (f : Nat) : ∀ m, (mdT f m).length ≤ m
  | 0 => Nat.le_refl _
  | m + 1 => by
    have := mdT_len f m
    rw [mdT, List.length_append]
    split <;> simp <;> omega
theorem pmL_len (f : Nat) : ∀ m, (pmL f m).length ≤ m
  | 0 => Nat.le_refl _
  | m + 1 => by
    have := pmL_len f m
    rw [pmL, List.length_append]
    split <;> simp <;> omega
theorem md_perm : ∀ f ≤ 56, 0 < f → ((pmL f 256).isPerm (mdV (pmL f 256) 13) = true ∧ 0 < (pmL f 256).length) := by decide +kernel
theorem rise_one {l : List Int} : ∀ {m : List Int}, l.Pairwise (fun a b => a ≤ b) → m.Pairwise (fun a b => a ≤ b) → l.Perm m → l = m := by
  induction l with
  | nil => intro m _ _ h; exact h.nil_eq
  | cons a l ih =>
    intro m h1 h2 h
    cases m with
    | nil => exact absurd h.symm.nil_eq (by simp)
    | cons b m =>
      have ha : a ∈ b :: m := h.mem_iff.1 (List.mem_cons_self)
      have hb : b ∈ a :: l := h.mem_iff.2 (List.mem_cons_self)
      rw [List.pairwise_cons] at h1 h2
      have e : a = b := by
        rcases List.mem_cons.1 ha with e | ha
        · exact e
        · rcases List.mem_cons.1 hb with e | hb
          · exact e.symm
          · have := h1.1 b hb; have := h2.1 a ha; omega
      subst e
      rw [ih h1.2 h2.2 (h.cons_inv)]
theorem sort_md (f : Nat) (hf : f ≤ 56) (h0 : 0 < f) : (pmL f 256).mergeSort (fun x y => decide (x ≤ y)) = mdT f 13 := by
  apply rise_one
  · have := List.pairwise_mergeSort (le := fun x y : Int => decide (x ≤ y)) (fun a b c h1 h2 => by simp at *; omega) (fun a b => by simp; omega) (pmL f 256)
    exact this.imp (fun h => by simpa using h)
  · exact mdT_rise f 13
  · rw [md_eq]
    exact (List.mergeSort_perm _ _).trans (List.isPerm_iff.1 (md_perm f hf h0).1)
end Go.Proofs.Ytfecadongbmfhaa
