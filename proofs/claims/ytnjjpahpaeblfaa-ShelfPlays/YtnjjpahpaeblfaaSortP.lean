/- An insertion sort's plain facts. -/
import Derived.Test.YtnjjpahpaeblfaaRefT
namespace Go.Proofs.Ytnjjpahpaeblfaa
open Go.RowKit Go.Maps Go.Sort
set_option linter.unusedVariables false

def SortedL (R : List (List UInt8)) : Prop := R.Pairwise (· ≤ ·)

/-- The inner loop: the first i in order but for the one at k, that is before those behind it. -/
def InsTo (R l : List (List UInt8)) (i k : Nat) : Prop := ∃ p x q t, R = p ++ x :: (q ++ t) ∧ p.length = k ∧ k + q.length = i ∧ SortedL (p ++ q) ∧ (∀ y ∈ q, x ≤ y) ∧ R.Perm l
def OutTo (R l : List (List UInt8)) (i : Nat) : Prop := ∃ s t, R = s ++ t ∧ s.length = i ∧ SortedL s ∧ R.Perm l

theorem OutTo.start {l : List (List UInt8)} (h : 1 ≤ l.length) : OutTo l l 1 := by
  match l, h with
  | x :: t, _ => exact ⟨[x], t, rfl, rfl, by simp [SortedL], List.Perm.refl _⟩
theorem OutTo.ins {R l : List (List UInt8)} {i : Nat} (h : OutTo R l i) (hi : i < R.length) : InsTo R l i i := by
  obtain ⟨s, t, rfl, rfl, hs, hp⟩ := h
  match t, hi with
  | [], hi => simp at hi
  | x :: t, _ => exact ⟨s, x, [], t, by simp, rfl, by simp, by simpa using hs, by simp, hp⟩

theorem InsTo.len {R l : List (List UInt8)} {i k : Nat} (h : InsTo R l i k) : R.length = l.length := by
  obtain ⟨_, _, _, _, _, _, _, _, _, hp⟩ := h
  exact hp.length_eq
theorem InsTo.done {R l : List (List UInt8)} {i k : Nat} (h : InsTo R l i k) (hk : k = 0 ∨ Op.bytesLess (R.getD k []) (R.getD (k - 1) []) = false) : OutTo R l (i + 1) := by
  obtain ⟨p, x, q, t, rfl, rfl, hi, hs, hx, hp⟩ := h
  refine ⟨p ++ x :: q, t, by simp, by simp; omega, ?_, hp⟩
  unfold SortedL at hs ⊢
  rw [List.pairwise_append] at hs ⊢
  refine ⟨hs.1, List.pairwise_cons.2 ⟨hx, hs.2.1⟩, fun a ha b hb => ?_⟩
  rcases List.mem_cons.1 hb with rfl | hb
  · rcases hk with hk | hk
    · rw [List.eq_nil_of_length_eq_zero hk] at ha; cases ha
    · have hpl : p ≠ [] := List.ne_nil_of_mem ha
      have hg : (p ++ b :: (q ++ t)).getD p.length [] = b := by simp [List.getD]
      have hg2 : (p ++ b :: (q ++ t)).getD (p.length - 1) [] = p.getLast hpl := by
        have : p.length - 1 < p.length := by have := List.length_pos_iff.2 hpl; omega
        rw [List.getD, List.getElem?_append_left this, List.getElem?_eq_getElem this, Option.getD_some, List.getLast_eq_getElem]
      rw [hg, hg2] at hk
      have h1 : p.getLast hpl ≤ b := by
        intro hlt
        rw [lt_less _ _ hlt] at hk
        cases hk
      refine List.le_trans ?_ h1
      have hd := List.dropLast_concat_getLast hpl
      rw [← hd, List.mem_append] at ha
      rcases ha with ha | ha
      · have h2 := hs.1
        rw [← hd, List.pairwise_append] at h2
        exact h2.2.2 a ha _ (by simp)
      · rw [List.mem_singleton] at ha; subst ha; exact List.le_refl _
  · exact hs.2.2 a ha b hb

theorem InsTo.step {R l : List (List UInt8)} {i k : Nat} (h : InsTo R l i k) (hk : 0 < k) (hb : Op.bytesLess (R.getD k []) (R.getD (k - 1) []) = true) : InsTo ((R.set k (R.getD (k - 1) [])).set (k - 1) (R.getD k [])) l i (k - 1) := by
  obtain ⟨p, x, q, t, rfl, rfl, hi, hs, hx, hp⟩ := h
  have hpl : p ≠ [] := List.length_pos_iff.1 hk
  have hd := List.dropLast_concat_getLast hpl
  generalize p.getLast hpl = y at hd
  generalize p.dropLast = p' at hd
  subst hd
  have e1 : (p' ++ [y] ++ x :: (q ++ t)).getD (p' ++ [y]).length [] = x := by simp [List.getD]
  have e2 : (p' ++ [y] ++ x :: (q ++ t)).getD ((p' ++ [y]).length - 1) [] = y := by simp [List.getD]
  have e3 : ((p' ++ [y] ++ x :: (q ++ t)).set (p' ++ [y]).length y).set ((p' ++ [y]).length - 1) x = p' ++ x :: ((y :: q) ++ t) := by
    simp
  rw [e1, e2] at hb ⊢
  rw [e3]
  refine ⟨p', x, y :: q, t, rfl, by simp, by simp at hi ⊢; omega, by simpa using hs, fun z hz => ?_, ?_⟩
  · rcases List.mem_cons.1 hz with rfl | hz
    · exact List.le_of_lt (less_lt _ _ hb)
    · exact hx z hz
  · refine List.Perm.trans ?_ hp
    rw [List.append_assoc]
    exact List.Perm.append_left _ (List.Perm.swap _ _ _)

theorem sorted_uniq : ∀ {a b : List (List UInt8)}, SortedL a → SortedL b → a.Perm b → a = b
  | [], b, _, _, h => (List.nil_perm.1 h).symm
  | x :: a, [], _, _, h => by have := h.length_eq; simp at this
  | x :: a, y :: b, ha, hb, h => by
    unfold SortedL at ha hb
    rw [List.pairwise_cons] at ha hb
    have hxy : x = y := by
      have h1 : x ∈ y :: b := h.mem_iff.1 List.mem_cons_self
      have h2 : y ∈ x :: a := h.mem_iff.2 List.mem_cons_self
      rcases List.mem_cons.1 h1 with h1 | h1
      · exact h1
      · rcases List.mem_cons.1 h2 with h2 | h2
        · exact h2.symm
        · exact List.le_antisymm (ha.1 y h2) (hb.1 x h1)
    subst hxy
    rw [sorted_uniq ha.2 hb.2 (List.Perm.cons_inv h)]

theorem sorted_merge (l : List (List UInt8)) : SortedL (l.mergeSort leB) := by
  have tr : ∀ a b c : List UInt8, leB a b = true → leB b c = true → leB a c = true := fun a b c h1 h2 => by simp only [leB, decide_eq_true_eq] at *; exact List.le_trans h1 h2
  have to : ∀ a b : List UInt8, (leB a b || leB b a) = true := fun a b => by simp only [leB, Bool.or_eq_true, decide_eq_true_eq]; exact List.le_total a b
  exact (List.pairwise_mergeSort tr to l).imp (fun h => by simpa [leB] using h)
theorem merge_perm {a b : List (List UInt8)} (h : a.Perm b) : a.mergeSort leB = b.mergeSort leB :=
  sorted_uniq (sorted_merge a) (sorted_merge b) ((List.mergeSort_perm a leB).trans (h.trans (List.mergeSort_perm b leB).symm))

theorem OutTo.done {R l : List (List UInt8)} {i : Nat} (h : OutTo R l i) (hi : R.length ≤ i) : R = l.mergeSort leB := by
  obtain ⟨s, t, rfl, rfl, hs, hp⟩ := h
  obtain rfl : t = [] := by
    match t, hi with
    | [], _ => rfl
    | _ :: _, hi => simp at hi; omega
  rw [List.append_nil] at hp ⊢
  exact sorted_uniq hs (sorted_merge l) (hp.trans (List.mergeSort_perm l leB).symm)
end Go.Proofs.Ytnjjpahpaeblfaa
