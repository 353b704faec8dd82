/- The document's notes behind an Add: a new note at Find's place keeps the two shelves the same. -/
import Derived.Test.YtnjjpahpaeblfaaSortP
import Derived.Test.YtnjjpahpaeblfaaAdd
namespace Go.Proofs.Ytnjjpahpaeblfaa
open Go.RowKit Go.Maps Go.Sort
set_option linter.unusedVariables false

theorem ins_sorted {N : List (List UInt8)} {x : List UInt8} {k : Nat} (hs : SortedL N) (hlt : ∀ a ∈ N.take k, a ≤ x) (hge : ∀ a ∈ N.drop k, x ≤ a) : SortedL (N.take k ++ x :: N.drop k) := by
  unfold SortedL at hs ⊢
  rw [← List.take_append_drop k N, List.pairwise_append] at hs
  rw [List.pairwise_append]
  refine ⟨hs.1, List.pairwise_cons.2 ⟨hge, hs.2.1⟩, fun a ha b hb => ?_⟩
  rcases List.mem_cons.1 hb with rfl | hb
  · exact hlt a ha
  · exact hs.2.2 a ha b hb

theorem Same.names {S : List Nt} {T : List Ne} (h : Same S T) : T.map (fun e => e.n.name) = namesOf S := by
  have h1 : T.map (fun e => e.n.name) = (T.map Ne.n).map Nt.name := by rw [List.map_map]; rfl
  rw [h1, h.notes, notesOf, List.map_map]
  conv => rhs; rw [← List.map_id (namesOf S)]
  refine List.map_congr_left fun x hx => ?_
  have hx2 : x ∈ S.map Nt.name := (List.mergeSort_perm _ _).mem_iff.1 hx
  obtain ⟨n, hn, rfl⟩ := List.mem_map.1 hx2
  show (getNt S n.name).name = n.name
  rw [getNt_mem h.nodup hn]

theorem addI_zero {S : List Nt} {n : Nt} (h : addI S n = 0) : rightI n = 0 ∧ n.name ∉ S.map Nt.name ∧ S.length < 64 := by
  unfold addI at h
  by_cases h1 : rightI n = 0
  · rw [if_neg (by simp [h1])] at h
    by_cases h2 : (S.map Nt.name).contains n.name = true
    · rw [if_pos h2] at h; exact absurd h (by decide)
    · rw [if_neg h2] at h
      by_cases h3 : 64 ≤ S.length
      · rw [if_pos h3] at h; exact absurd h (by decide)
      · exact ⟨h1, fun hm => h2 (List.contains_iff_mem.2 hm), by omega⟩
  · rw [if_pos h1] at h; exact absurd h h1

theorem mem_getDL {L : List (List UInt8)} {j : Nat} (hj : j < L.length) : L.getD j [] ∈ L := by
  rw [List.getD, List.getElem?_eq_getElem hj]; exact List.getElem_mem hj

theorem Same.add {S : List Nt} {T : List Ne} (h : Same S T) {n : Nt} (h0 : addI S n = 0) {k : Nat} (hk : FindAt T n.name k) (a : Option Addr) (c : Nat) : Same (addS S n) (T.take k ++ ⟨n, a, c⟩ :: T.drop k) := by
  have hS : addS S n = S ++ [n] := by unfold addS; rw [if_pos h0]
  obtain ⟨hr, hx, hl⟩ := addI_zero h0
  rw [hS]
  have hnd : ((S ++ [n]).map Nt.name).Nodup := by
    rw [List.map_append, List.nodup_append]
    refine ⟨h.nodup, by simp, fun a ha b hb => ?_⟩
    simp at hb
    subst hb
    intro e; subst e; exact hx ha
  refine ⟨?_, hnd⟩
  have hN := h.names
  have hnm : ∀ j, j < T.length → nmAt T j = (namesOf S).getD j [] := fun j hj => (h.at_ hj).2.1
  have hlen : (namesOf S).length = T.length := by rw [namesOf_length, h.len]
  -- the names stand in order
  have hins : SortedL ((namesOf S).take k ++ n.name :: (namesOf S).drop k) := by
    refine ins_sorted (sorted_merge _) (fun a ha => ?_) (fun a ha => ?_)
    · obtain ⟨j, hj, rfl⟩ := List.mem_iff_getElem.1 ha
      rw [List.length_take] at hj
      have h1 := hk.lt j (by omega)
      rw [hnm j (by omega), List.getD, List.getElem?_eq_getElem (by omega), Option.getD_some] at h1
      rw [List.getElem_take]
      exact List.le_of_lt (less_lt _ _ h1)
    · obtain ⟨j, hj, rfl⟩ := List.mem_iff_getElem.1 ha
      rw [List.length_drop] at hj
      have hkl : k < T.length := by omega
      have h1 := hk.ge hkl
      rw [List.getElem_drop]
      have h2 : n.name ≤ nmAt T k := by
        intro hlt
        rw [lt_less _ _ hlt] at h1
        cases h1
      have h3 : nmAt T k ≤ (namesOf S)[k + j] := by
        have h4 : nmAt T (k + j) = (namesOf S)[k + j] := by rw [hnm (k + j) (by omega), List.getD, List.getElem?_eq_getElem (by omega), Option.getD_some]
        rw [← h4]
        by_cases e : j = 0
        · subst e; exact List.le_refl _
        · exact List.le_of_lt (h.sorted (by omega) (by omega))
      exact List.le_trans h2 h3
  have hmap : (T.take k ++ (⟨n, a, c⟩ : Ne) :: T.drop k).map (fun e => e.n.name) = (namesOf S).take k ++ n.name :: (namesOf S).drop k := by
    rw [List.map_append, List.map_cons, List.map_take, List.map_drop, hN]
  have hperm : ((namesOf S).take k ++ n.name :: (namesOf S).drop k).Perm ((S ++ [n]).map Nt.name) := by
    refine List.perm_middle.trans ?_
    rw [List.take_append_drop, List.map_append]
    refine (List.Perm.cons _ (List.mergeSort_perm _ _)).trans ?_
    exact (List.perm_append_singleton _ _).symm
  have hnames : (namesOf S).take k ++ n.name :: (namesOf S).drop k = namesOf (S ++ [n]) :=
    sorted_uniq hins (sorted_merge _) (hperm.trans (List.mergeSort_perm _ _).symm)
  rw [notesOf, ← hnames, ← hmap, List.map_map]
  refine List.map_congr_left fun e he => ?_
  show e.n = getNt (S ++ [n]) e.n.name
  have hm : e.n ∈ S ++ [n] := by
    rcases List.mem_append.1 he with he | he
    · have h1 : e ∈ T := List.mem_of_mem_take he
      obtain ⟨j, hj, rfl⟩ := List.mem_iff_getElem.1 h1
      have := (h.at_ hj).1
      rw [List.getD, List.getElem?_eq_getElem hj] at this
      exact List.mem_append_left _ this
    · rcases List.mem_cons.1 he with rfl | he
      · simp
      · have h1 : e ∈ T := List.mem_of_mem_drop he
        obtain ⟨j, hj, rfl⟩ := List.mem_iff_getElem.1 h1
        have := (h.at_ hj).1
        rw [List.getD, List.getElem?_eq_getElem hj] at this
        exact List.mem_append_left _ this
  exact (getNt_mem hnd hm).symm
end Go.Proofs.Ytnjjpahpaeblfaa
