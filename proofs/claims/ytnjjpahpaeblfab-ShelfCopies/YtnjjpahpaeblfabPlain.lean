/- Plain facts on orders: the same whatever the order in which notes came; each name behind all that it leans on, once. -/
import Derived.Test.YtnjjpahpaeblfabSpec
namespace Go.Proofs.Ytnjjpahpaeblfab
open Go
set_option linter.unusedVariables false

theorem find_perm {S S' : List Nt} (hp : S.Perm S') (hn : (S.map Nt.name).Nodup) (x : List UInt8) : S.find? (fun n => n.name == x) = S'.find? (fun n => n.name == x) := by
  have uniq : ∀ m ∈ S, ∀ n ∈ S, m.name = n.name → m = n := by
    intro m hm n hn' e
    obtain ⟨i, hi, rfl⟩ := List.mem_iff_getElem.1 hm
    obtain ⟨j, hj, rfl⟩ := List.mem_iff_getElem.1 hn'
    have := (List.getElem_inj (i := i) (j := j) (h₀ := by simpa using hi) (h₁ := by simpa using hj) hn).1 (by simpa using e)
    subst this
    rfl
  cases h1 : S.find? (fun n => n.name == x) with
  | none =>
    cases h2 : S'.find? (fun n => n.name == x) with
    | none => rfl
    | some m =>
      have := List.find?_eq_none.1 h1 m (hp.mem_iff.2 (List.mem_of_find?_eq_some h2))
      exact absurd (List.find?_some h2) this
  | some m =>
    cases h2 : S'.find? (fun n => n.name == x) with
    | none =>
      have := List.find?_eq_none.1 h2 m (hp.mem_iff.1 (List.mem_of_find?_eq_some h1))
      exact absurd (List.find?_some h1) this
    | some n =>
      have e1 : m.name = x := by simpa using List.find?_some h1
      have e2 : n.name = x := by simpa using List.find?_some h2
      rw [uniq m (List.mem_of_find?_eq_some h1) n (hp.mem_iff.2 (List.mem_of_find?_eq_some h2)) (e1.trans e2.symm)]

theorem contains_perm {l l' : List (List UInt8)} (hp : l.Perm l') (x : List UInt8) : l.contains x = l'.contains x := by
  rw [Bool.eq_iff_iff, List.contains_iff_mem, List.contains_iff_mem]
  exact hp.mem_iff
theorem lacks_perm {S S' : List Nt} (hp : S.Perm S') : lacksB S = lacksB S' := by
  have hf : (fun n : Nt => n.leans.any fun l => !(S.map Nt.name).contains l) = fun n : Nt => n.leans.any fun l => !(S'.map Nt.name).contains l := by
    funext n
    congr 1
    funext l
    rw [contains_perm (hp.map Nt.name)]
  unfold lacksB
  rw [hf, Bool.eq_iff_iff, List.any_eq_true, List.any_eq_true]
  exact ⟨fun ⟨n, h1, h2⟩ => ⟨n, hp.mem_iff.1 h1, h2⟩, fun ⟨n, h1, h2⟩ => ⟨n, hp.mem_iff.2 h1, h2⟩⟩
theorem leans_perm {S S' : List Nt} (hp : S.Perm S') (hn : (S.map Nt.name).Nodup) (x : List UInt8) : leansOf S x = leansOf S' x := by
  unfold leansOf
  rw [find_perm hp hn]
theorem next_perm {S S' : List Nt} (hp : S.Perm S') (hn : (S.map Nt.name).Nodup) (o : List (List UInt8)) : nextOf S o = nextOf S' o := by
  unfold nextOf namesOf
  rw [mergeSort_of_perm (hp.map Nt.name)]
  congr 1
  funext x
  unfold readyB
  rw [leans_perm hp hn]
theorem orderTo_perm {S S' : List Nt} (hp : S.Perm S') (hn : (S.map Nt.name).Nodup) : ∀ k, orderTo S k = orderTo S' k
  | 0 => rfl
  | k + 1 => by simp only [orderTo, orderTo_perm hp hn k, next_perm hp hn]
theorem order_perm {S S' : List Nt} (hp : S.Perm S') (hn : (S.map Nt.name).Nodup) : orderOf S = orderOf S' := by
  unfold orderOf
  rw [lacks_perm hp, orderTo_perm hp hn, hp.length_eq]

/-- An order: each of its names is one of the notes', has no place before, and all that it leans on have theirs before. -/
def Orderly (S : List Nt) (o : List (List UInt8)) : Prop := ∀ i, i < o.length → o.getD i [] ∈ S.map Nt.name ∧ (o.take i).contains (o.getD i []) = false ∧ ∀ l ∈ leansOf S (o.getD i []), (o.take i).contains l = true

theorem orderTo_orderly (S : List Nt) : ∀ (k : Nat) (o : List (List UInt8)), orderTo S k = some o → Orderly S o
  | 0, o, h => by simp [orderTo] at h; subst h; intro i hi; simp at hi
  | k + 1, o, h => by
    simp only [orderTo] at h
    split at h
    · cases h
    · rename_i o' ho'
      split at h
      · cases h
      · rename_i x hx
        cases h
        have ih := orderTo_orderly S k o' ho'
        intro i hi
        by_cases e : i < o'.length
        · have h1 : (o' ++ [x]).getD i [] = o'.getD i [] := by simp [List.getD, List.getElem?_append_left e]
          have h2 : (o' ++ [x]).take i = o'.take i := by rw [List.take_append_of_le_length (by omega)]
          rw [h1, h2]
          exact ih i e
        · have hi' : i = o'.length := by simp at hi; omega
          subst hi'
          have h1 : (o' ++ [x]).getD o'.length [] = x := by simp [List.getD]
          have h2 : (o' ++ [x]).take o'.length = o' := by simp
          rw [h1, h2]
          have hr := List.find?_some hx
          have hm := List.mem_of_find?_eq_some hx
          unfold readyB at hr
          rw [Bool.and_eq_true, Bool.not_eq_true', List.all_eq_true] at hr
          exact ⟨(List.mergeSort_perm _ _).mem_iff.1 hm, hr.1, hr.2⟩

/-- What Order answers: no error, and an order of all; or an error and no names. -/
theorem orderOf_cases (S : List Nt) : ((orderOf S).2 = 0 ∧ (orderOf S).1.length = S.length ∧ Orderly S (orderOf S).1) ∨ (((orderOf S).2 = 11 ∨ (orderOf S).2 = 12) ∧ (orderOf S).1 = []) := by
  unfold orderOf
  split
  · exact .inr ⟨.inr rfl, rfl⟩
  · split
    · exact .inr ⟨.inl rfl, rfl⟩
    · rename_i o ho
      exact .inl ⟨rfl, orderTo_length S _ o ho, orderTo_orderly S _ o ho⟩
end Go.Proofs.Ytnjjpahpaeblfab
