/- Plain facts on what is under a name: it is what its leans are and have under them; there is a ring just where somebody is under itself. -/
import Derived.Test.YtnjjpahpaeblfaaUnd
import Derived.Test.YtnjjpahpaeblfaaPlain
namespace Go.Proofs.Ytnjjpahpaeblfaa
open Go
set_option linter.unusedVariables false

theorem exists_under (S : List Nt) (x : List UInt8) : ∃ U, IsUnder S x U := by
  let R : List UInt8 → Prop := fun y => ∀ P, ClosedU S x P → P y
  let U := addL [] ((S.flatMap Nt.leans).filter (fun y => @decide (R y) (Classical.propDecidable _)))
  have hm : ∀ y, y ∈ U ↔ y ∈ S.flatMap Nt.leans ∧ R y := fun y => by
    rw [addL_mem, List.mem_filter]
    simp
  have hall : ∀ z y, y ∈ leansOf S z → y ∈ S.flatMap Nt.leans := fun z y hy => by
    obtain ⟨n, hn, _, hy⟩ := leansOf_mem hy
    exact List.mem_flatMap.2 ⟨n, hn, hy⟩
  refine ⟨U, addL_nodup List.nodup_nil, ⟨fun y hy => (hm y).2 ⟨hall x y hy, fun P hP => hP.1 y hy⟩, fun y hy z hz => (hm z).2 ⟨hall y z hz, fun P hP => hP.2 y (((hm y).1 hy).2 P hP) z hz⟩⟩, fun P hP y hy => ((hm y).1 hy).2 P hP⟩

theorem under_sub {S : List Nt} {x l : List UInt8} {U Ul : List (List UInt8)} (hU : IsUnder S x U) (hl : l ∈ U) (hUl : IsUnder S l Ul) : ∀ y ∈ Ul, y ∈ U :=
  hUl.2.2 (· ∈ U) ⟨fun y hy => hU.2.1.2 l hl y hy, hU.2.1.2⟩

/-- Under is what the leans are and have under them. -/
theorem under_want {S : List Nt} {x : List UInt8} {U W : List (List UInt8)} (hU : IsUnder S x U) (hW : ∀ y, y ∈ W ↔ ∃ l ∈ leansOf S x, y = l ∨ ∃ Ul, IsUnder S l Ul ∧ y ∈ Ul) : ∀ y, y ∈ W ↔ y ∈ U := by
  intro y
  constructor
  · intro hy
    obtain ⟨l, hl, h⟩ := (hW y).1 hy
    have hlU := hU.2.1.1 l hl
    rcases h with rfl | ⟨Ul, h1, h2⟩
    · exact hlU
    · exact under_sub hU hlU h1 y h2
  · refine hU.2.2 (· ∈ W) ⟨fun z hz => (hW z).2 ⟨z, hz, .inl rfl⟩, fun z hz v hv => ?_⟩ y
    obtain ⟨l, hl, h⟩ := (hW z).1 hz
    rcases h with rfl | ⟨Ul, h1, h2⟩
    · obtain ⟨Uz, hUz⟩ := exists_under S z
      exact (hW v).2 ⟨z, hl, .inr ⟨Uz, hUz, hUz.2.1.1 v hv⟩⟩
    · exact (hW v).2 ⟨l, hl, .inr ⟨Ul, h1, h1.2.1.2 z h2 v hv⟩⟩

theorem under_mem {S : List Nt} {x : List UInt8} {U V : List (List UInt8)} (hU : IsUnder S x U) (hV : IsUnder S x V) (y : List UInt8) : y ∈ U ↔ y ∈ V :=
  ⟨hU.2.2 (· ∈ V) hV.2.1 y, hV.2.2 (· ∈ U) hU.2.1 y⟩

/-- Somebody is under itself. -/
def ringP (S : List Nt) : Prop := ∃ n ∈ S, ∃ U, IsUnder S n.name U ∧ n.name ∈ U

theorem ring_of_none {S : List Nt} (hn : (S.map Nt.name).Nodup) (hl : lacksB S = false) : ∀ k, k ≤ S.length → orderTo S k = none → ringP S
  | 0, _, h => by simp [orderTo] at h
  | k + 1, hk, h => by
    by_cases hprev : orderTo S k = none
    · exact ring_of_none hn hl k (by omega) hprev
    · obtain ⟨o, ho⟩ : ∃ o, orderTo S k = some o := by
        cases ho : orderTo S k with
        | none => exact absurd ho hprev
        | some o => exact ⟨o, rfl⟩
      have hnext : nextOf S o = none := by
        cases hnx : nextOf S o with
        | none => rfl
        | some x => simp [orderTo, ho, hnx] at h
      have hol := orderTo_length S k o ho
      -- somebody has no place
      obtain ⟨x0, hx0, hx0o⟩ : ∃ x ∈ S.map Nt.name, x ∉ o := by
        refine Classical.byContradiction fun hc => ?_
        have hsub : ∀ y ∈ S.map Nt.name, y ∈ o := fun y hy => Classical.byContradiction fun hyo => hc ⟨y, hy, hyo⟩
        have := nodup_len hn hsub
        simp at this
        omega
      -- and each such leans on such a one
      have step : ∀ x, x ∈ S.map Nt.name → x ∉ o → ∃ l ∈ leansOf S x, l ∈ S.map Nt.name ∧ l ∉ o := by
        intro x hx hxo
        have hr := List.find?_eq_none.1 hnext x ((List.mergeSort_perm _ _).mem_iff.2 hx)
        have hoc : o.contains x = false := by
          cases hc : o.contains x with
          | false => rfl
          | true => exact absurd (List.contains_iff_mem.1 hc) hxo
        simp only [readyB, hoc, Bool.not_false, Bool.true_and] at hr
        have hna : ¬ ∀ l ∈ leansOf S x, o.contains l = true := fun hall => hr (List.all_eq_true.2 hall)
        obtain ⟨l, hl1⟩ := Classical.not_forall.1 hna
        obtain ⟨hlx, hlo⟩ := Classical.not_imp.1 hl1
        refine ⟨l, hlx, ?_, fun hc => hlo (List.contains_iff_mem.2 hc)⟩
        obtain ⟨n, hnS, _, hln⟩ := leansOf_mem hlx
        refine Classical.byContradiction fun hc => ?_
        have : lacksB S = true := by
          rw [lacksB, List.any_eq_true]
          refine ⟨n, hnS, ?_⟩
          rw [List.any_eq_true]
          refine ⟨l, hln, ?_⟩
          cases hcc : (S.map Nt.name).contains l with
          | false => rfl
          | true => exact absurd (List.contains_iff_mem.1 hcc) hc
        rw [this] at hl
        cases hl
      refine Classical.byContradiction fun hring => ?_
      have desc : ∀ N x U, x ∈ S.map Nt.name → x ∉ o → IsUnder S x U → U.length ≤ N → False := by
        intro N
        induction N with
        | zero =>
          intro x U hx hxo hU hUl
          obtain ⟨l, hl1, _⟩ := step x hx hxo
          have := hU.2.1.1 l hl1
          obtain rfl : U = [] := List.eq_nil_of_length_eq_zero (by omega)
          simp at this
        | succ N ih =>
          intro x U hx hxo hU hUl
          obtain ⟨l, hl1, hl2, hl3⟩ := step x hx hxo
          obtain ⟨Ul, hUl'⟩ := exists_under S l
          have hlU := hU.2.1.1 l hl1
          have hnot : l ∉ Ul := fun hin => by
            obtain ⟨n, hn1, hn2⟩ := List.mem_map.1 hl2
            exact hring ⟨n, hn1, Ul, hn2 ▸ hUl', hn2 ▸ hin⟩
          have hlt : (l :: Ul).length ≤ U.length := nodup_len (List.nodup_cons.2 ⟨hnot, hUl'.1⟩) (fun y hy => by
            rcases List.mem_cons.1 hy with rfl | hy
            · exact hlU
            · exact under_sub hU hlU hUl' y hy)
          simp only [List.length_cons] at hlt
          exact ih l Ul hl2 hl3 hUl' (by omega)
      obtain ⟨U0, hU0⟩ := exists_under S x0
      exact desc U0.length x0 U0 hx0 hx0o hU0 (Nat.le_refl _)

theorem none_of_ring {S : List Nt} (hn : (S.map Nt.name).Nodup) (hr : ringP S) {o : List (List UInt8)} (ho : Orderly S o) (hl : o.length = S.length) : False := by
  obtain ⟨n, hnS, U, hU, hin⟩ := hr
  have hon : o.Nodup := by
    rw [List.nodup_iff_pairwise_ne, List.pairwise_iff_getElem]
    intro i j hi hj hij e
    have h1 := (ho j hj).2.1
    rw [List.getD, List.getElem?_eq_getElem hj] at h1
    have : (o.take j).contains o[j] = true := by
      rw [List.contains_iff_mem, List.mem_take_iff_getElem]
      exact ⟨i, by omega, e⟩
    simp only [Option.getD_some] at h1
    rw [this] at h1
    cases h1
  -- every name has a place
  have hno : n.name ∈ o := Classical.byContradiction fun hc => by
    have hsub : ∀ y ∈ n.name :: o, y ∈ S.map Nt.name := fun y hy => by
      rcases List.mem_cons.1 hy with rfl | hy
      · exact List.mem_map_of_mem hnS
      · obtain ⟨i, hi, rfl⟩ := List.mem_iff_getElem.1 hy
        have := (ho i hi).1
        rwa [List.getD, List.getElem?_eq_getElem hi] at this
    have := nodup_len (List.nodup_cons.2 ⟨hc, hon⟩) hsub
    simp at this
    omega
  obtain ⟨i, hi, hie⟩ := List.mem_iff_getElem.1 hno
  have hgi : o.getD i [] = n.name := by rw [List.getD, List.getElem?_eq_getElem hi]; exact hie
  obtain ⟨_, h2, h3⟩ := ho i hi
  rw [hgi] at h2 h3
  have hsub := hU.2.2 (· ∈ o.take i) ⟨fun y hy => List.contains_iff_mem.1 (h3 y hy), fun y hy z hz => by
    obtain ⟨j, hj, hje⟩ := List.mem_take_iff_getElem.1 hy
    have hj' : j < o.length := by omega
    have h4 := (ho j hj').2.2
    have hgj : o.getD j [] = y := by rw [List.getD, List.getElem?_eq_getElem hj']; exact hje
    rw [hgj] at h4
    have h5 := List.contains_iff_mem.1 (h4 z hz)
    obtain ⟨q, hq, hqe⟩ := List.mem_take_iff_getElem.1 h5
    exact List.mem_take_iff_getElem.2 ⟨q, by omega, hqe⟩⟩ n.name hin
  rw [List.contains_iff_mem.2 hsub] at h2
  cases h2

/-- What Order answers, by lacks and rings. -/
theorem order_says {S : List Nt} (hn : (S.map Nt.name).Nodup) : (lacksB S = true ∧ (orderOf S).2 = 12) ∨ (lacksB S = false ∧ ringP S ∧ (orderOf S).2 = 11) ∨ (lacksB S = false ∧ ¬ ringP S ∧ (orderOf S).2 = 0) := by
  cases hl : lacksB S with
  | true => exact .inl ⟨rfl, by simp [orderOf, hl]⟩
  | false =>
    cases ho : orderTo S S.length with
    | none => exact .inr (.inl ⟨rfl, ring_of_none hn hl _ (Nat.le_refl _) ho, by simp [orderOf, hl, ho]⟩)
    | some o => exact .inr (.inr ⟨rfl, fun hr => none_of_ring hn hr (orderTo_orderly S _ o ho) (orderTo_length S _ o ho), by simp [orderOf, hl, ho]⟩)
end Go.Proofs.Ytnjjpahpaeblfaa
