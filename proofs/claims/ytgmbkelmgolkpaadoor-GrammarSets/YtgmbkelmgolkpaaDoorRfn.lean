/- What New answers of a text's rules: plain facts. -/
import Derived.Test.YtgmbkelmgolkpaaDoorRfm
import Derived.Test.YtgmbkelmgolkpaaDoorGr
namespace Go.Proofs.YtgmbkelmgolkpaaDoor
set_option linter.unusedVariables false

/-- What New answers of a text's rules. -/
theorem newE_of {L : List (List Tx)} (h : ∀ r ∈ L, 1 ≤ r.length ∧ ∀ x ∈ r, nmS x = true) (h0 : 1 ≤ L.length) :
    newE (teS L) (otS L) (stS L) L = if L.length ≤ 128 ∧ (teS L).length + 1 + (otS L).length ≤ 128 then 0 else 3 := by
  have hn := nam_of h
  have hL : L.getD 0 [] ∈ L := by rw [List.getD_eq_getElem?_getD, List.getElem?_eq_getElem h0]; exact List.getElem_mem h0
  have hs := hn.find (.inr (left_in hL (h _ hL).1))
  have hs4 := hs.2.2.2 (left_in hL (h _ hL).1)
  unfold newE
  rw [hn.good, show stS L = (L.getD 0 []).getD 0 [] from rfl, hs.1, decide_eq_true hs4, Bool.true_and, if_pos rfl]
  have hro : L.all (roF (nuF (teS L) (otS L)) (teS L).length) = true := by
    rw [List.all_eq_true]
    intro r hr
    obtain ⟨h1, h2⟩ := h r hr
    have hl := hn.find (.inr (left_in hr h1))
    unfold roF
    rw [decide_eq_true h1, hl.1, decide_eq_true (hl.2.2.2 (left_in hr h1)), Bool.true_and, Bool.true_and, List.all_eq_true]
    intro x hx
    exact (hn.find (in_names hr (List.mem_of_mem_drop hx))).2.2.1
  rw [hro, decide_eq_true h0, Bool.true_and, if_pos rfl, allN_len]
  by_cases hc : L.length ≤ 128 ∧ (teS L).length + 1 + (otS L).length ≤ 128
  · rw [if_pos hc, decide_eq_true hc.1, decide_eq_true hc.2]; rfl
  · rw [if_neg hc, if_neg]
    intro hh
    simp only [Bool.and_eq_true, decide_eq_true_eq] at hh
    exact hc hh
theorem newE_nil : newE (teS []) (otS []) (stS []) [] = 130 := by decide
end Go.Proofs.YtgmbkelmgolkpaaDoor
