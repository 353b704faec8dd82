/- Plain facts: bytes that are said one by one. -/
import Derived.Test.YtpemajghaceegaaGreatDoorHym
namespace Go.Proofs.YtpemajghaceegaaGreatDoor
set_option linter.unusedVariables false

def updP (f : Int → Option UInt8) (p : Int) (b : UInt8) : Int → Option UInt8 := fun q => if q = p then some b else f q
theorem mp_append (D : List Pb) (y : Pb) (q : Int) : mpP (D ++ [y]) q = (mpP D q).or (if covP y q then some (byP y q) else none) := by
  unfold mpP
  rw [List.find?_append]
  cases h : D.find? (covP · q) with
  | some d => rfl
  | none =>
    by_cases hc : covP y q = true
    · rw [List.find?_cons_of_pos (p := (covP · q)) hc, if_pos hc]; rfl
    · rw [List.find?_cons_of_neg (p := (covP · q)) hc, if_neg hc]; rfl
theorem mp_cov {D : List Pb} {p : Int} (h : mpP D p = none) {d : Pb} (hd : d ∈ D) : covP d p = false := by
  cases hc : covP d p with
  | false => rfl
  | true =>
    exfalso
    unfold mpP at h
    cases hf : D.find? (covP · p) with
    | some x => rw [hf] at h; cases h
    | none =>
      have := List.find?_eq_none.1 hf d hd
      exact this hc
theorem mp_is {D : List Pb} {p : Int} (h : mpP D p ≠ none) : ∃ d ∈ D, covP d p = true := by
  unfold mpP at h
  cases hf : D.find? (covP · p) with
  | none => rw [hf] at h; exact absurd rfl h
  | some d => exact ⟨d, List.mem_of_find?_eq_some hf, by have := List.find?_some hf; exact this⟩
theorem cov_empty {x : Pb} (h : x.2.length = 0) (p : Int) : covP x p = false := by
  cases hc : covP x p with
  | false => rfl
  | true => have := cov_iff.1 hc; unfold endP at this; omega
theorem apart_empty {x y : Pb} (h : y.2.length = 0) : apartP x y := fun p hp => by rw [cov_empty h p] at hp; cases hp.2
theorem mp_filter : ∀ (L : List Pb) (p : Int), mpP (L.filter fullP) p = mpP L p
  | [], p => rfl
  | x :: L, p => by
    rw [List.filter_cons]
    have ih := mp_filter L p
    unfold mpP at ih ⊢
    by_cases hx : fullP x = true
    · rw [if_pos hx]
      by_cases hc : covP x p = true
      · rw [List.find?_cons_of_pos (p := (covP · p)) hc, List.find?_cons_of_pos (p := (covP · p)) hc]
      · rw [List.find?_cons_of_neg (p := (covP · p)) hc, List.find?_cons_of_neg (p := (covP · p)) hc]; exact ih
    · rw [if_neg hx]
      have h0 : x.2.length = 0 := by unfold fullP at hx; simp at hx; rw [hx]; rfl
      rw [List.find?_cons_of_neg (p := (covP · p)) (by rw [cov_empty h0]; simp)]; exact ih
/- a segment of which some bytes were laid -/
def partP (x : Pb) (j : Nat) : Pb := (x.1, x.2.take j)
theorem part_cov {x : Pb} {j : Nat} (hj : j ≤ x.2.length) {q : Int} : covP (partP x j) q = true ↔ x.1 ≤ q ∧ q < x.1 + j := by
  rw [cov_iff]; unfold endP partP; simp only [List.length_take]; omega
theorem part_full (x : Pb) : partP x x.2.length = x := by unfold partP; rw [List.take_length]
theorem part_none (x : Pb) : (partP x 0).2.length = 0 := by unfold partP; simp
theorem part_step {D : List Pb} {x : Pb} {j : Nat} (hj : j < x.2.length) (hd : (D ++ [partP x j]).Pairwise apartP) (hn : mpP (D ++ [partP x j]) (x.1 + j) = none) :
    (D ++ [partP x (j + 1)]).Pairwise apartP ∧ ∀ q, mpP (D ++ [partP x (j + 1)]) q = updP (mpP (D ++ [partP x j])) (x.1 + j) (x.2.getD j 0) q := by
  rw [List.pairwise_append] at hd
  refine ⟨?_, fun q => ?_⟩
  · rw [List.pairwise_append]
    refine ⟨hd.1, by simp, fun d hd' y hy => ?_⟩
    rw [List.mem_singleton] at hy
    subst hy
    intro q hq
    have h1 := (part_cov (by omega)).1 hq.2
    by_cases hqe : q = x.1 + j
    · subst hqe
      have := mp_cov hn (List.mem_append_left _ hd')
      rw [this] at hq; cases hq.1
    · exact hd.2.2 d hd' (partP x j) (by simp) q ⟨hq.1, (part_cov (by omega)).2 (by omega)⟩
  · unfold updP
    rw [mp_append, mp_append]
    by_cases hqe : q = x.1 + j
    · subst hqe
      rw [if_pos rfl]
      have hD : mpP D (x.1 + j) = none := mp_none fun d hd' => mp_cov hn (List.mem_append_left _ hd')
      rw [hD, if_pos ((part_cov (by omega)).2 (by omega))]
      show some _ = _
      congr 1
      unfold byP partP
      dsimp only
      rw [show (x.1 + (j : Int) - x.1).toNat = j by omega, List.getD_eq_getElem?_getD, List.getD_eq_getElem?_getD, List.getElem?_take, if_pos (by omega)]
    · rw [if_neg hqe]
      congr 1
      by_cases hc : covP (partP x j) q = true
      · have h1 := (part_cov (by omega)).1 hc
        rw [if_pos hc, if_pos ((part_cov (by omega)).2 (by omega))]
        congr 1
        unfold byP partP
        dsimp only
        rw [List.getD_eq_getElem?_getD, List.getD_eq_getElem?_getD, List.getElem?_take, List.getElem?_take, if_pos (by omega), if_pos (by omega)]
      · rw [if_neg hc, if_neg]
        intro h2
        have h3 := (part_cov (by omega)).1 h2
        exact hc ((part_cov (by omega)).2 (by omega))
theorem part_begin {D : List Pb} {x : Pb} (hd : D.Pairwise apartP) : (D ++ [partP x 0]).Pairwise apartP ∧ ∀ q, mpP (D ++ [partP x 0]) q = mpP D q := by
  refine ⟨?_, fun q => mp_snoc (cov_empty (part_none x) q)⟩
  rw [List.pairwise_append]
  exact ⟨hd, by simp, fun d _ y hy => by rw [List.mem_singleton] at hy; subst hy; exact apart_empty (part_none x)⟩
/- a place that is said twice -/
theorem part_bad {D r : List Pb} {x : Pb} {j : Nat} (hj : j < x.2.length) (hn : mpP (D ++ [partP x j]) (x.1 + j) ≠ none) : ¬ ((D ++ x :: r).filter fullP).Pairwise apartP := by
  obtain ⟨d, hd, hc⟩ := mp_is hn
  have hx : covP x (x.1 + j) = true := cov_iff.2 ⟨by omega, by unfold endP; omega⟩
  rcases List.mem_append.1 hd with hd | hd
  · intro hp
    have hfd : fullP d = true := by
      unfold fullP
      apply decide_eq_true
      rcases Nat.eq_zero_or_pos d.2.length with h0 | h0
      · rw [cov_empty h0] at hc; cases hc
      · exact h0
    have hfx : fullP x = true := decide_eq_true (by omega)
    rw [List.filter_append, List.pairwise_append] at hp
    exact hp.2.2 d (List.mem_filter.2 ⟨hd, hfd⟩) x (List.mem_filter.2 ⟨by simp, hfx⟩) (x.1 + j) ⟨hc, hx⟩
  · rw [List.mem_singleton] at hd
    subst hd
    have := (part_cov (by omega)).1 hc
    omega
/- when all were laid -/
theorem merge_ok {L : List Pb} (hf : ∀ x ∈ L, fitP x = true) (hd : L.Pairwise apartP) : mergeP L = .ok (runsTo (mpP L) 65536) := by
  unfold mergeP
  rw [if_neg (by rintro ⟨x, hx, h⟩; rw [hf x hx] at h; cases h), if_pos (hd.filter _)]
  exact congrArg Except.ok (runs_congr _ fun p _ => mp_filter L p)
theorem merge_over {L : List Pb} (hf : ∀ x ∈ L, fitP x = true) (hd : ¬ (L.filter fullP).Pairwise apartP) : mergeP L = .error 194 := by
  unfold mergeP
  rw [if_neg (by rintro ⟨x, hx, h⟩; rw [hf x hx] at h; cases h), if_neg hd]
theorem merge_arg {L : List Pb} {x : Pb} (hx : x ∈ L) (h : fitP x = false) : mergeP L = .error 1 := by
  unfold mergeP
  rw [if_pos ⟨x, hx, h⟩]
end Go.Proofs.YtpemajghaceegaaGreatDoor
