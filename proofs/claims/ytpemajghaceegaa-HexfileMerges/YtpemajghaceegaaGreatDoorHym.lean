/- Plain facts: what joining of rising segments is. -/
import Derived.Test.YtpemajghaceegaaGreatDoorHyl
namespace Go.Proofs.YtpemajghaceegaaGreatDoor
set_option linter.unusedVariables false

def JI (D R : List Pb) (e : Int) : Prop := D.Pairwise apartP ∧ (∀ d ∈ D, 0 ≤ d.1 ∧ endP d ≤ e) ∧ R = runsTo (mpP D) e.toNat ∧
  ((D = [] ∧ e = -1) ∨ (∃ d ∈ D, endP d = e ∧ 0 < d.2.length) ∧ ∃ R0 m, R = R0 ++ [m])
theorem mp_snoc {D : List Pb} {x : Pb} {p : Int} (h : covP x p = false) : mpP (D ++ [x]) p = mpP D p := by
  unfold mpP
  rw [List.find?_append, List.find?_cons_of_neg (p := (covP · p)) (by rw [h]; simp), List.find?_nil, Option.or_none]
theorem apart_before {d x : Pb} (h : endP d ≤ x.1) : apartP d x := fun p hp => by
  have h1 := cov_iff.1 hp.1
  have h2 := cov_iff.1 hp.2
  omega
theorem pair_snoc {D : List Pb} {x : Pb} (hd : D.Pairwise apartP) (h : ∀ d ∈ D, endP d ≤ x.1) : (D ++ [x]).Pairwise apartP := by
  rw [List.pairwise_append]
  exact ⟨hd, by simp, fun d hd x' hx => by rw [List.mem_singleton] at hx; subst hx; exact apart_before (h d hd)⟩
theorem join_runs : ∀ (rest D R : List Pb) (e : Int), JI D R e → rest.Pairwise (fun x y => x.1 ≤ y.1) → (∀ d ∈ D, ∀ x ∈ rest, d.1 ≤ x.1) → (∀ x ∈ rest, 0 ≤ x.1 ∧ endP x ≤ 65536 ∧ 0 < x.2.length) → e ≤ 65536 →
    ((D ++ rest).Pairwise apartP → joinG R e rest = some (runsTo (mpP (D ++ rest)) 65536)) ∧ (¬ (D ++ rest).Pairwise apartP → joinG R e rest = none)
  | [], D, R, e, hj, _, _, _, he => by
    obtain ⟨h1, h2, h3, h4⟩ := hj
    rw [List.append_nil]
    refine ⟨fun _ => ?_, fun h => absurd h1 h⟩
    show some R = _
    rw [h3, runs_gap (a := e.toNat) 65536 (by omega)]
    intro p hp1 hp2
    refine mp_none fun d hd => ?_
    have := (h2 d hd).2
    unfold covP
    rw [decide_eq_false (p := (p : Int) < endP d) (by omega), Bool.and_false]
  | x :: r, D, R, e, hj, hs, hdx, hx, he => by
    obtain ⟨h1, h2, h3, h4⟩ := hj
    rw [List.pairwise_cons] at hs
    obtain ⟨x0, x1, x2⟩ := hx x (by simp)
    have hcx : covP x x.1 = true := cov_iff.2 ⟨Int.le_refl _, by unfold endP; omega⟩
    rw [joinG]
    by_cases c1 : x.1 < e
    · rw [if_pos c1]
      refine ⟨fun h => ?_, fun _ => rfl⟩
      rcases h4 with ⟨_, h4⟩ | ⟨⟨d, hd, h5, h6⟩, _⟩
      · omega
      · rw [List.pairwise_append] at h
        exact absurd ⟨cov_iff.2 ⟨hdx d hd x (by simp), by omega⟩, hcx⟩ (h.2.2 d hd x (by simp) x.1)
    · rw [if_neg c1]
      have hap : ∀ d ∈ D, endP d ≤ x.1 := fun d hd => by have := (h2 d hd).2; omega
      have hD' := pair_snoc h1 hap
      have hex : endP x = x.1 + x.2.length := rfl
      have hcov : ∀ k, k < x.2.length → mpP (D ++ [x]) ((x.1.toNat + k : Nat) : Int) = some (x.2.getD k 0) := fun k hk => by
        rw [mp_some hD' (List.mem_append_right _ (List.mem_singleton.2 rfl)) (cov_iff.2 ⟨by omega, by omega⟩)]
        unfold byP
        rw [show (((x.1.toNat + k : Nat) : Int) - x.1).toNat = k by omega]
      have hbelow : ∀ p : Nat, p < x.1.toNat → mpP (D ++ [x]) p = mpP D p := fun p hp => mp_snoc (by
        unfold covP; rw [decide_eq_false (p := x.1 ≤ (p : Int)) (by omega), Bool.false_and])
      have hgo : ∀ R', JI (D ++ [x]) R' (x.1 + x.2.length) → ((D ++ x :: r).Pairwise apartP → joinG R' (x.1 + x.2.length) r = some (runsTo (mpP (D ++ x :: r)) 65536)) ∧ (¬ (D ++ x :: r).Pairwise apartP → joinG R' (x.1 + x.2.length) r = none) := fun R' hR' => by
        have := join_runs r (D ++ [x]) R' (x.1 + x.2.length) hR' hs.2 (fun d hd y hy => by
          rcases List.mem_append.1 hd with hd | hd
          · exact hdx d hd y (List.mem_cons_of_mem _ hy)
          · rw [List.mem_singleton] at hd; subst hd; exact hs.1 y hy) (fun y hy => hx y (List.mem_cons_of_mem _ hy)) (by omega)
        rwa [List.append_assoc] at this
      have hends : ∀ d ∈ D ++ [x], 0 ≤ d.1 ∧ endP d ≤ x.1 + x.2.length := fun d hd => by
        rcases List.mem_append.1 hd with hd | hd
        · have := h2 d hd; have := hap d hd; omega
        · rw [List.mem_singleton] at hd; subst hd; exact ⟨x0, Int.le_refl _⟩
      by_cases c2 : e < x.1
      · rw [if_pos c2]
        refine hgo _ ⟨hD', hends, ?_, .inr ⟨⟨x, by simp, rfl, x2⟩, R, x, rfl⟩⟩
        have hR : runsTo (mpP (D ++ [x])) x.1.toNat = R := by
          rw [runs_congr _ hbelow, h3]
          refine runs_gap _ (by omega) fun p hp1 hp2 => mp_none fun d hd => ?_
          have := (h2 d hd).2
          unfold covP
          rw [decide_eq_false (p := (p : Int) < endP d) (by omega), Bool.and_false]
        have hn := runs_new (f := mpP (D ++ [x])) (a := x.1.toNat) x2 (by
          by_cases h0 : x.1.toNat = 0
          · exact .inl h0
          · refine .inr (mp_none fun d hd => ?_)
            unfold covP
            rcases List.mem_append.1 hd with hd | hd
            · have := (h2 d hd).2
              rw [decide_eq_false (p := (x.1.toNat : Int) - 1 < endP d) (by omega), Bool.and_false]
            · rw [List.mem_singleton] at hd; subst hd
              rw [decide_eq_false (p := d.1 ≤ (d.1.toNat : Int) - 1) (by omega), Bool.false_and]) hcov (x.2.length - 1) (by omega)
        rw [show (x.1 + (x.2.length : Int)).toNat = x.1.toNat + (x.2.length - 1) + 1 by omega, hn, hR, show x.2.length - 1 + 1 = x.2.length by omega, List.take_length, show (x.1.toNat : Int) = x.1 by omega]
      · rw [if_neg c2]
        rcases h4 with ⟨_, h4⟩ | ⟨⟨d, hd, h5, h6⟩, R0, m, hm⟩
        · omega
        · have hee : e = x.1 := by omega
          have hd0 := (h2 d hd).1
          have hR : runsTo (mpP (D ++ [x])) x.1.toNat = R0 ++ [m] := by
            rw [runs_congr _ hbelow, ← hm, h3, hee]
          have hmo := runs_more (f := mpP (D ++ [x])) (a := x.1.toNat) (l := x.2) (by unfold endP at h5; omega) hR (by
            have hc : covP d ((x.1.toNat : Int) - 1) = true := cov_iff.2 ⟨by unfold endP at h5; omega, by omega⟩
            rw [mp_some hD' (List.mem_append_left _ hd) hc]; simp) hcov x.2.length (Nat.le_refl _)
          rw [hm, addL_snoc]
          refine hgo _ ⟨hD', hends, ?_, .inr ⟨⟨x, by simp, rfl, x2⟩, _, _, rfl⟩⟩
          rw [show (x.1 + (x.2.length : Int)).toNat = x.1.toNat + x.2.length by omega, hmo, List.take_length]
theorem join_all (L : List Pb) (hs : L.Pairwise (fun x y => x.1 ≤ y.1)) (hx : ∀ x ∈ L, 0 ≤ x.1 ∧ endP x ≤ 65536 ∧ 0 < x.2.length) :
    (L.Pairwise apartP → joinG [] (-1) L = some (runsTo (mpP L) 65536)) ∧ (¬ L.Pairwise apartP → joinG [] (-1) L = none) := by
  have := join_runs L [] [] (-1) ⟨List.Pairwise.nil, fun d hd => (by cases hd), rfl, .inl ⟨rfl, rfl⟩⟩ hs (fun d hd => by cases hd) hx (by omega)
  simpa using this
/- what Merge tells of places with their bytes -/
def fitP (x : Pb) : Bool := decide (0 ≤ x.1) && decide (x.1 ≤ 65536 - x.2.length)
def fullP (x : Pb) : Bool := decide (0 < x.2.length)
open Classical in
noncomputable def mergeP (L : List Pb) : Except Int (List Pb) :=
  if ∃ x ∈ L, fitP x = false then .error 1 else if (L.filter fullP).Pairwise apartP then .ok (runsTo (mpP (L.filter fullP)) 65536) else .error 194
end Go.Proofs.YtpemajghaceegaaGreatDoor
