/- Texts of one proof, one behind the other. -/
import Derived.Test.YtgmbkelmgolkpaaDoorGe
/- What the law's own has answers. -/
namespace Go.Proofs.YtgmbkelmgolkpaaDoor
open Go.RowKit
set_option linter.unusedVariables false

set_option maxRecDepth 100000 in
set_option maxHeartbeats 800000 in
theorem lawHas_any (l : List Int) (hl : l.length ≤ 9223372036854775806) (x : Int) (v : Value) (w : World) (hv : IlAt w v l) : Calls Tryd.prog 33 #[v, .int .i64 x] w fun e w' => e = .returned (.bool (l.contains x)) ∧ Below w.heap.size w w' := by
  obtain ⟨a, c, rfl, hc1, hc2, hcell⟩ := hv
  have HCE := hidD hcell
  have HYES : Hid (∀ k, k < l.length → l.getD k 0 = x → l.contains x = true) := fun k hk he => by
    rw [List.contains_iff_mem, ← he, List.getD_eq_getElem?_getD, List.getElem?_eq_getElem hk]
    exact List.getElem_mem hk
  have HNO : Hid ((∀ k, k < l.length → l.getD k 0 ≠ x) → l.contains x = false) := fun h => by
    cases hc : l.contains x with
    | false => rfl
    | true =>
      rw [List.contains_iff_mem] at hc
      obtain ⟨k, hk, he⟩ := List.getElem_of_mem hc
      exact absurd (by rw [List.getD_eq_getElem?_getD, List.getElem?_eq_getElem hk]; exact he) (h k hk)
  clear hcell
  generalize l.contains x = R at *
  generalize l.length = n at *
  go_enter Tryd.func33, Tryd.ntmps33
  go_wp2_with fail
  go_loopw [5] (fun i wr => ∃ k : Nat, k ≤ n ∧ i = .int .i64 (k : Int) ∧ wr = w ∧ ∀ j, j < k → l.getD j 0 ≠ x) (fun i _ => n - (intOf i).toNat)
  case atStart => exact ⟨0, Nat.zero_le _, rfl, rfl, fun j hj => absurd hj (Nat.not_lt_zero _)⟩
  case round =>
    obtain ⟨k, hk, rfl, hw, hall⟩ := hrel
    subst wr
    have HALL := hidD hall
    clear hall
    by_cases hlt : k < n
    · have hlti : (k : Int) < (n : Int) := by omega
      obtain ⟨g, o, rfl, hg, hcl⟩ := HCE.out k hlt
      have HY := hidD (HYES.out k hlt)
      have HNE : Hid (l.getD k 0 ≠ x → ∀ j, j < k + 1 → l.getD j 0 ≠ x) := fun hne j hj => by
        by_cases e : j = k
        · rw [e]; exact hne
        · exact HALL.out j (by omega)
      clear HYES HNO HCE
      generalize l.getD k 0 = y at *
      by_cases he : y = x
      · have HR := hidD (HY.out he)
        subst he
        go_wp2_with fail
        refine bodyPost_ret (v := .bool true) (by simp [results, Tryd.results33, go_sem]) rfl ?_
        exact ⟨by rw [HR.out], Below.refl _ _⟩
      · have HN := hidD (HNE.out he)
        have hed : decide (y = x) = false := decide_eq_false he
        clear HNE
        go_wp2_with fail
        go_roundw
        case rel => exact ⟨k + 1, by omega, by go_num, by first | rfl | trivial, HN.out⟩
        case measure => simp [intOf]; omega
    · obtain rfl : k = n := by omega
      have HR := hidD (HNO.out HALL.out)
      go_wp2_with fail
      refine bodyPost_ret (v := .bool false) (by simp [results, Tryd.results33, go_sem]) rfl ?_
      exact ⟨by rw [HR.out], Below.refl _ _⟩
end Go.Proofs.YtgmbkelmgolkpaaDoor
/- What the law's own within answers. -/
namespace Go.Proofs.YtgmbkelmgolkpaaDoor
open Go.RowKit
set_option linter.unusedVariables false

/-- Is each of the first ones among the second ones? -/
def subL (a b : List Int) : Bool := a.all fun x => b.contains x
theorem sub_yes {a b : List Int} (h : ∀ k, k < a.length → b.contains (a.getD k 0) = true) : subL a b = true := by
  rw [subL, List.all_eq_true]
  intro x hx
  obtain ⟨q, hq, he⟩ := List.mem_iff_getElem.1 hx
  have := h q hq
  rwa [List.getD_eq_getElem?_getD, List.getElem?_eq_getElem hq, Option.getD_some, he] at this
theorem sub_no {a b : List Int} {k : Nat} (hk : k < a.length) (h : b.contains (a.getD k 0) = false) : subL a b = false := by
  cases ha : subL a b with
  | false => rfl
  | true =>
    rw [subL, List.all_eq_true] at ha
    have := ha (a.getD k 0) (by rw [List.getD_eq_getElem?_getD, List.getElem?_eq_getElem hk]; exact List.getElem_mem hk)
    rw [h] at this; cases this
set_option maxRecDepth 100000 in
set_option maxHeartbeats 800000 in
theorem within_any (a b : List Int) (ha : a.length ≤ 9223372036854775806) (hb : b.length ≤ 9223372036854775806) (u v : Value) (w : World) (hu : IlAt w u a) (hv : IlAt w v b) : Calls Tryd.prog 36 #[u, v] w fun e w' => e = .returned (.bool (subL a b)) ∧ Below w.heap.size w w' := by
  have HHS := hidD (fun x w' (h : Below w.heap.size w w') => lawHas_any b hb x v w' (hv.next h))
  obtain ⟨au, cu, rfl, hc1, hc2, hcell⟩ := hu
  have HCE := hidD hcell
  have HYES := hidD (sub_yes (a := a) (b := b))
  have HNO : Hid (∀ k, k < a.length → b.contains (a.getD k 0) = false → subL a b = false) := fun k hk h => sub_no hk h
  obtain ⟨av, cv, rfl, _, _, _⟩ := hv
  clear hcell
  generalize subL a b = S at *
  generalize a.length = n at *
  generalize b.length = m at *
  go_enter Tryd.func36, Tryd.ntmps36
  go_wp2_with fail
  go_loopw [5] (fun i wr => ∃ k : Nat, k ≤ n ∧ i = .int .i64 (k : Int) ∧ (∀ j, j < k → b.contains (a.getD j 0) = true) ∧ Below w.heap.size w wr) (fun i _ => n - (intOf i).toNat)
  case atStart => exact ⟨0, Nat.zero_le _, rfl, fun j hj => absurd hj (Nat.not_lt_zero _), Below.refl _ _⟩
  case round =>
    obtain ⟨k, hk, rfl, hall, hbel⟩ := hrel
    have HALL := hidD hall
    have HBW := hidD hbel
    by_cases hlt : k < n
    · have hlti : (k : Int) < (n : Int) := by omega
      obtain ⟨g, o, rfl, hg, h0⟩ := HCE.out k hlt
      have f0 : wr.cell? ⟨g, o + k, none⟩ = some (.int .i64 (a.getD k 0)) := (hbel.cell (p := ⟨g, o + k, none⟩) hg).trans h0
      have HK := hidD (HHS.out (a.getD k 0) wr hbel)
      have HN := hidD (HNO.out k hlt)
      have HST : Hid (b.contains (a.getD k 0) = true → ∀ j, j < k + 1 → b.contains (a.getD j 0) = true) := fun h j hj => by
        by_cases hjk : j = k
        · rw [hjk]; exact h
        · exact HALL.out j (by omega)
      clear hall hbel h0
      generalize a.getD k 0 = x at *
      cases hb : b.contains x with
      | true =>
        rw [hb] at HK
        have HS := hidD (HST.out hb)
        clear hb
        go_wp2_with (go_at_call 33; refine HK.out.mono ?_; rintro e w2 ⟨rfl, hb2⟩; have HB2 := hidD (Below.next HBW.out hb2); clear hb2)
        go_roundw
        case rel => exact ⟨k + 1, by omega, by go_num, HS.out, HB2.out⟩
        case measure => simp [intOf]; omega
      | false =>
        rw [hb] at HK
        have HF := hidD (HN.out hb)
        clear hb
        go_wp2_with (go_at_call 33; refine HK.out.mono ?_; rintro e w2 ⟨rfl, hb2⟩; have HB2 := hidD (Below.next HBW.out hb2); clear hb2)
        go_ret
        exact ⟨by rw [HF.out]; rfl, HB2.out⟩
    · obtain rfl : k = n := by omega
      have HT := hidD (HYES.out HALL.out)
      go_wp2_with fail
      go_ret
      exact ⟨by rw [HT.out]; rfl, HBW.out⟩
end Go.Proofs.YtgmbkelmgolkpaaDoor
