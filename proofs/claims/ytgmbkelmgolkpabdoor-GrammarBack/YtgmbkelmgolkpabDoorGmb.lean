/- What Nullable and First answer. -/
import Derived.Test.YtgmbkelmgolkpabDoorGma
namespace Go.Proofs.YtgmbkelmgolkpabDoor
open Go.RowKit
set_option linter.unusedVariables false

set_option maxRecDepth 100000 in
theorem nullable_nil (v : Value) (w : World) : Calls Tryd.prog 12 #[.pointer none, v] w fun e w' => e = .returned (.bool false) ∧ w' = w := by
  go_enter Tryd.func12, Tryd.ntmps12
  go_wp2_with fail
  go_ret
  exact ⟨rfl, rfl⟩
/-- Can a symbol be nothing? -/
def nulS (G : Gs) (x : Int) : Bool := hasS G x && G.nul.testBit x.toNat
theorem has_nat {G : Gs} {x : Int} (h : hasS G x = true) : ∃ s : Nat, x = (s : Int) ∧ s < G.n := by
  unfold hasS at h
  simp only [Bool.and_eq_true, decide_eq_true_eq] at h
  exact ⟨x.toNat, by omega, by omega⟩
set_option maxRecDepth 100000 in
set_option maxHeartbeats 1600000 in
theorem nullable_any {p : Nat} {G : Gs} (l : List Int) (hl : l.length ≤ 9223372036854775806) (v : Value) (w : World) (h : GmAt w p G) (hv : IlAt w v l) : Calls Tryd.prog 12 #[.pointer (some ⟨p, 0, none⟩), v] w fun e w' => e = .returned (.bool (l.all (nulS G))) ∧ Below w.heap.size w w' := by
  have HG := hidD h
  obtain ⟨a, c, rfl, hc1, hc2, hcell⟩ := hv
  have HCE := hidD hcell
  have HT : Hid ((∀ k, k < l.length → nulS G (l.getD k 0) = true) → l.all (nulS G) = true) := fun h => by
    rw [List.all_eq_true]
    intro x hx
    obtain ⟨i, hi, he⟩ := List.mem_iff_getElem.1 hx
    have := h i hi
    rwa [List.getD_eq_getElem?_getD, List.getElem?_eq_getElem hi, Option.getD_some, he] at this
  have HF : Hid (∀ k, k < l.length → nulS G (l.getD k 0) = false → l.all (nulS G) = false) := fun k hk h => by
    cases ha : l.all (nulS G) with
    | false => rfl
    | true =>
      rw [List.all_eq_true] at ha
      have := ha (l.getD k 0) (by rw [List.getD_eq_getElem?_getD, List.getElem?_eq_getElem hk]; exact List.getElem_mem hk)
      rw [h] at this; cases this
  have hn := h.few
  have htop := h.cnul.top
  have HHA := hidD (fun (x : Int) w' (h : GmAt w' p G) => has_any x w' h)
  have HHS := hidD (fun s hs w' => setHas_any G.nul htop s hs w')
  have HNU : Hid (∀ x, nulS G x = (hasS G x && G.nul.testBit x.toNat)) := fun x => rfl
  have HHN := hidD (fun x => has_nat (G := G) (x := x))
  unfold setV at HHS
  have HC0 : Hid (∀ w', GmAt w' p G → w'.cell? ⟨p, 5, none⟩ = some (.int .u64 (lw G.nul : Int)) ∧ w'.cell? ⟨p, 6, none⟩ = some (.int .u64 (hw G.nul : Int))) := fun w' h => ⟨h.cnul.c0, h.cnul.c1⟩
  clear hcell h
  generalize lw G.nul = a0 at *
  generalize hw G.nul = b0 at *
  generalize l.length = n at *
  go_enter Tryd.func12, Tryd.ntmps12
  go_wp2_with fail
  go_loopw [11] (fun i wr => ∃ k : Nat, k ≤ n ∧ i = .int .i64 k ∧ (∀ j, j < k → nulS G (l.getD j 0) = true) ∧ Below w.heap.size w wr) (fun i _ => n - (intOf i).toNat)
  case atStart => exact ⟨0, Nat.zero_le _, rfl, fun j hj => absurd hj (by omega), Below.refl _ _⟩
  case round =>
    obtain ⟨k, hk, rfl, hok, hbel⟩ := hrel
    have HOK := hidD hok
    have HBW := hidD hbel
    clear hok
    by_cases hlt : k < n
    · have hlti : (k : Int) < n := by omega
      obtain ⟨gl, ol, rfl, hgl, hcl⟩ := HCE.out k hlt
      have f1 : wr.cell? ⟨gl, ol + k, none⟩ = some (.int .i64 (l.getD k 0)) := (hbel.cell (p := ⟨gl, ol + k, none⟩) hgl).trans hcl
      have HGW := hidD (HG.out.next hbel)
      obtain ⟨f2, f3⟩ := HC0.out _ HGW.out
      have HHK := hidD (HHA.out (l.getD k 0) wr HGW.out)
      have HNK := hidD (HNU.out (l.getD k 0))
      have HFK := hidD (HF.out k hlt)
      clear hbel hcl
      cases hh : hasS G (l.getD k 0) with
      | false =>
        rw [hh] at HHK HNK
        have HR := hidD (HFK.out HNK.out)
        generalize l.getD k 0 = x at *
        clear hh
        go_wp2_with (go_at_call 35; refine HHK.out.mono ?_; rintro e w2 ⟨rfl, hw⟩; subst w2)
        go_ret
        exact ⟨by rw [HR.out]; rfl, HBW.out⟩
      | true =>
        obtain ⟨s, hs, hsn⟩ := HHN.out _ hh
        have HSK := hidD (fun w' => HHS.out s (by omega) w')
        rw [hh, hs, Int.toNat_natCast, Bool.true_and] at HNK
        rw [hs] at f1 HHK HFK
        rw [show hasS G (s : Int) = true by rw [← hs]; exact hh] at HHK
        cases hb : G.nul.testBit s with
        | true =>
          rw [hb] at HNK HSK
          have HN2 : Hid (nulS G (l.getD k 0) = true) := by show _ = _; rw [hs]; exact HNK.out
          clear hh hb hs
          go_wp2_with (first
            | (go_at_call 35; refine HHK.out.mono ?_; rintro e w2 ⟨rfl, hw⟩; subst w2)
            | (go_at_call 34; refine (HSK.out _).mono ?_; rintro e w3 ⟨rfl, hb3⟩; have HB3 := hidD (Below.next HBW.out hb3); clear hb3))
          go_roundw
          case rel => exact ⟨k + 1, by omega, by go_num, fun j hj => by
            by_cases h : j = k
            · rw [h]; exact HN2.out
            · exact HOK.out j (by omega), HB3.out⟩
          case measure => simp [intOf]; omega
        | false =>
          rw [hb] at HNK HSK
          have HR := hidD (HFK.out HNK.out)
          clear hh hb hs
          go_wp2_with (first
            | (go_at_call 35; refine HHK.out.mono ?_; rintro e w2 ⟨rfl, hw⟩; subst w2)
            | (go_at_call 34; refine (HSK.out _).mono ?_; rintro e w3 ⟨rfl, hb3⟩; have HB3 := hidD (Below.next HBW.out hb3); clear hb3))
          go_ret
          exact ⟨by rw [HR.out]; rfl, HB3.out⟩
    · obtain rfl : k = n := by omega
      have HR := hidD (HT.out HOK.out)
      clear hbel
      go_wp2_with fail
      go_ret
      exact ⟨by rw [HR.out]; rfl, HBW.out⟩
end Go.Proofs.YtgmbkelmgolkpabDoor
