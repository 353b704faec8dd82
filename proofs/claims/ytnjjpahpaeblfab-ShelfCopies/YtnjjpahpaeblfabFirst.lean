/- What first of the statements answers: the place of the first right note with a name. -/
import Derived.Test.YtnjjpahpaeblfabRefB
import Derived.Test.YtnjjpahpaeblfabNe
import Derived.Test.YtnjjpahpaeblfabAlive
namespace Go.Proofs.Ytnjjpahpaeblfab
open Go.RowKit Go.Maps Go.Sort
set_option linter.unusedVariables false

def goodE (x : List UInt8) (e : Ne) : Bool := e.n.name == x && rightI e.n == 0
def firstI (L : List Ne) (x : List UInt8) : Int := match L.findIdx? (goodE x) with | some k => k | none => -1
theorem getD_ne {L : List Ne} {k : Nat} (h : k < L.length) : L.getD k ne0 = L[k] := by rw [List.getD, List.getElem?_eq_getElem h]; rfl
theorem firstI_at {L : List Ne} {x : List UInt8} {k : Nat} (hk : k < L.length) (hg : goodE x (L.getD k ne0) = true) (hb : ∀ j, j < k → goodE x (L.getD j ne0) = false) : firstI L x = k := by
  have : L.findIdx? (goodE x) = some k := by
    rw [List.findIdx?_eq_some_iff_getElem]
    refine ⟨hk, by rw [← getD_ne hk]; exact hg, fun j hj => ?_⟩
    have := hb j hj
    rw [getD_ne (by omega)] at this
    simp [this]
  unfold firstI
  rw [this]
theorem firstI_none {L : List Ne} {x : List UInt8} (hb : ∀ j, j < L.length → goodE x (L.getD j ne0) = false) : firstI L x = -1 := by
  have : L.findIdx? (goodE x) = none := by
    rw [List.findIdx?_eq_none_iff]
    intro e he
    obtain ⟨j, hj, rfl⟩ := List.mem_iff_getElem.1 he
    rw [← getD_ne hj]; exact hb j hj
  unfold firstI
  rw [this]

set_option maxRecDepth 100000 in
set_option maxHeartbeats 1000000 in
theorem first_any (L : List Ne) (x : List UInt8) (a : Option Addr) (cap : Nat) (w : World) (hL : NotesAt w (.slice a L.length cap) L) :
    Calls Try.prog 13 #[.slice a L.length cap, .string ⟨x.toArray⟩] w fun e w' => e = .returned (.int .i64 (firstI L x)) ∧ Below w.heap.size w w' := by
  have hlen := hL.2.1
  have HL : Hid (∀ w', Below w.heap.size w w' → NotesAt w' (.slice a L.length cap) L) := fun w' hb => hL.below hb (Nat.le_refl _)
  clear hL
  go_enter Try.func13, Try.ntmps13
  go_wp2_with fail
  go_loopw [5] (fun i wr => ∃ k : Nat, k ≤ L.length ∧ i = .int .i64 k ∧ (∀ j, j < k → goodE x (L.getD j ne0) = false) ∧ Below w.heap.size w wr) (fun i _ => L.length - (intOf i).toNat)
  case atStart => exact ⟨0, Nat.zero_le _, rfl, fun j hj => by omega, Below.refl _ _⟩
  case round =>
    obtain ⟨k, hk, rfl, hno, hnx⟩ := hrel
    have HNO := hidIt hno
    have HNX := hidIt hnx
    have hszn := hnx.size
    clear hno
    by_cases hlt : k < L.length
    · have hNL := HL.out wr hnx
      have hok := hNL.2.2 _ (mem_getD1 hlt)
      rcases hNL.1 with ⟨h0, _⟩ | ⟨g, off, cap', hsl, hg, hcl⟩
      · rw [h0] at hlt; exact absurd hlt (by simp)
      cases hsl
      obtain ⟨hc0, hc1, hc2, hc3⟩ := hcl k hlt
      have hki : (k : Int) < L.length := by omega
      have HYES : Hid (goodE x (L.getD k ne0) = true → firstI L x = k) := fun h => firstI_at hlt h HNO.out
      have HNEXT : Hid (goodE x (L.getD k ne0) = false → ∀ j, j < k + 1 → goodE x (L.getD j ne0) = false) := fun h j hj => by
        by_cases e : j = k
        · subst e; exact h
        · exact HNO.out j (by omega)
      clear hcl hNL hnx
      have HG : Hid (∀ c d, ((L.getD k ne0).n.name == x) = c → (rightI (L.getD k ne0).n == 0) = d → goodE x (L.getD k ne0) = (c && d)) := fun c d h1 h2 => by rw [← h1, ← h2]; rfl
      have H12 := hidIt (refRight_any (L.getD k ne0).n hok.ok _ _ hok.le hok.max wr hok.at_)
      clear hok
      generalize goodE x (L.getD k ne0) = gb at *
      generalize hy : L.getD k ne0 = y at *
      generalize hri : rightI y.n = ri at *
      cases hb1 : (y.n.name == x) with
      | false =>
        have HB := hidIt (HG.out false _ hb1 rfl)
        go_wp2
        go_roundw
        case rel => exact ⟨k + 1, by omega, by go_num, HNEXT.out (by rw [HB.out]; rfl), HNX.out⟩
        case measure => simp [intOf]; omega
      | true =>
        cases hb2 : (ri == 0) with
        | false =>
          have HB := hidIt (HG.out true false hb1 hb2)
          go_wp2_with (go_at_call 12; refine H12.out.mono ?_; rintro e w2 ⟨rfl, hb3⟩)
          go_roundw
          case rel => exact ⟨k + 1, by omega, by go_num, HNEXT.out (by rw [HB.out]; rfl), HNX.out.trans (hb3.mono hszn)⟩
          case measure => simp [intOf]; omega
        | true =>
          have HB := hidIt (HG.out true true hb1 hb2)
          go_wp2_with (go_at_call 12; refine H12.out.mono ?_; rintro e w2 ⟨rfl, hb3⟩)
          go_ret
          exact ⟨by rw [HYES.out (by rw [HB.out]; rfl)]; rfl, HNX.out.trans (hb3.mono hszn)⟩
    · have hkl : k = L.length := by omega
      have hd : ¬ (k : Int) < L.length := by omega
      have HE : Hid (firstI L x = -1) := firstI_none (fun j hj => HNO.out j (by omega))
      clear hkl
      go_wp2
      go_ret
      exact ⟨by rw [HE.out]; rfl, HNX.out⟩
end Go.Proofs.Ytnjjpahpaeblfab
