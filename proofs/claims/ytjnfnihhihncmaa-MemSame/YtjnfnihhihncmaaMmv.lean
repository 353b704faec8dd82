/- What Same of two memories answers. -/
import Derived.Test.YtjnfnihhihncmaaMmu
import Derived.Test.YtjnfnihhihncmaaQuietB
namespace Go.Proofs.Ytjnfnihhihncmaa
open Go.RowKit
set_option linter.unusedVariables false

set_option maxRecDepth 100000 in
set_option maxHeartbeats 3200000 in
theorem same_any {w : World} {k k' : Mk} {Z Z' : Nat → Nat × Nat} {x y x' y' : Int} (h : MeAt w k Z x y) (h' : MeAt w k' Z' x' y') (b : Bool) (hb : b = true ↔ k.R = k'.R ∧ ∀ i, i < 65536 → Z i = Z' i) :
    Calls Try.prog 15 #[.pointer (some ⟨k.m, 0, none⟩), .pointer (some ⟨k'.m, 0, none⟩)] w fun e w' => e = .returned (.bool b) ∧ Below w.heap.size w w' := by
  have HM := hidD h
  have HM' := hidD h'
  have q0 : ∀ i : BW w, i.v.cell? ⟨k.m, 0, none⟩ = some (.slice k.va k.R.length k.rc) := fun i => (i.cell HM.out.lt.1).trans HM.out.cells.1
  have q1 : ∀ i : BW w, i.v.cell? ⟨k'.m, 0, none⟩ = some (.slice k'.va k'.R.length k'.rc) := fun i => (i.cell HM'.out.lt.1).trans HM'.out.cells.1
  have q2 : ∀ i : BW w, i.v.cell? ⟨k.m, 2, none⟩ = some (.slice (some ⟨k.c, 0, none⟩) 65536 65536) := fun i => (i.cell HM.out.lt.1).trans HM.out.cells.2.2.1
  have q3 : ∀ i : BW w, i.v.cell? ⟨k'.m, 2, none⟩ = some (.slice (some ⟨k'.c, 0, none⟩) 65536 65536) := fun i => (i.cell HM'.out.lt.1).trans HM'.out.cells.2.2.1
  have hl64 : k.R.length ≤ 64 := h.ok.2.2.2.2.2
  by_cases hr : k.R = k'.R
  · have HE1 : Hid (∀ i : BW w, Calls Try.prog 46 #[.slice k.va k.R.length k.rc, .slice k'.va k'.R.length k'.rc] i.v fun e w' => e = .returned (.bool true) ∧ Below i.v.heap.size i.v w') := fun i => eqRg_any (HM.out.next i.below).rsw (HM'.out.next i.below).rsw (by omega) true (iff_of_true rfl hr)
    have HE2 : Hid (∀ i : BW w, Calls Try.prog 47 #[.slice (some ⟨k.c, 0, none⟩) 65536 65536, .slice (some ⟨k'.c, 0, none⟩) 65536 65536] i.v fun e w' => e = .returned (.bool b) ∧ Below i.v.heap.size i.v w') := fun i => eqWd_any (HM.out.next i.below).ce (HM'.out.next i.below).ce b (hb.trans ⟨fun h => h.2, fun h => ⟨hr, h⟩⟩)
    clear h h' hb hr hl64
    go_enter Try.func15, Try.ntmps15
    go_wp2_with fail
    refine wp_region_below (by kernel_rfl) (by kernel_rfl) ?_
    repeat (go_big_quiet_step (first | (go_at_call 46; exact Calls.below_of (HE1.out _)) | (go_at_call 47; exact Calls.below_of (HE2.out _))))
    refine wpQuiet_nil ?_
    intro i
    have HBI := hidD i.below
    go_wp2_with fail
    go_ret
    exact ⟨rfl, HBI.out⟩
  · have HE1 : Hid (∀ i : BW w, Calls Try.prog 46 #[.slice k.va k.R.length k.rc, .slice k'.va k'.R.length k'.rc] i.v fun e w' => e = .returned (.bool false) ∧ Below i.v.heap.size i.v w') := fun i => eqRg_any (HM.out.next i.below).rsw (HM'.out.next i.below).rsw (by omega) false (iff_of_false (by decide) hr)
    have hb0 : b = false := by
      cases b with
      | false => rfl
      | true => exact absurd (hb.1 rfl).1 hr
    subst hb0
    clear h h' hb hr hl64
    go_enter Try.func15, Try.ntmps15
    go_wp2_with fail
    refine wp_region_below (by kernel_rfl) (by kernel_rfl) ?_
    repeat (go_big_quiet_step ((go_at_call 46; exact Calls.below_of (HE1.out _))))
    refine wpQuiet_nil ?_
    intro i
    have HBI := hidD i.below
    go_wp2_with fail
    go_ret
    exact ⟨rfl, HBI.out⟩
end Go.Proofs.Ytjnfnihhihncmaa
