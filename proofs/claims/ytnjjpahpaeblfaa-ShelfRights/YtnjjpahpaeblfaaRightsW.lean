/- The walk of ShelfRights: true for every note, and nothing that was there has changed. -/
import Derived.Test.YtnjjpahpaeblfaaAlive
import Derived.Test.YtnjjpahpaeblfaaOwnN
import Derived.Test.YtnjjpahpaeblfaaRefB
namespace Go.Proofs.Ytnjjpahpaeblfaa
open Go.RowKit Go.Maps Go.Sort
set_option linter.unusedVariables false

theorem right_agg (n : Nt) (hn : NtOk n) (a : Option Addr) (cap : Nat) (w : World) (hs : StrsAt w (.slice a n.leans.length cap) n.leans) : Calls Try.prog 12 #[.agg #[.string ⟨n.name.toArray⟩, .int .i64 n.words, .int .u32 n.sum, .slice a n.leans.length cap]] w fun e w' => e = .returned (.int .i64 (rightI n)) ∧ Below w.heap.size w w' := right_any n hn _ w hs

set_option maxRecDepth 100000 in
set_option maxHeartbeats 2000000 in
theorem rights_any (n : Nt) (hn : NtOk n) (a : Option Addr) (cap : Nat) (hcap : n.leans.length ≤ cap) (hcm : cap ≤ maxLen) (w : World) (hs : StrsAt w (.slice a n.leans.length cap) n.leans) :
    Calls Try.prog 4 #[.agg #[.string ⟨n.name.toArray⟩, .int .i64 n.words, .int .u32 n.sum, .slice a n.leans.length cap]] w fun e w' => e = .returned (.bool true) ∧ Below w.heap.size w w' := by
  have HN : Hid (NtOk n) := hn
  have HB : Hid (∀ o, Below w.heap.size w (w.alloc o)) := fun o => (Below.refl _ _).alloc (Nat.le_refl _) o
  have HS : Hid (∀ w', Below w.heap.size w w' → StrsAt w' (.slice a n.leans.length cap) n.leans) := fun w' hb => hs.below hb (Nat.le_refl _)
  have hrr : (rightI n == rightI n) = true := by simp
  clear hs
  go_enter Try.func4, Try.ntmps4
  go_wp2
  go_region_held (fun w' => w'.cell? ⟨w.heap.size, 0, none⟩ = some (.string ⟨n.name.toArray⟩) ∧ w'.cell? ⟨w.heap.size, 1, none⟩ = some (.int .i64 n.words) ∧ w'.cell? ⟨w.heap.size, 2, none⟩ = some (.int .u32 n.sum) ∧ w'.cell? ⟨w.heap.size, 3, none⟩ = some (.slice a n.leans.length cap)) (go_keep)
    (first
      | (go_at_call 13; refine (own_any n HN.out a cap _ (HS.out _ (below_drew (HB.out _)))).mono ?_; rintro e w3 ⟨a3, c3, rfl, hr3, _, hb3⟩; obtain ⟨hc3, hf3⟩ := bcell hb3; have HB3 : Hid (Below w.heap.size w w3) := (below_drew (HB.out _)).trans (hb3.mono (by simp)); have hs3 : w.heap.size < w3.heap.size := by { have := hb3.size; simp at this; omega }; have HS3 : Hid (StrsAt w3 (.slice a3 n.leans.length c3) n.leans) := StrsAt.of_row hr3; clear hb3 hr3)
      | (go_at_call 12; refine (right_agg n HN.out _ _ _ HS3.out).mono ?_; rintro e w4 ⟨rfl, hb4⟩; obtain ⟨hc4, hf4⟩ := bcell hb4; have HB4 : Hid (Below w.heap.size w w4) := HB3.out.trans (hb4.mono HB3.out.size); have hs4 : w.heap.size < w4.heap.size := Nat.lt_of_lt_of_le hs3 hb4.size; clear hb4)
      | (go_at_call 14; refine (refRight_any n HN.out a cap hcap hcm _ (HS.out _ HB4.out)).mono ?_; rintro e w5 ⟨rfl, hb5⟩; obtain ⟨hc5, hf5⟩ := bcell hb5; have HB5 : Hid (Below w.heap.size w w5) := HB4.out.trans (hb5.mono HB4.out.size); have hs5 : w.heap.size < w5.heap.size := Nat.lt_of_lt_of_le hs4 hb5.size; clear hb5)
      | (go_at_call 11; refine (alive_any _).mono ?_; rintro e w9 ⟨rfl, hb9⟩; obtain ⟨hc9, hf9⟩ := bcell hb9; have HB9 : Hid (Below w.heap.size w w9) := HB5.out.trans (hb9.mono HB5.out.size); clear hb9))
  all_goals
    go_wp2
    go_ret
    exact ⟨rfl, HB9.out⟩
end Go.Proofs.Ytnjjpahpaeblfaa
