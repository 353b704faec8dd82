/- What Show of the document answers, whatever it is given. -/
import Derived.Test.YtmmlmpcalhfigaaDoorShow
namespace Go.Proofs.YtmmlmpcalhfigaaDoor
open Go.RowKit
set_option linter.unusedVariables false

set_option maxRecDepth 100000 in
set_option maxHeartbeats 400000 in
theorem refShow_bad16 (v : Nat) (width : Int) (hw : width < 0 ∨ 64 < width) (w : World) : Calls Tryd.prog 6 #[.int .u64 v, .int .i64 16, .int .i64 width] w fun e w' => e = .returned (.tuple #[.string ⟨#[]⟩, .int .i64 1]) ∧ ∃ n, w' = w.drewN n := by
  by_cases h1 : width < 0
  · go_enter Tryd.func6, Tryd.ntmps6
    go_wp2_with fail
    go_ret2
    exact ⟨rfl, 0, rfl⟩
  · have h2 : 64 < width := by omega
    go_enter Tryd.func6, Tryd.ntmps6
    go_wp2_with fail
    go_ret2
    exact ⟨rfl, 0, rfl⟩
set_option maxRecDepth 100000 in
set_option maxHeartbeats 400000 in
theorem refShow_bad2 (v : Nat) (width : Int) (hw : width < 0 ∨ 64 < width) (w : World) : Calls Tryd.prog 6 #[.int .u64 v, .int .i64 2, .int .i64 width] w fun e w' => e = .returned (.tuple #[.string ⟨#[]⟩, .int .i64 1]) ∧ ∃ n, w' = w.drewN n := by
  by_cases h1 : width < 0
  · go_enter Tryd.func6, Tryd.ntmps6
    go_wp2_with fail
    go_ret2
    exact ⟨rfl, 0, rfl⟩
  · have h2 : 64 < width := by omega
    go_enter Tryd.func6, Tryd.ntmps6
    go_wp2_with fail
    go_ret2
    exact ⟨rfl, 0, rfl⟩
set_option maxRecDepth 100000 in
set_option maxHeartbeats 400000 in
theorem refShow_bad8 (v : Nat) (width : Int) (hw : width < 0 ∨ 64 < width) (w : World) : Calls Tryd.prog 6 #[.int .u64 v, .int .i64 8, .int .i64 width] w fun e w' => e = .returned (.tuple #[.string ⟨#[]⟩, .int .i64 1]) ∧ ∃ n, w' = w.drewN n := by
  by_cases h1 : width < 0
  · go_enter Tryd.func6, Tryd.ntmps6
    go_wp2_with fail
    go_ret2
    exact ⟨rfl, 0, rfl⟩
  · have h2 : 64 < width := by omega
    go_enter Tryd.func6, Tryd.ntmps6
    go_wp2_with fail
    go_ret2
    exact ⟨rfl, 0, rfl⟩
set_option maxRecDepth 100000 in
set_option maxHeartbeats 400000 in
theorem refShow_bad10 (v : Nat) (width : Int) (hw : width < 0 ∨ 64 < width) (w : World) : Calls Tryd.prog 6 #[.int .u64 v, .int .i64 10, .int .i64 width] w fun e w' => e = .returned (.tuple #[.string ⟨#[]⟩, .int .i64 1]) ∧ ∃ n, w' = w.drewN n := by
  by_cases h1 : width < 0
  · go_enter Tryd.func6, Tryd.ntmps6
    go_wp2_with fail
    go_ret2
    exact ⟨rfl, 0, rfl⟩
  · have h2 : 64 < width := by omega
    go_enter Tryd.func6, Tryd.ntmps6
    go_wp2_with fail
    go_ret2
    exact ⟨rfl, 0, rfl⟩
set_option maxRecDepth 100000 in
set_option maxHeartbeats 400000 in
theorem refShow_none (v : Nat) (kind width : Int) (h1 : ¬ kind = 16) (h2 : ¬ kind = 2) (h3 : ¬ kind = 8) (h4 : ¬ kind = 10) (w : World) : Calls Tryd.prog 6 #[.int .u64 v, .int .i64 kind, .int .i64 width] w fun e w' => e = .returned (.tuple #[.string ⟨#[]⟩, .int .i64 1]) ∧ ∃ n, w' = w.drewN n := by
  go_enter Tryd.func6, Tryd.ntmps6
  go_wp2_with fail
  go_ret2
  exact ⟨rfl, 0, rfl⟩

theorem show_eq {v : Nat} {kind width : Int} {m : List UInt8} (hm : markL kind = some m) (hw : ¬ (width < 0 ∨ 64 < width)) : showS v kind width = (m ++ padS width.toNat (digS kind.toNat 65 v []), 0) := by
  unfold showS; rw [hm]; simp only; rw [if_neg hw]
theorem show_bad {v : Nat} {kind width : Int} {m : List UInt8} (hm : markL kind = some m) (hw : width < 0 ∨ 64 < width) : showS v kind width = ([], 1) := by
  unfold showS; rw [hm]; simp only; rw [if_pos hw]
theorem show_none {v : Nat} {kind width : Int} (hm : markL kind = none) : showS v kind width = ([], 1) := by
  unfold showS; rw [hm]

theorem refShow_any (v : Nat) (kind width : Int) (hv : v ≤ 18446744073709551615) (w : World) : Calls Tryd.prog 6 #[.int .u64 v, .int .i64 kind, .int .i64 width] w fun e w' => e = .returned (.tuple #[.string ⟨(showS v kind width).1.toArray⟩, .int .i64 (showS v kind width).2]) ∧ ∃ n, w' = w.drewN n := by
  by_cases hw : width < 0 ∨ 64 < width
  · by_cases h16 : kind = 16
    · subst h16
      rw [show_bad (m := [36]) rfl hw]
      exact refShow_bad16 v width hw w
    by_cases h2 : kind = 2
    · subst h2
      rw [show_bad (m := [37]) rfl hw]
      exact refShow_bad2 v width hw w
    by_cases h8 : kind = 8
    · subst h8
      rw [show_bad (m := [64]) rfl hw]
      exact refShow_bad8 v width hw w
    by_cases h10 : kind = 10
    · subst h10
      rw [show_bad (m := []) rfl hw]
      exact refShow_bad10 v width hw w
    have hm : markL kind = none := by unfold markL; rw [if_neg h16, if_neg h2, if_neg h8, if_neg h10]
    rw [show_none hm]
    exact refShow_none v kind width h16 h2 h8 h10 w
  · obtain ⟨W, rfl⟩ : ∃ W : Nat, width = W := ⟨width.toNat, by omega⟩
    have hW : W ≤ 64 := by omega
    by_cases h16 : kind = 16
    · subst h16
      rw [show_eq (m := [36]) rfl hw]
      exact refShow_16 v W hv hW w
    by_cases h2 : kind = 2
    · subst h2
      rw [show_eq (m := [37]) rfl hw]
      exact refShow_2 v W hv hW w
    by_cases h8 : kind = 8
    · subst h8
      rw [show_eq (m := [64]) rfl hw]
      exact refShow_8 v W hv hW w
    by_cases h10 : kind = 10
    · subst h10
      rw [show_eq (m := []) rfl hw]
      exact refShow_10 v W hv hW w
    have hm : markL kind = none := by unfold markL; rw [if_neg h16, if_neg h2, if_neg h8, if_neg h10]
    rw [show_none hm]
    exact refShow_none v kind W h16 h2 h8 h10 w
end Go.Proofs.YtmmlmpcalhfigaaDoor
