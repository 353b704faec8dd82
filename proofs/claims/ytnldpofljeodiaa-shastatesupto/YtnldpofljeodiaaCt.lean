/- ShaCut: the walk. -/
import Derived.Test.YtnldpofljeodiaaLw
import Derived.Test.YtnldpofljeodiaaSl
namespace Go.Proofs.Ytnldpofljeodiaa
open Go.RowKit
set_option linter.unusedVariables false

theorem ByAt.but' {g : Nat} {w w' : World} {sl : Value} {bs : List UInt8} (h : ByAt w sl bs) (hb : But g w w') (hn : bs ≠ [] → Off sl g) : ByAt w' sl bs := by
  by_cases h0 : bs = []
  · subst h0
    rcases h with h | ⟨k, off, cap, rfl, hg, hc⟩
    · exact .inl h
    · exact .inl ⟨rfl, _, _, rfl, fun h => by cases h⟩
  · exact h.but hb (hn h0)
theorem dg_by {w : World} {g k : Nat} {s : Ps} (h : RowZ w g .u8 (k / 8) 5 (fun i => ((dgP k s i).toNat : Int))) : ByAt w (.slice (some ⟨g, 0, none⟩) (k / 8) (k / 8)) (dgL k s) := by
  have := rowZ_by h
  rw [List.length_map, List.length_range] at this
  exact this
theorem kind_or (x : Int) : (∃ k : Nat, Kind k ∧ x = (k : Int)) ∨ (x ≠ 224 ∧ x ≠ 256 ∧ x ≠ 384 ∧ x ≠ 512) := by
  by_cases h1 : x = 224
  · exact Or.inl ⟨224, by unfold Kind; omega, h1⟩
  · by_cases h2 : x = 256
    · exact Or.inl ⟨256, by unfold Kind; omega, h2⟩
    · by_cases h3 : x = 384
      · exact Or.inl ⟨384, by unfold Kind; omega, h3⟩
      · by_cases h4 : x = 512
        · exact Or.inl ⟨512, by unfold Kind; omega, h4⟩
        · exact Or.inr ⟨h1, h2, h3, h4⟩
end Go.Proofs.Ytnldpofljeodiaa
