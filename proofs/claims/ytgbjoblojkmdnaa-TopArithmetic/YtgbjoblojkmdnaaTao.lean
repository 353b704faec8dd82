/- How bytes among the arguments read. -/
import Derived.Test.YtgbjoblojkmdnaaTar
import Derived.Lib.SmallJoins
namespace Go.Proofs.Ytgbjoblojkmdnaa
open Go.ChangeShapes Go.WideShapes Go.ChangeAt Go.RowKit Go.Joins
set_option linter.unusedVariables false

theorem Try.cells5 : Try.prog.cellsOf 5 = 1 := by kernel_rfl
theorem Try.bytes5 : Try.prog.bytesOf 5 = 1 := by kernel_rfl
set_option maxRecDepth 100000 in
theorem open_bytes {H : Type} {enc : TypeId × Value → H} {W : World} {r : Reach} {b0 base : Nat} {spare : Nat → Bool} {held : Bool} {v : Value} {d : DataW H} {p : List MemPlace}
    (hv : Value.okWide Try.prog W r b0 22 v) (h : DataW.Trod enc Try.prog W base spare held 22 v d p) (hr : ∀ x ∈ DataW.weights Try.prog 22 d, x ≤ reachBytes) (hsp : ∀ b, spare b = true) :
    ∃ (bs : List UInt8) (a : Option Addr) (cap : Nat), v = .slice a bs.length cap ∧ bs.length ≤ cap ∧ cap ≤ 140737488351232 ∧ ByAt W (.slice a bs.length cap) bs := by
  obtain ⟨a', l', c', rfl⟩ := okWide_slice Try.underlying22 hv
  obtain ⟨m, h3⟩ := h
  rcases open_ints Try.underlying22 Try.underlying5 Try.cells5 h3 with ⟨hcs, hx⟩ | ⟨a, len, cap, zs, hcs, _, hl, hm, hz, hx, hcell, hws⟩
  · simp only [Value.cells, List.cons.injEq, and_true] at hcs
    exact ⟨[], none, 0, hcs, by simp, by omega, .inl ⟨rfl, none, 0, rfl, fun _ => rfl⟩⟩
  · simp only [Value.cells, List.cons.injEq, and_true] at hcs
    rw [hsp] at hz
    simp only [if_true] at hz
    have hd : d = .slice (lits .u8 (zs.take len)) (lits .u8 (zs.drop len)) := congrArg Prod.fst hx
    have hcp : cap ≤ 140737488351232 := by
      have := hr (((lits (H := H) .u8 (zs.take len)).length + (lits (H := H) .u8 (zs.drop len)).length) * Try.prog.bytesOf 5) (by rw [hd]; simp [DataW.weights, Try.underlying22])
      rw [Try.bytes5] at this
      have hrb : reachBytes = 140737488351232 := by decide
      simp [lits] at this
      omega
    have hlen : ((zs.take len).map fun z : Int => UInt8.ofNat z.toNat).length = len := by simp; omega
    refine ⟨(zs.take len).map fun z : Int => UInt8.ofNat z.toNat, some a, cap, by rw [hlen]; exact hcs, by rw [hlen]; exact hl, hcp, ?_⟩
    by_cases h0 : len = 0
    · subst h0
      exact .inl ⟨by simp, some a, cap, by simp, nofun⟩
    · have h00 := hcell 0 (by omega)
      obtain ⟨g, off, spot⟩ := a
      have hspot : spot = none := by simpa [Addr.add] using World.cell?_spot h00
      subst hspot
      rw [hlen]
      refine .inr ⟨g, off, cap, by rw [hlen], ?_, fun j hj => ?_⟩
      · have h1 := World.block_lt_of_cell? W _ h00
        simpa [Addr.add] using h1
      · rw [hlen] at hj
        have := hcell j (by omega)
        rw [show (⟨g, off, none⟩ : Addr).add j = ⟨g, off + j, none⟩ from Addr.add_lit ..] at this
        rw [this]
        have hj' : j < zs.length := by omega
        have hb := bounds_u8 (hws zs[j] (List.getElem_mem hj'))
        have e1 : zs.getD j 0 = zs[j] := by simp [List.getD, hj']
        have e2 : ((zs.take len).map fun z : Int => UInt8.ofNat z.toNat).getD j 0 = UInt8.ofNat zs[j].toNat := by simp [List.getD, hj, hj']
        rw [e1, e2]
        unfold encB
        rw [UInt8.toNat_ofNat', Nat.mod_eq_of_lt (by omega), Int.toNat_of_nonneg hb.1]
end Go.Proofs.Ytgbjoblojkmdnaa
