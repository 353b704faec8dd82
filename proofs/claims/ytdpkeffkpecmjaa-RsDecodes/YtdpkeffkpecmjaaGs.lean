/- Texts of one proof, one behind the other. -/
import Derived.Test.YtdpkeffkpecmjaaOpn
import Derived.Test.YtdpkeffkpecmjaaRsh
/- How numbers among the arguments read. -/
namespace Go.Proofs.Ytdpkeffkpecmjaa
open Go.ChangeShapes Go.WideShapes Go.ChangeAt Go.RowKit Go.Joins
set_option linter.unusedVariables false

theorem Try.cells3 : Try.prog.cellsOf 3 = 1 := by kernel_rfl
theorem Try.bytes3 : Try.prog.bytesOf 3 = 8 := by kernel_rfl
set_option maxRecDepth 100000 in
theorem open_il {H : Type} {enc : TypeId × Value → H} {W : World} {r : Reach} {b0 base : Nat} {spare : Nat → Bool} {held : Bool} {v : Value} {d : DataW H} {p : List MemPlace}
    (hv : Value.okWide Try.prog W r b0 38 v) (h : DataW.Trod enc Try.prog W base spare held 38 v d p) (hr : ∀ x ∈ DataW.weights Try.prog 38 d, x ≤ reachBytes) (hsp : ∀ b, spare b = true) :
    ∃ (l : List Int) (a : Option Addr) (cap : Nat), v = .slice a l.length cap ∧ l.length ≤ cap ∧ cap ≤ 140737488351232 ∧ IlAt W (.slice a l.length cap) l := by
  obtain ⟨a', l', c', rfl⟩ := okWide_slice Try.underlying38 hv
  obtain ⟨m, h3⟩ := h
  rcases open_ints Try.underlying38 Try.underlying3 Try.cells3 h3 with ⟨hcs, hx⟩ | ⟨a, len, cap, zs, hcs, _, hl, hm, hz, hx, hcell, hws⟩
  · simp only [Value.cells, List.cons.injEq, and_true] at hcs
    exact ⟨[], none, 0, hcs, by simp, by omega, IlAt.nil W⟩
  · simp only [Value.cells, List.cons.injEq, and_true] at hcs
    rw [hsp] at hz
    simp only [if_true] at hz
    have hd : d = .slice (lits .i64 (zs.take len)) (lits .i64 (zs.drop len)) := congrArg Prod.fst hx
    have hcp : cap ≤ 140737488351232 := by
      have := hr (((lits (H := H) .i64 (zs.take len)).length + (lits (H := H) .i64 (zs.drop len)).length) * Try.prog.bytesOf 3) (by rw [hd]; simp [DataW.weights, Try.underlying38])
      rw [Try.bytes3] at this
      have hrb : reachBytes = 140737488351232 := by decide
      simp [lits] at this
      omega
    have hlen : (zs.take len).length = len := by simp; omega
    refine ⟨zs.take len, some a, cap, by rw [hlen]; exact hcs, by rw [hlen]; exact hl, hcp, ?_⟩
    refine ⟨some a, cap, rfl, by rw [hlen]; exact hl, by omega, fun j hj => ?_⟩
    rw [hlen] at hj
    have hj2 := hcell j (by omega)
    have h00 := hcell 0 (by omega)
    obtain ⟨g, off, spot⟩ := a
    have hspot : spot = none := by simpa [Addr.add] using World.cell?_spot h00
    subst hspot
    rw [show (⟨g, off, none⟩ : Addr).add j = ⟨g, off + j, none⟩ from Addr.add_lit ..] at hj2
    refine ⟨g, off, rfl, by simpa using World.block_lt_of_cell? W _ hj2, ?_⟩
    rw [hj2]
    have hj' : j < zs.length := by omega
    simp [List.getD, hj, hj']
end Go.Proofs.Ytdpkeffkpecmjaa
/- How numbers among the arguments read, and how many they may be. -/
namespace Go.Proofs.Ytdpkeffkpecmjaa
open Go.ChangeShapes Go.WideShapes Go.ChangeAt Go.RowKit Go.Joins
set_option linter.unusedVariables false

set_option maxRecDepth 100000 in
theorem open_ilN {H : Type} {enc : TypeId × Value → H} {W : World} {r : Reach} {b0 base : Nat} {spare : Nat → Bool} {held : Bool} {v : Value} {d : DataW H} {p : List MemPlace}
    (hv : Value.okWide Try.prog W r b0 38 v) (h : DataW.Trod enc Try.prog W base spare held 38 v d p) (hr : ∀ x ∈ DataW.weights Try.prog 38 d, x ≤ reachBytes) (hsp : ∀ b, spare b = true) :
    ∃ (l : List Int) (a : Option Addr) (cap : Nat), v = .slice a l.length cap ∧ l.length * 8 ≤ 140737488351232 ∧ (a = none → cap = 0) ∧ IlAt W (.slice a l.length cap) l := by
  obtain ⟨l, a, cap, h1, h2, h3, h4⟩ := open_il hv h hr hsp
  obtain ⟨a', l', c', hv'⟩ := okWide_slice Try.underlying38 hv
  obtain ⟨m, h5⟩ := h
  subst hv'
  rcases open_ints Try.underlying38 Try.underlying3 Try.cells3 h5 with ⟨hcs, hx⟩ | ⟨a2, len, cap2, zs, hcs, _, hl, hm, hz, hx, hcell, hws⟩
  · simp only [Value.cells, List.cons.injEq, and_true] at hcs
    rw [hcs] at h1
    injection h1 with e1 e2 e3
    exact ⟨l, a, cap, by rw [hcs, ← e1, ← e2, ← e3], by omega, fun _ => e3.symm, h4⟩
  · simp only [Value.cells, List.cons.injEq, and_true] at hcs
    rw [hsp] at hz
    simp only [if_true] at hz
    have hd : d = .slice (lits .i64 (zs.take len)) (lits .i64 (zs.drop len)) := congrArg Prod.fst hx
    have hcp : cap2 * 8 ≤ 140737488351232 := by
      have := hr (((lits (H := H) .i64 (zs.take len)).length + (lits (H := H) .i64 (zs.drop len)).length) * Try.prog.bytesOf 3) (by rw [hd]; simp [DataW.weights, Try.underlying38])
      rw [Try.bytes3] at this
      have hrb : reachBytes = 140737488351232 := by decide
      simp [lits] at this
      omega
    rw [hcs] at h1
    injection h1 with e1 e2 e3
    exact ⟨l, a, cap, by rw [hcs, ← e1, ← e2, ← e3], by omega, (fun h => by rw [h] at e1; cases e1), h4⟩
end Go.Proofs.Ytdpkeffkpecmjaa
