/- How a script among the arguments reads. -/
import Derived.Test.YtjnfnihhihncmaaMmt
import Derived.Deep.Slices
import Derived.Lib.SmallJoins
namespace Go.Proofs.Ytjnfnihhihncmaa
open Go.ChangeShapes Go.WideShapes Go.ChangeAt Go.RowKit Go.Joins
set_option linter.unusedVariables false

theorem Try.cellsOp : Try.prog.cellsOf 46 = 7 := by kernel_rfl
theorem Try.bytesOp : Try.prog.bytesOf 46 = 72 := by kernel_rfl
theorem Try.cellsC3 : Try.prog.cellsOf 3 = 1 := by kernel_rfl
theorem Try.cellsC5 : Try.prog.cellsOf 5 = 1 := by kernel_rfl
theorem Try.cellsC41 : Try.prog.cellsOf 41 = 1 := by kernel_rfl
theorem Try.cellsC42 : Try.prog.cellsOf 42 = 1 := by kernel_rfl
theorem Try.cellsC44 : Try.prog.cellsOf 44 = 2 := by kernel_rfl
theorem slice_shape {H : Type} {enc : TypeId × Value → H} {W : World} {base : Nat} {spare : Nat → Bool} {held : Bool} {m : Nat} {v : Value} {y : DataW H × List MemPlace}
    (h : DataW.trod enc Try.prog W base spare held m 41 [v] = some y) : ∃ a n c, v = .slice a n c := by
  rcases DataW.trod_slice Try.underlying41 h with ⟨h0, _⟩ | ⟨a, len, cap, _, _, _, _, h0, _⟩
  · simp only [List.cons.injEq, and_true] at h0; exact ⟨_, _, _, h0⟩
  · simp only [List.cons.injEq, and_true] at h0; exact ⟨_, _, _, h0⟩
set_option maxRecDepth 100000 in
theorem open_ops {H : Type} {enc : TypeId × Value → H} {W : World} {r : Reach} {b0 base : Nat} {spare : Nat → Bool} {held : Bool} {v : Value} {d : DataW H} {p : List MemPlace}
    (hv : Value.okWide Try.prog W r b0 23 v) (h : DataW.Trod enc Try.prog W base spare held 23 v d p) (hr : ∀ x ∈ DataW.weights Try.prog 23 d, x ≤ reachBytes) (hsp : ∀ b, spare b = true) :
    ∃ n, n ≤ 140737488351232 ∧ OpsAt W v n := by
  obtain ⟨a', l', c', rfl⟩ := okWide_slice Try.underlying23 hv
  obtain ⟨m, h3⟩ := h
  rcases Go.Deep.open_slice Try.underlying23 h3 with ⟨hcs, hx⟩ | ⟨a, len, cap, m', nn, D, Pl, hcs, _, hl, hm, hmm, hx, hcell⟩
  · simp only [Value.cells, List.cons.injEq, and_true] at hcs
    exact ⟨0, by omega, none, 0, hcs, fun i hi => absurd hi (by omega)⟩
  · simp only [Value.cells, List.cons.injEq, and_true] at hcs
    rw [hsp] at hmm
    simp only [if_true] at hmm
    subst hmm
    have hd : d = .slice ((List.range len).map D) ((List.range (m' - len)).map fun j => D (len + j)) := congrArg Prod.fst hx
    have hcp : m' ≤ 140737488351232 := by
      have := hr ((((List.range len).map D).length + ((List.range (m' - len)).map fun j => D (len + j)).length) * Try.prog.bytesOf 46) (by rw [hd]; simp [DataW.weights, Try.underlying23])
      rw [Try.bytesOp] at this
      have hrb : reachBytes = 140737488351232 := by decide
      simp only [List.length_map, List.length_range] at this
      omega
    refine ⟨len, by omega, some a, m', hcs, fun i hi => ?_⟩
    obtain ⟨cs', h1, h2⟩ := hcell i (by omega)
    rw [Try.cellsOp] at h1
    obtain ⟨_, hlen, hc⟩ := World.cells?_some h1
    obtain ⟨xs, k, hk, hxy, _, hxl, hf⟩ := DataW.trod_struct Try.underlying46 h2
    match xs, hxl, cs', hlen with
    | [y0, y1, y2, y3, y4, y5], _, [v0, v1, v2, v3, v4, v5, v6], _ =>
      have g0 := hf 0 _ rfl
      have g1 := hf 1 _ rfl
      have g2 := hf 2 _ rfl
      have g3 := hf 3 _ rfl
      have g4 := hf 4 _ rfl
      have g5 := hf 5 _ rfl
      change DataW.trod enc Try.prog W base spare held k 3 (([v0, v1, v2, v3, v4, v5, v6].drop 0).take (Try.prog.cellsOf 3)) = some y0 at g0
      rw [Try.cellsC3] at g0
      change DataW.trod enc Try.prog W base spare held k 3 (([v0, v1, v2, v3, v4, v5, v6].drop 1).take (Try.prog.cellsOf 3)) = some y1 at g1
      rw [Try.cellsC3] at g1
      change DataW.trod enc Try.prog W base spare held k 3 (([v0, v1, v2, v3, v4, v5, v6].drop 2).take (Try.prog.cellsOf 3)) = some y2 at g2
      rw [Try.cellsC3] at g2
      change DataW.trod enc Try.prog W base spare held k 5 (([v0, v1, v2, v3, v4, v5, v6].drop 3).take (Try.prog.cellsOf 5)) = some y3 at g3
      rw [Try.cellsC5] at g3
      change DataW.trod enc Try.prog W base spare held k 41 (([v0, v1, v2, v3, v4, v5, v6].drop 4).take (Try.prog.cellsOf 41)) = some y4 at g4
      rw [Try.cellsC41] at g4
      change DataW.trod enc Try.prog W base spare held k 44 (([v0, v1, v2, v3, v4, v5, v6].drop 5).take (Try.prog.cellsOf 44)) = some y5 at g5
      rw [Try.cellsC44] at g5
      change DataW.trod enc Try.prog W base spare held k 3 [v0] = some y0 at g0
      change DataW.trod enc Try.prog W base spare held k 3 [v1] = some y1 at g1
      change DataW.trod enc Try.prog W base spare held k 3 [v2] = some y2 at g2
      change DataW.trod enc Try.prog W base spare held k 5 [v3] = some y3 at g3
      change DataW.trod enc Try.prog W base spare held k 41 [v4] = some y4 at g4
      change DataW.trod enc Try.prog W base spare held k 44 [v5, v6] = some y5 at g5
      obtain ⟨z0, hz0, _⟩ := DataW.trod_int Try.underlying3 g0
      obtain ⟨z1, hz1, _⟩ := DataW.trod_int Try.underlying3 g1
      obtain ⟨z2, hz2, _⟩ := DataW.trod_int Try.underlying3 g2
      obtain ⟨z3, hz3, _, hw3⟩ := DataW.trod_int Try.underlying5 g3
      obtain ⟨la, ln, lc, rfl⟩ := slice_shape g4
      obtain ⟨xs2, k2, hk2, hxy2, _, hxl2, hf2⟩ := DataW.trod_struct Try.underlying44 g5
      match xs2, hxl2 with
      | [u0, u1], _ =>
        have t0 := hf2 0 _ rfl
        have t1 := hf2 1 _ rfl
        change DataW.trod enc Try.prog W base spare held k2 42 (([v5, v6].drop 0).take (Try.prog.cellsOf 42)) = some u0 at t0
        rw [Try.cellsC42] at t0
        change DataW.trod enc Try.prog W base spare held k2 5 (([v5, v6].drop 1).take (Try.prog.cellsOf 5)) = some u1 at t1
        rw [Try.cellsC5] at t1
        change DataW.trod enc Try.prog W base spare held k2 42 [v5] = some u0 at t0
        change DataW.trod enc Try.prog W base spare held k2 5 [v6] = some u1 at t1
        obtain ⟨z5, hz5, _⟩ := DataW.trod_int Try.underlying42 t0
        obtain ⟨z6, hz6, _⟩ := DataW.trod_int Try.underlying5 t1
        simp only [List.cons.injEq, and_true] at hz0 hz1 hz2 hz3 hz5 hz6
        subst hz0 hz1 hz2 hz3 hz5 hz6
        have hb := bounds_u8 hw3
        have e0 := hc 0 (by omega)
        have e1 := hc 1 (by omega)
        have e2 := hc 2 (by omega)
        have e3 := hc 3 (by omega)
        have e4 := hc 4 (by omega)
        have e5 := hc 5 (by omega)
        have e6 := hc 6 (by omega)
        obtain ⟨g, off, spot⟩ := a
        have hspot : spot = none := by
          obtain ⟨cs0, q1, q2⟩ := hcell 0 (by omega)
          rw [Try.cellsOp] at q1
          obtain ⟨_, ql, qc⟩ := World.cells?_some q1
          have q0 := qc 0 (by omega)
          rw [Go.Deep.add_add, List.getElem?_eq_getElem (by omega)] at q0
          simpa [Addr.add] using World.cell?_spot q0
        subst hspot
        rw [Go.Deep.add_add, show (⟨g, off, none⟩ : Addr).add (i * 7 + 0) = ⟨g, off + (i * 7 + 0), none⟩ from Addr.add_lit ..] at e0
        rw [Go.Deep.add_add, show (⟨g, off, none⟩ : Addr).add (i * 7 + 1) = ⟨g, off + (i * 7 + 1), none⟩ from Addr.add_lit ..] at e1
        rw [Go.Deep.add_add, show (⟨g, off, none⟩ : Addr).add (i * 7 + 2) = ⟨g, off + (i * 7 + 2), none⟩ from Addr.add_lit ..] at e2
        rw [Go.Deep.add_add, show (⟨g, off, none⟩ : Addr).add (i * 7 + 3) = ⟨g, off + (i * 7 + 3), none⟩ from Addr.add_lit ..] at e3
        rw [Go.Deep.add_add, show (⟨g, off, none⟩ : Addr).add (i * 7 + 4) = ⟨g, off + (i * 7 + 4), none⟩ from Addr.add_lit ..] at e4
        rw [Go.Deep.add_add, show (⟨g, off, none⟩ : Addr).add (i * 7 + 5) = ⟨g, off + (i * 7 + 5), none⟩ from Addr.add_lit ..] at e5
        rw [Go.Deep.add_add, show (⟨g, off, none⟩ : Addr).add (i * 7 + 6) = ⟨g, off + (i * 7 + 6), none⟩ from Addr.add_lit ..] at e6
        refine ⟨g, off, z0, z1, z2, z3.toNat, la, ln, lc, z5, z6, rfl, World.block_lt_of_cell? W _ e0, by omega, e0, e1, e2, ?_, e4, e5, e6⟩
        rw [show ((z3.toNat : Nat) : Int) = z3 by omega]
        exact e3
end Go.Proofs.Ytjnfnihhihncmaa
