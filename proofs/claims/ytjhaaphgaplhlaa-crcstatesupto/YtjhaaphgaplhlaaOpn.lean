/- How models and bytes among the arguments read. -/
import Derived.Test.YtjhaaphgaplhlaaRow
import Derived.Lib.SmallJoins
namespace Go.Proofs.Ytjhaaphgaplhlaa
open Go.ChangeShapes Go.WideShapes Go.ChangeAt Go.RowKit Go.Joins
set_option linter.unusedVariables false

theorem Try.cells46 : Try.prog.cellsOf 46 = 7 := by kernel_rfl
theorem Try.cells5 : Try.prog.cellsOf 5 = 1 := by kernel_rfl
theorem Try.bytes5 : Try.prog.bytesOf 5 = 1 := by kernel_rfl
theorem array7 {α : Type} {cs : Array α} (h : cs.size = 7) : ∃ c0 c1 c2 c3 c4 c5 c6, cs = #[c0, c1, c2, c3, c4, c5, c6] := by
  obtain ⟨l⟩ := cs
  match l, h with
  | [c0, c1, c2, c3, c4, c5, c6], _ => exact ⟨c0, c1, c2, c3, c4, c5, c6, rfl⟩

theorem open_model {H : Type} {enc : TypeId × Value → H} {W : World} {r : Reach} {b0 base : Nat} {spare : Nat → Bool} {held : Bool} {v : Value} {d : DataW H} {p : List MemPlace} (hv : Value.okWide Try.prog W r b0 46 v) (h : DataW.Trod enc Try.prog W base spare held 46 v d p) :
    ∃ m : Mw, v = m.v ∧ MwOk m := by
  obtain ⟨cs, rfl, hsz⟩ := okWide_struct Try.underlying46 hv
  obtain ⟨c0, c1, c2, c3, c4, c5, c6, rfl⟩ := array7 (hsz.trans Try.cells46)
  obtain ⟨fuel, hf⟩ := h
  obtain ⟨xs, n, _, _, hl, hlen, hfs⟩ := DataW.trod_struct Try.underlying46 hf
  match xs, hlen with
  | [y0, y1, y2, y3, y4, y5, y6], _ =>
    have h0 := hfs 0 _ rfl
    have h1 := hfs 1 _ rfl
    have h2 := hfs 2 _ rfl
    have h3 := hfs 3 _ rfl
    have h4 := hfs 4 _ rfl
    have h5 := hfs 5 _ rfl
    have h6 := hfs 6 _ rfl
    obtain ⟨s, e0, _, hs⟩ := DataW.trod_string Try.underlying9 h0
    obtain ⟨z1, e1, _, w1⟩ := DataW.trod_int Try.underlying3 h1
    obtain ⟨z2, e2, _, w2⟩ := DataW.trod_int Try.underlying33 h2
    obtain ⟨z3, e3, _, w3⟩ := DataW.trod_int Try.underlying33 h3
    obtain ⟨z4, e4, _⟩ := DataW.trod_bool Try.underlying4 h4
    obtain ⟨z5, e5, _⟩ := DataW.trod_bool Try.underlying4 h5
    obtain ⟨z6, e6, _, w6⟩ := DataW.trod_int Try.underlying33 h6
    have k1 : Try.prog.cellsOf 3 = 1 := by kernel_rfl
    have k2 : Try.prog.cellsOf 33 = 1 := by kernel_rfl
    have k3 : Try.prog.cellsOf 4 = 1 := by kernel_rfl
    have k4 : Try.prog.cellsOf 9 = 1 := by kernel_rfl
    simp [Value.cells, k1, k2, k3, k4] at e0 e1 e2 e3 e4 e5 e6
    have b1 := bounds_i64 w1
    have b2 := bounds_u64 w2
    have b3 := bounds_u64 w3
    have b6 := bounds_u64 w6
    refine ⟨⟨s, z1, z2.toNat, z3.toNat, z4, z5, z6.toNat⟩, ?_, ⟨b1.1, b1.2, by simp only []; omega, by simp only []; omega, by simp only []; omega⟩⟩
    unfold Mw.v
    simp only []
    rw [e0, e1, e2, e3, e4, e5, e6, Int.toNat_of_nonneg b2.1, Int.toNat_of_nonneg b3.1, Int.toNat_of_nonneg b6.1]

theorem open_bytes {H : Type} {enc : TypeId × Value → H} {W : World} {r : Reach} {b0 base : Nat} {spare : Nat → Bool} {held : Bool} {v : Value} {d : DataW H} {p : List MemPlace}
    (hv : Value.okWide Try.prog W r b0 22 v) (h : DataW.Trod enc Try.prog W base spare held 22 v d p) (hr : ∀ x ∈ DataW.weights Try.prog 22 d, x ≤ reachBytes) (hsp : ∀ b, spare b = true) :
    ∃ (bs : List UInt8) (a : Option Addr) (cap : Nat), v = .slice a bs.length cap ∧ bs.length ≤ cap ∧ cap ≤ 140737488351232 ∧ ByAt W (.slice a bs.length cap) bs := by
  obtain ⟨a', l', c', rfl⟩ := okWide_slice Try.underlying22 hv
  obtain ⟨m, h3⟩ := h
  rcases open_ints Try.underlying22 Try.underlying5 Try.cells5 h3 with ⟨hcs, hx⟩ | ⟨a, len, cap, zs, hcs, _, hl, hm, hz, hx, hcell, hws⟩
  · simp only [Value.cells, List.cons.injEq, and_true] at hcs
    exact ⟨[], none, 0, hcs, by simp, by omega, .inl ⟨rfl, none, 0, rfl, fun _ => rfl⟩⟩
  · simp only [Value.cells, List.cons.injEq, and_true] at hcs
    rw [hsp] at hz
    simp only [if_true] at hz
    have hd : d = .slice (lits .u8 (zs.take len)) (lits .u8 (zs.drop len)) := congrArg Prod.fst hx
    have hcp : cap ≤ 140737488351232 := by
      have := hr (((lits (H := H) .u8 (zs.take len)).length + (lits (H := H) .u8 (zs.drop len)).length) * Try.prog.bytesOf 5) (by rw [hd]; simp [DataW.weights, Try.underlying22])
      rw [Try.bytes5] at this
      have hrb : reachBytes = 140737488351232 := by decide
      simp [lits] at this
      omega
    have hlen : ((zs.take len).map fun z : Int => UInt8.ofNat z.toNat).length = len := by simp; omega
    refine ⟨(zs.take len).map fun z : Int => UInt8.ofNat z.toNat, some a, cap, by rw [hlen]; exact hcs, by rw [hlen]; exact hl, hcp, ?_⟩
    by_cases h0 : len = 0
    · subst h0
      exact .inl ⟨by simp, some a, cap, by simp, nofun⟩
    · have h00 := hcell 0 (by omega)
      obtain ⟨g, off, spot⟩ := a
      have hspot : spot = none := by simpa [Addr.add] using World.cell?_spot h00
      subst hspot
      rw [hlen]
      refine .inr ⟨g, off, cap, by rw [hlen], ?_, fun j hj => ?_⟩
      · have h1 := World.block_lt_of_cell? W _ h00
        simpa [Addr.add] using h1
      · rw [hlen] at hj
        have := hcell j (by omega)
        rw [show (⟨g, off, none⟩ : Addr).add j = ⟨g, off + j, none⟩ from Addr.add_lit ..] at this
        rw [this]
        have hj' : j < zs.length := by omega
        have hb := bounds_u8 (hws zs[j] (List.getElem_mem hj'))
        have e1 : zs.getD j 0 = zs[j] := by simp [List.getD, hj']
        have e2 : ((zs.take len).map fun z : Int => UInt8.ofNat z.toNat).getD j 0 = UInt8.ofNat zs[j].toNat := by simp [List.getD, hj, hj']
        rw [e1, e2]
        unfold encB
        rw [UInt8.toNat_ofNat', Nat.mod_eq_of_lt (by omega), Int.toNat_of_nonneg hb.1]
end Go.Proofs.Ytjhaaphgaplhlaa
