/- How a column among the arguments reads. -/
import Derived.Test.YtdbledfpphkppaaOpn
import Derived.Test.YtdbledfpphkppaaRf8
namespace Go.Proofs.Ytdbledfpphkppaa
open Go.ChangeShapes Go.WideShapes Go.ChangeAt Go.RowKit Go.Joins
set_option linter.unusedVariables false

theorem Try.cells22 : Try.prog.cellsOf 22 = 4 := by kernel_rfl
theorem array4 {cs : Array Value} (h : cs.size = 4) : ∃ a b c d, cs = #[a, b, c, d] := by
  obtain ⟨l⟩ := cs
  match l, h with
  | [a, b, c, d], _ => exact ⟨a, b, c, d, rfl⟩
theorem open_col {H : Type} {enc : TypeId × Value → H} {W : World} {r : Reach} {b0 base : Nat} {spare : Nat → Bool} {held : Bool} {v : Value} {d : DataW H} {p : List MemPlace} (hv : Value.okWide Try.prog W r b0 22 v) (h : DataW.Trod enc Try.prog W base spare held 22 v d p) :
    ∃ c : Nat → UInt8, v = .agg (colR c) := by
  unfold Value.okWide at hv
  rw [Try.underlying22] at hv
  obtain ⟨cs, rfl, hsz, _⟩ := hv
  obtain ⟨c0, c1, c2, c3, rfl⟩ := array4 (hsz.trans Try.cells22)
  obtain ⟨fuel, hf⟩ := h
  obtain ⟨xs, n, _, _, hl, hlen, hfs⟩ := DataW.trod_array Try.underlying22 hf
  match xs, hlen with
  | [y0, y1, y2, y3], _ =>
    have h0 := hfs 0 (by omega)
    have h1 := hfs 1 (by omega)
    have h2 := hfs 2 (by omega)
    have h3 := hfs 3 (by omega)
    obtain ⟨z0, e0, _, w0⟩ := DataW.trod_int Try.underlying5 (h0.trans rfl)
    obtain ⟨z1, e1, _, w1⟩ := DataW.trod_int Try.underlying5 (h1.trans rfl)
    obtain ⟨z2, e2, _, w2⟩ := DataW.trod_int Try.underlying5 (h2.trans rfl)
    obtain ⟨z3, e3, _, w3⟩ := DataW.trod_int Try.underlying5 (h3.trans rfl)
    simp [Value.cells, Try.cells5] at e0 e1 e2 e3
    have b0 := bounds_u8 w0
    have b1 := bounds_u8 w1
    have b2 := bounds_u8 w2
    have b3 := bounds_u8 w3
    refine ⟨fun i => [UInt8.ofNat z0.toNat, UInt8.ofNat z1.toNat, UInt8.ofNat z2.toNat, UInt8.ofNat z3.toNat].getD i 0, ?_⟩
    show _ = Value.agg #[.int .u8 ((UInt8.ofNat z0.toNat).toNat : Int), .int .u8 ((UInt8.ofNat z1.toNat).toNat : Int), .int .u8 ((UInt8.ofNat z2.toNat).toNat : Int), .int .u8 ((UInt8.ofNat z3.toNat).toNat : Int)]
    rw [e0, e1, e2, e3, u8_nat (show z0.toNat < 256 by omega), u8_nat (show z1.toNat < 256 by omega), u8_nat (show z2.toNat < 256 by omega), u8_nat (show z3.toNat < 256 by omega),
      Int.toNat_of_nonneg b0.1, Int.toNat_of_nonneg b1.1, Int.toNat_of_nonneg b2.1, Int.toNat_of_nonneg b3.1]
end Go.Proofs.Ytdbledfpphkppaa
