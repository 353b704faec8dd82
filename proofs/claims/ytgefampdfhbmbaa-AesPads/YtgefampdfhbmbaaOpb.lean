/- How a block among the arguments reads. -/
import Derived.Test.YtgefampdfhbmbaaOpn
import Derived.Test.YtgefampdfhbmbaaMe
namespace Go.Proofs.Ytgefampdfhbmbaa
open Go.ChangeShapes Go.WideShapes Go.ChangeAt Go.RowKit Go.Joins
set_option linter.unusedVariables false

theorem Try.cells50 : Try.prog.cellsOf 50 = 16 := by kernel_rfl
theorem array16 {cs : Array Value} (h : cs.size = 16) : ∃ c0 c1 c2 c3 c4 c5 c6 c7 c8 c9 c10 c11 c12 c13 c14 c15, cs = #[c0, c1, c2, c3, c4, c5, c6, c7, c8, c9, c10, c11, c12, c13, c14, c15] := by
  obtain ⟨l⟩ := cs
  match l, h with
  | [c0, c1, c2, c3, c4, c5, c6, c7, c8, c9, c10, c11, c12, c13, c14, c15], _ => exact ⟨c0, c1, c2, c3, c4, c5, c6, c7, c8, c9, c10, c11, c12, c13, c14, c15, rfl⟩
theorem open_blk {H : Type} {enc : TypeId × Value → H} {W : World} {r : Reach} {b0 base : Nat} {spare : Nat → Bool} {held : Bool} {v : Value} {d : DataW H} {p : List MemPlace} (hv : Value.okWide Try.prog W r b0 50 v) (h : DataW.Trod enc Try.prog W base spare held 50 v d p) :
    ∃ c : Nat → UInt8, v = .agg (bR c) := by
  unfold Value.okWide at hv
  rw [Try.underlying50] at hv
  obtain ⟨cs, rfl, hsz, _⟩ := hv
  obtain ⟨c0, c1, c2, c3, c4, c5, c6, c7, c8, c9, c10, c11, c12, c13, c14, c15, rfl⟩ := array16 (hsz.trans Try.cells50)
  obtain ⟨fuel, hf⟩ := h
  obtain ⟨xs, n, _, _, hl, hlen, hfs⟩ := DataW.trod_array Try.underlying50 hf
  match xs, hlen with
  | [y0, y1, y2, y3, y4, y5, y6, y7, y8, y9, y10, y11, y12, y13, y14, y15], _ =>
    obtain ⟨z0, e0, _, w0⟩ := DataW.trod_int Try.underlying5 ((hfs 0 (by omega)).trans rfl)
    obtain ⟨z1, e1, _, w1⟩ := DataW.trod_int Try.underlying5 ((hfs 1 (by omega)).trans rfl)
    obtain ⟨z2, e2, _, w2⟩ := DataW.trod_int Try.underlying5 ((hfs 2 (by omega)).trans rfl)
    obtain ⟨z3, e3, _, w3⟩ := DataW.trod_int Try.underlying5 ((hfs 3 (by omega)).trans rfl)
    obtain ⟨z4, e4, _, w4⟩ := DataW.trod_int Try.underlying5 ((hfs 4 (by omega)).trans rfl)
    obtain ⟨z5, e5, _, w5⟩ := DataW.trod_int Try.underlying5 ((hfs 5 (by omega)).trans rfl)
    obtain ⟨z6, e6, _, w6⟩ := DataW.trod_int Try.underlying5 ((hfs 6 (by omega)).trans rfl)
    obtain ⟨z7, e7, _, w7⟩ := DataW.trod_int Try.underlying5 ((hfs 7 (by omega)).trans rfl)
    obtain ⟨z8, e8, _, w8⟩ := DataW.trod_int Try.underlying5 ((hfs 8 (by omega)).trans rfl)
    obtain ⟨z9, e9, _, w9⟩ := DataW.trod_int Try.underlying5 ((hfs 9 (by omega)).trans rfl)
    obtain ⟨z10, e10, _, w10⟩ := DataW.trod_int Try.underlying5 ((hfs 10 (by omega)).trans rfl)
    obtain ⟨z11, e11, _, w11⟩ := DataW.trod_int Try.underlying5 ((hfs 11 (by omega)).trans rfl)
    obtain ⟨z12, e12, _, w12⟩ := DataW.trod_int Try.underlying5 ((hfs 12 (by omega)).trans rfl)
    obtain ⟨z13, e13, _, w13⟩ := DataW.trod_int Try.underlying5 ((hfs 13 (by omega)).trans rfl)
    obtain ⟨z14, e14, _, w14⟩ := DataW.trod_int Try.underlying5 ((hfs 14 (by omega)).trans rfl)
    obtain ⟨z15, e15, _, w15⟩ := DataW.trod_int Try.underlying5 ((hfs 15 (by omega)).trans rfl)
    simp [Value.cells, Try.cells5] at e0 e1 e2 e3 e4 e5 e6 e7 e8 e9 e10 e11 e12 e13 e14 e15
    have b0 := bounds_u8 w0
    have b1 := bounds_u8 w1
    have b2 := bounds_u8 w2
    have b3 := bounds_u8 w3
    have b4 := bounds_u8 w4
    have b5 := bounds_u8 w5
    have b6 := bounds_u8 w6
    have b7 := bounds_u8 w7
    have b8 := bounds_u8 w8
    have b9 := bounds_u8 w9
    have b10 := bounds_u8 w10
    have b11 := bounds_u8 w11
    have b12 := bounds_u8 w12
    have b13 := bounds_u8 w13
    have b14 := bounds_u8 w14
    have b15 := bounds_u8 w15
    refine ⟨fun i => [UInt8.ofNat z0.toNat, UInt8.ofNat z1.toNat, UInt8.ofNat z2.toNat, UInt8.ofNat z3.toNat, UInt8.ofNat z4.toNat, UInt8.ofNat z5.toNat, UInt8.ofNat z6.toNat, UInt8.ofNat z7.toNat, UInt8.ofNat z8.toNat, UInt8.ofNat z9.toNat, UInt8.ofNat z10.toNat, UInt8.ofNat z11.toNat, UInt8.ofNat z12.toNat, UInt8.ofNat z13.toNat, UInt8.ofNat z14.toNat, UInt8.ofNat z15.toNat].getD i 0, ?_⟩
    show _ = Value.agg #[.int .u8 ((UInt8.ofNat z0.toNat).toNat : Int), .int .u8 ((UInt8.ofNat z1.toNat).toNat : Int), .int .u8 ((UInt8.ofNat z2.toNat).toNat : Int), .int .u8 ((UInt8.ofNat z3.toNat).toNat : Int), .int .u8 ((UInt8.ofNat z4.toNat).toNat : Int), .int .u8 ((UInt8.ofNat z5.toNat).toNat : Int), .int .u8 ((UInt8.ofNat z6.toNat).toNat : Int), .int .u8 ((UInt8.ofNat z7.toNat).toNat : Int), .int .u8 ((UInt8.ofNat z8.toNat).toNat : Int), .int .u8 ((UInt8.ofNat z9.toNat).toNat : Int), .int .u8 ((UInt8.ofNat z10.toNat).toNat : Int), .int .u8 ((UInt8.ofNat z11.toNat).toNat : Int), .int .u8 ((UInt8.ofNat z12.toNat).toNat : Int), .int .u8 ((UInt8.ofNat z13.toNat).toNat : Int), .int .u8 ((UInt8.ofNat z14.toNat).toNat : Int), .int .u8 ((UInt8.ofNat z15.toNat).toNat : Int)]
    rw [e0, e1, e2, e3, e4, e5, e6, e7, e8, e9, e10, e11, e12, e13, e14, e15, u8_nat (show z0.toNat < 256 by omega), u8_nat (show z1.toNat < 256 by omega), u8_nat (show z2.toNat < 256 by omega), u8_nat (show z3.toNat < 256 by omega), u8_nat (show z4.toNat < 256 by omega), u8_nat (show z5.toNat < 256 by omega), u8_nat (show z6.toNat < 256 by omega), u8_nat (show z7.toNat < 256 by omega), u8_nat (show z8.toNat < 256 by omega), u8_nat (show z9.toNat < 256 by omega), u8_nat (show z10.toNat < 256 by omega), u8_nat (show z11.toNat < 256 by omega), u8_nat (show z12.toNat < 256 by omega), u8_nat (show z13.toNat < 256 by omega), u8_nat (show z14.toNat < 256 by omega), u8_nat (show z15.toNat < 256 by omega), Int.toNat_of_nonneg b0.1, Int.toNat_of_nonneg b1.1, Int.toNat_of_nonneg b2.1, Int.toNat_of_nonneg b3.1, Int.toNat_of_nonneg b4.1, Int.toNat_of_nonneg b5.1, Int.toNat_of_nonneg b6.1, Int.toNat_of_nonneg b7.1, Int.toNat_of_nonneg b8.1, Int.toNat_of_nonneg b9.1, Int.toNat_of_nonneg b10.1, Int.toNat_of_nonneg b11.1, Int.toNat_of_nonneg b12.1, Int.toNat_of_nonneg b13.1, Int.toNat_of_nonneg b14.1, Int.toNat_of_nonneg b15.1]
end Go.Proofs.Ytgefampdfhbmbaa
