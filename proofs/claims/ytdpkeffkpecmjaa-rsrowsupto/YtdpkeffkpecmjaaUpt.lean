/- How bytes among the arguments read where the bulk is bounded. -/
import Derived.Test.YtdpkeffkpecmjaaRows
import Derived.Test.YtdpkeffkpecmjaaOpn
namespace Go.Proofs.Ytdpkeffkpecmjaa
open Go.ChangeShapes Go.WideShapes Go.ChangeAt Go.RowKit
set_option linter.unusedVariables false

theorem bulk_of {H : Type} {ds : List (DataW H)} (h : Rows.uptoSmall H ds = true) : Rows.uptoBulkAll ds ≤ 1048576 := by
  simpa [Rows.uptoSmall] using h
theorem bulk_lits {H : Type} (k : IntKind) : ∀ zs : List Int, Rows.uptoBulkAll (H := H) (lits k zs) = zs.length
  | [] => rfl
  | z :: zs => by
    have := bulk_lits (H := H) k zs
    show Rows.uptoBulk (H := H) (.lit (.int k z)) + Rows.uptoBulkAll (H := H) (lits k zs) = _
    rw [this]
    simp only [Rows.uptoBulk, List.length_cons]
    omega
set_option maxRecDepth 100000 in
theorem open_bytesU {H : Type} {enc : TypeId × Value → H} {W : World} {r : Reach} {b0 base : Nat} {spare : Nat → Bool} {held : Bool} {v : Value} {d : DataW H} {p : List MemPlace}
    (hv : Value.okWide Try.prog W r b0 22 v) (h : DataW.Trod enc Try.prog W base spare held 22 v d p) (hsp : ∀ b, spare b = true) :
    ∃ (bs : List UInt8) (a : Option Addr) (cap : Nat), v = .slice a bs.length cap ∧ bs.length ≤ cap ∧ bs.length ≤ Rows.uptoBulk d ∧ ByAt W (.slice a bs.length cap) bs := by
  obtain ⟨a', l', c', rfl⟩ := okWide_slice Try.underlying22 hv
  obtain ⟨m, h3⟩ := h
  rcases open_ints Try.underlying22 Try.underlying5 Try.cells5 h3 with ⟨hcs, hx⟩ | ⟨a, len, cap, zs, hcs, _, hl, hm, hz, hx, hcell, hws⟩
  · simp only [Value.cells, List.cons.injEq, and_true] at hcs
    exact ⟨[], none, 0, hcs, by simp, by simp, .inl ⟨rfl, none, 0, rfl, fun _ => rfl⟩⟩
  · simp only [Value.cells, List.cons.injEq, and_true] at hcs
    rw [hsp] at hz
    simp only [if_true] at hz
    have hd : d = .slice (lits .u8 (zs.take len)) (lits .u8 (zs.drop len)) := congrArg Prod.fst hx
    have hlen : ((zs.take len).map fun z : Int => UInt8.ofNat z.toNat).length = len := by simp; omega
    refine ⟨(zs.take len).map fun z : Int => UInt8.ofNat z.toNat, some a, cap, by rw [hlen]; exact hcs, by rw [hlen]; exact hl, ?_, ?_⟩
    · rw [hlen, hd]
      show len ≤ Rows.uptoBulkAll (H := H) (lits .u8 (zs.take len)) + Rows.uptoBulkAll (H := H) (lits .u8 (zs.drop len)) + 1
      rw [bulk_lits, bulk_lits]
      simp; omega
    by_cases h0 : len = 0
    · subst h0
      exact .inl ⟨by simp, some a, cap, by simp, nofun⟩
    · have h00 := hcell 0 (by omega)
      obtain ⟨g, off, spot⟩ := a
      have hspot : spot = none := by simpa [Addr.add] using World.cell?_spot h00
      subst hspot
      rw [hlen]
      refine .inr ⟨g, off, cap, by rw [hlen], ?_, fun j hj => ?_⟩
      · have h1 := World.block_lt_of_cell? W _ h00
        simpa [Addr.add] using h1
      · rw [hlen] at hj
        have := hcell j (by omega)
        rw [show (⟨g, off, none⟩ : Addr).add j = ⟨g, off + j, none⟩ from Addr.add_lit ..] at this
        rw [this]
        have hj' : j < zs.length := by omega
        have hb := bounds_u8 (hws zs[j] (List.getElem_mem hj'))
        have e1 : zs.getD j 0 = zs[j] := by simp [List.getD, hj']
        have e2 : ((zs.take len).map fun z : Int => UInt8.ofNat z.toNat).getD j 0 = UInt8.ofNat zs[j].toNat := by simp [List.getD, hj, hj']
        rw [e1, e2]
        unfold encB
        rw [UInt8.toNat_ofNat', Nat.mod_eq_of_lt (by omega), Int.toNat_of_nonneg hb.1]
end Go.Proofs.Ytdpkeffkpecmjaa
