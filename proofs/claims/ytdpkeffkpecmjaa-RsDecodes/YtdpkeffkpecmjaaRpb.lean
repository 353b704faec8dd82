/- What the document's Plus and Times answer. -/
import Derived.Test.YtdpkeffkpecmjaaRpa
namespace Go.Proofs.Ytdpkeffkpecmjaa
open Go.RowKit
set_option linter.unusedVariables false

theorem zero_xor_u8 (x : UInt8) : bits .xor .u8 0 (x.toNat : Int) = (x.toNat : Int) := by
  have := u8_xor_nat 0 x.toNat (by omega) (u8_lt x)
  rwa [Nat.zero_xor] at this
theorem xor_u8 (x y : UInt8) : bits .xor .u8 (x.toNat : Int) (y.toNat : Int) = ((x ^^^ y).toNat : Int) := by rw [u8_xor_nat _ _ (u8_lt x) (u8_lt y), UInt8.toNat_xor]
theorem plus_take (p q : List UInt8) (k : Nat) (h : k < max p.length q.length) : ((plusS p q).take (k + 1)).map encB = ((plusS p q).take k).map encB ++ [.int .u8 ((cf p k ^^^ cf q k).toNat : Int)] := by
  have hl : (plusS p q).length = max p.length q.length := by simp [plusS]
  have := cf_get (l := plusS p q) (k := k) (by omega)
  rw [List.take_add_one, this, cf_plus]
  simp [encB]
theorem append_one {w : World} {base : Nat} {v : Value} {n : Nat} {xs : List Value} (x : UInt8) (h : w.ownsRow base 5 1 v n xs) : ByAt (w.alloc (.cells #[.int .u8 (x.toNat : Int)] (5 : TypeId))) (.slice (some ⟨w.heap.size, 0, none⟩) 1 1) [x] := (sl_new w [x] _ 1 rfl rfl (by omega)).by'
end Go.Proofs.Ytdpkeffkpecmjaa
