/- What alive of the statements answers. -/
import Derived.Test.YtdpkeffkpecmjaaOwn5
namespace Go.Proofs.Ytdpkeffkpecmjaa
open Go.RowKit
set_option linter.unusedVariables false

theorem Below.next {w w1 w2 : World} (h : Below w.heap.size w w1) (k : Below w1.heap.size w1 w2) : Below w.heap.size w w2 := h.trans (k.mono h.size)
theorem one_d : ordS 29 2 = 255 := by decide +kernel
theorem one_b : ordS 27 2 = 51 := by decide +kernel
theorem irr_d : irrS (256 + (29 : UInt8).toNat) = true := by decide +kernel
theorem alv1 : lg 29 2 29 = 8 := by
  have h : pw 29 2 8 = 29 := by decide +kernel
  have := lg_pw one_d (n := 8) (by omega)
  rwa [h] at this
theorem alv2 : pwI 29 2 8 = 29 := by decide +kernel
theorem alv3 : bm 27 87 131 = 193 := by decide +kernel
theorem alv4 : bm 27 2 128 = 27 := by decide +kernel
theorem alv5 : inv 27 2 = 141 := by decide +kernel
theorem alv6 : mulS 29 [1, 1] [1, 1] = [1, 0, 1] := by decide +kernel
theorem alv7 : trimS [1, 1] ≠ [] := by decide +kernel
theorem row_new (w : World) (L : List UInt8) : RowAt (w.alloc (.cells (L.map encB).toArray (5 : TypeId))) w.heap.size L := heap_alloc_last _ _
theorem sl_new (w : World) (L : List UInt8) (cs : Array Value) (n : Nat) (hcs : cs = (L.map encB).toArray) (hn : n = L.length) (hm : n ≤ 1000) : SlAt (w.alloc (.cells cs (5 : TypeId))) (.slice (some ⟨w.heap.size, 0, none⟩) n n) L := by
  subst hcs
  exact SlAt.row (row_new w L) hn (by omega)

end Go.Proofs.Ytdpkeffkpecmjaa
