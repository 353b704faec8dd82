/- What the document's Box answers. -/
import Derived.Test.YtdbledfpphkppabRfa
namespace Go.Proofs.Ytdbledfpphkppab
open Go.RowKit
set_option linter.unusedVariables false

/-- A slice value of these bytes, with its place and its spare room. -/
structure SlAt (w : World) (v : Value) (l : List UInt8) : Prop where
  shape : ∃ a cap, v = .slice a l.length cap ∧ l.length ≤ cap ∧ cap ≤ 9223372036854775807
  by' : ByAt w v l
theorem SlAt.next {w w' : World} {v : Value} {l : List UInt8} (h : SlAt w v l) (hb : Below w.heap.size w w') : SlAt w' v l := ⟨h.shape, h.by'.next hb⟩
theorem SlAt.row {w : World} {g : Nat} {L : List UInt8} (h : RowAt w g L) {n : Nat} (hn : n = L.length) (hm : n ≤ 9223372036854775807) : SlAt w (.slice (some ⟨g, 0, none⟩) n n) L := by
  subst hn
  refine ⟨⟨_, _, rfl, Nat.le_refl _, hm⟩, ?_⟩
  have := h.by 0 L.length L.length (by omega)
  rwa [List.drop_zero, List.take_length] at this
theorem by_new (w : World) (b : UInt8) (x : Int) (hx : x = (b.toNat : Int)) : ByAt (w.alloc (.cells #[.int .u8 x] (5 : TypeId))) (.slice (some ⟨w.heap.size, 0, none⟩) 1 1) [b] := by
  have : RowAt (w.alloc (.cells ([b].map encB).toArray (5 : TypeId))) w.heap.size [b] := heap_alloc_last _ _
  subst hx
  exact (SlAt.row this (n := 1) rfl (by omega)).by'
def boxTo (k : Nat) : List UInt8 := (List.range k).map fun i => subS (UInt8.ofNat i)
theorem box_succ (k : Nat) : boxTo (k + 1) = boxTo k ++ [subS (UInt8.ofNat k)] := by unfold boxTo; rw [List.range_succ, List.map_append]; rfl
theorem box_len (k : Nat) : (boxTo k).length = k := by simp [boxTo]
theorem box_tb {x : Nat} (hx : x < 256) : tbN (boxTo 256) x = sbN x := by
  unfold tbN boxTo
  rw [List.getD_eq_getElem?_getD, List.getElem?_map, List.getElem?_range hx]
  show (subS (UInt8.ofNat x)).toNat = _
  rw [sub_sb, u8_nat hx]
end Go.Proofs.Ytdbledfpphkppab
