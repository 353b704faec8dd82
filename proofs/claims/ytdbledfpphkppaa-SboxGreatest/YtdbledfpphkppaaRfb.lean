/- What the document's Box answers. -/
import Derived.Test.YtdbledfpphkppaaRfa
namespace Go.Proofs.Ytdbledfpphkppaa
open Go.RowKit
set_option linter.unusedVariables false

/-- A slice value of these bytes, with its place and its spare room. -/
structure SlAt (w : World) (v : Value) (l : List UInt8) : Prop where
  shape : ∃ a cap, v = .slice a l.length cap ∧ l.length ≤ cap ∧ cap ≤ 9223372036854775807
  by' : ByAt w v l
theorem SlAt.next {w w' : World} {v : Value} {l : List UInt8} (h : SlAt w v l) (hb : Below w.heap.size w w') : SlAt w' v l := ⟨h.shape, h.by'.next hb⟩
theorem SlAt.row {w : World} {g : Nat} {L : List UInt8} (h : RowAt w g L) {n : Nat} (hn : n = L.length) (hm : n ≤ 9223372036854775807) : SlAt w (.slice (some ⟨g, 0, none⟩) n n) L := by
  subst hn
  refine ⟨⟨_, _, rfl, Nat.le_refl _, hm⟩, ?_⟩
  have := h.by 0 L.length L.length (by omega)
  rwa [List.drop_zero, List.take_length] at this
theorem by_new (w : World) (b : UInt8) (x : Int) (hx : x = (b.toNat : Int)) : ByAt (w.alloc (.cells #[.int .u8 x] (5 : TypeId))) (.slice (some ⟨w.heap.size, 0, none⟩) 1 1) [b] := by
  have : RowAt (w.alloc (.cells ([b].map encB).toArray (5 : TypeId))) w.heap.size [b] := heap_alloc_last _ _
  subst hx
  exact (SlAt.row this (n := 1) rfl (by omega)).by'
def boxTo (k : Nat) : List UInt8 := (List.range k).map fun i => subS (UInt8.ofNat i)
theorem box_succ (k : Nat) : boxTo (k + 1) = boxTo k ++ [subS (UInt8.ofNat k)] := by unfold boxTo; rw [List.range_succ, List.map_append]; rfl
theorem box_len (k : Nat) : (boxTo k).length = k := by simp [boxTo]
theorem box_tb {x : Nat} (hx : x < 256) : tbN (boxTo 256) x = sbN x := by
  unfold tbN boxTo
  rw [List.getD_eq_getElem?_getD, List.getElem?_map, List.getElem?_range hx]
  show (subS (UInt8.ofNat x)).toNat = _
  rw [sub_sb, u8_nat hx]
set_option maxRecDepth 100000 in
set_option maxHeartbeats 400000 in
theorem refBox_any (w : World) : Calls Try.prog 64 #[] w fun e w' => ∃ v, e = .returned v ∧ w'.ownsRow w.heap.size 5 1 v 256 ((boxTo 256).map encB) ∧ Below w.heap.size w w' := by
  have HS : Hid (∀ x : Nat, x < 256 → ∀ w, Calls Try.prog 12 #[.int .u8 (x : Int)] w fun e w' => e = .returned (.int .u8 ((subS (UInt8.ofNat x)).toNat : Int)) ∧ Below w.heap.size w w') := fun x hx w => by
    have := refSub_any (UInt8.ofNat x) w
    rw [u8_nat hx] at this; exact this
  have HAL : Hid (∀ (w' : World) o, Below w'.heap.size w' (w'.alloc o)) := fun w' o => (Below.refl _ _).alloc (Nat.le_refl _) o
  go_enter Try.func64, Try.ntmps64
  go_wp2_with fail
  go_loopw [1, 2] (fun o i wr => ∃ k : Nat, k ≤ 256 ∧ i = .int .i64 k ∧ wr.ownsRow w.heap.size 5 1 o k ((boxTo k).map encB) ∧ Below w.heap.size w wr) (fun _ i _ => 256 - (intOf i).toNat)
  case atStart => exact ⟨0, Nat.zero_le _, rfl, World.ownsRow_nil _ _ _ _, Below.refl _ _⟩
  case round =>
    obtain ⟨k, hk, rfl, hown, hbel⟩ := hrel
    have HBL := hidD hbel
    have HOW := hidD hown
    by_cases hlt : k < 256
    · have hlti : (k : Int) < 256 := by omega
      have HE := hidD (HS.out k hlt)
      have HN := hidD (box_succ k)
      have HBS : Hid (∀ w' : World, ByAt (w'.alloc (.cells #[.int .u8 ((subS (UInt8.ofNat k)).toNat : Int)] (5 : TypeId))) (.slice (some ⟨w'.heap.size, 0, none⟩) 1 1) [subS (UInt8.ofNat k)]) := fun w' => by_new w' _ _ rfl
      generalize hb : subS (UInt8.ofNat k) = b at *
      generalize hX : (b.toNat : Int) = X at *
      generalize boxTo k = L at *
      clear hown hbel hb hX
      go_wp2_with (first
        | (go_at_call 12; refine (HE.out _).mono ?_; rintro e w3 ⟨rfl, hb3⟩; have HO3 := hidD (row_below HOW.out hb3); have HB3 := hidD (Below.next HBL.out hb3); clear hb3)
        | (at_builtin; refine wpList_append_by rfl _ _ rfl w.heap.size u1 k (L.map encB) rfl (HO3.out.alloc _) (.slice (some ⟨w3.heap.size, 0, none⟩) 1 1) [b] rfl (HBS.out w3) (by simp; omega) (by have := HB3.out.size; simp; omega) ?_; intro v8 w8 hown8 hg8; have HO8 := hidD hown8; have HB8 := hidD (row_grown (HO3.out.alloc _) (Below.next HB3.out (HAL.out _ _)) hg8 (by have := HB3.out.size; simp; omega)); clear hown8 hg8))
      go_roundw
      case rel => exact ⟨k + 1, by omega, by go_num, by rw [HN.out, List.map_append]; exact HO8.out, HB8.out⟩
      case measure => simp [intOf]; omega
    · obtain rfl : k = 256 := by omega
      clear hown hbel
      go_wp2_with fail
      go_ret
      exact ⟨_, rfl, HOW.out, HBL.out⟩
end Go.Proofs.Ytdbledfpphkppaa
