/- What the statements' alive answers. -/
import Derived.Test.YtgefampdfhbmbaaLw2
namespace Go.Proofs.Ytgefampdfhbmbaa
open Go.RowKit
set_option linter.unusedVariables false

theorem sl_shape {w : World} {v : Value} {l : List UInt8} (h : SlAt w v l) : ∃ a n c, v = .slice a n c := by
  obtain ⟨a, c, h1, _⟩ := h.shape
  exact ⟨a, _, c, h1⟩
theorem lit_by (w : World) (L : List UInt8) (C : Array Value) (hC : C = (L.map encB).toArray) (n : Nat) (hn : n = L.length) : ByAt (w.alloc (.cells C (5 : TypeId))) (.slice (some ⟨w.heap.size, 0, none⟩) n n) L := by
  subst hC hn
  refine .inr ⟨w.heap.size, 0, L.length, rfl, by simp, fun j hj => ?_⟩
  rw [Nat.zero_add, cell_of_row _ _ _ _ _ _ (heap_alloc_last _ _), List.getElem?_toArray, List.getElem?_map, List.getElem?_eq_getElem hj, List.getD_eq_getElem?_getD, List.getElem?_eq_getElem hj]; rfl
set_option maxRecDepth 100000 in
set_option maxHeartbeats 1600000 in
theorem alive_any (w : World) : Calls Try.prog 10 #[] w fun e w' => e = .returned (.bool true) ∧ Below w.heap.size w w' := by
  have HAL : Hid (∀ (w' : World) o, Below w'.heap.size w' (w'.alloc o)) := fun w' o => (Below.refl _ _).alloc (Nat.le_refl _) o
  have HPN : Hid (∀ wA vA, SlAt wA vA exK → Calls Try.prog 38 #[vA] wA fun e w' => ∃ p, e = .returned (.tuple #[.pointer (some ⟨p, 0, none⟩), .int .i64 0]) ∧ AcAt w' wA.heap.size p 4 (blk exK) ∧ Below wA.heap.size wA w') := fun wA vA h => pNew_any exK 4 (.inl rfl) rfl vA wA h
  have HPE : Hid (∀ wA vA B p, AcAt wA B p 4 (blk exK) → ByAt wA vA exI → Calls Try.prog 16 #[.pointer (some ⟨p, 0, none⟩), vA] wA fun e w' => ∃ vo, e = .returned (.tuple #[vo, .int .i64 0]) ∧ SlAt w' vo exO ∧ Below wA.heap.size wA w') := fun wA vA B p ha hv => by
    have := pEncrypt_any exI rfl 4 B p (by omega) (blk exK) vA wA ha hv
    rw [ex_all] at this
    exact this
  have HPD : Hid (∀ wA vA B p, AcAt wA B p 4 (blk exK) → ByAt wA vA exO → Calls Try.prog 18 #[.pointer (some ⟨p, 0, none⟩), vA] wA fun e w' => ∃ vo, e = .returned (.tuple #[vo, .int .i64 0]) ∧ SlAt w' vo exI ∧ Below wA.heap.size wA w') := fun wA vA B p ha hv => by
    have := pDecrypt_any exO rfl 4 B p (by omega) (blk exK) vA wA ha hv
    rw [ex_back] at this
    exact this
  have HPR : Hid (∀ wA B p, AcAt wA B p 4 (blk exK) → Calls Try.prog 14 #[.pointer (some ⟨p, 0, none⟩)] wA fun e w' => e = .returned (.int .i64 10) ∧ Below wA.heap.size wA w') := fun wA B p ha => pRounds_any 4 B p (blk exK) wA ha
  have HSO : Hid (∀ wA u v, ByAt wA u exO → ByAt wA v exO → Calls Try.prog 13 #[u, v] wA fun e w' => e = .returned (.bool true) ∧ w' = wA) := fun wA u v hu hv => by
    have := same_any exO exO u v wA hu hv
    rw [decide_eq_true rfl] at this
    exact this
  have HSI : Hid (∀ wA u v, ByAt wA u exI → ByAt wA v exI → Calls Try.prog 13 #[u, v] wA fun e w' => e = .returned (.bool true) ∧ w' = wA) := fun wA u v hu hv => by
    have := same_any exI exI u v wA hu hv
    rw [decide_eq_true rfl] at this
    exact this
  have HLK : Hid (∀ w : World, SlAt (w.alloc (.cells #[.int .u8 0, .int .u8 1, .int .u8 2, .int .u8 3, .int .u8 4, .int .u8 5, .int .u8 6, .int .u8 7, .int .u8 8, .int .u8 9, .int .u8 10, .int .u8 11, .int .u8 12, .int .u8 13, .int .u8 14, .int .u8 15] (5 : TypeId))) (.slice (some ⟨w.heap.size, 0, none⟩) 16 16) exK) := fun w => ⟨⟨_, 16, rfl, by decide, by omega⟩, lit_by w exK _ rfl 16 rfl⟩
  have HLI : Hid (∀ w : World, ByAt (w.alloc (.cells #[.int .u8 0, .int .u8 17, .int .u8 34, .int .u8 51, .int .u8 68, .int .u8 85, .int .u8 102, .int .u8 119, .int .u8 136, .int .u8 153, .int .u8 170, .int .u8 187, .int .u8 204, .int .u8 221, .int .u8 238, .int .u8 255] (5 : TypeId))) (.slice (some ⟨w.heap.size, 0, none⟩) 16 16) exI) := fun w => lit_by w exI _ rfl 16 rfl
  have HLO : Hid (∀ w : World, ByAt (w.alloc (.cells #[.int .u8 105, .int .u8 196, .int .u8 224, .int .u8 216, .int .u8 106, .int .u8 123, .int .u8 4, .int .u8 48, .int .u8 216, .int .u8 205, .int .u8 183, .int .u8 128, .int .u8 112, .int .u8 180, .int .u8 197, .int .u8 90] (5 : TypeId))) (.slice (some ⟨w.heap.size, 0, none⟩) 16 16) exO) := fun w => lit_by w exO _ rfl 16 rfl
  have HK2 : Hid (SlAt ((w.alloc (.cells #[.int .u8 0, .int .u8 1, .int .u8 2, .int .u8 3, .int .u8 4, .int .u8 5, .int .u8 6, .int .u8 7, .int .u8 8, .int .u8 9, .int .u8 10, .int .u8 11, .int .u8 12, .int .u8 13, .int .u8 14, .int .u8 15] (5 : TypeId))).alloc (.cells #[.int .u8 0, .int .u8 17, .int .u8 34, .int .u8 51, .int .u8 68, .int .u8 85, .int .u8 102, .int .u8 119, .int .u8 136, .int .u8 153, .int .u8 170, .int .u8 187, .int .u8 204, .int .u8 221, .int .u8 238, .int .u8 255] (5 : TypeId))) (.slice (some ⟨w.heap.size, 0, none⟩) 16 16) exK) := (HLK.out w).next (HAL.out _ _)
  have HI2 : Hid (ByAt ((w.alloc (.cells #[.int .u8 0, .int .u8 1, .int .u8 2, .int .u8 3, .int .u8 4, .int .u8 5, .int .u8 6, .int .u8 7, .int .u8 8, .int .u8 9, .int .u8 10, .int .u8 11, .int .u8 12, .int .u8 13, .int .u8 14, .int .u8 15] (5 : TypeId))).alloc (.cells #[.int .u8 0, .int .u8 17, .int .u8 34, .int .u8 51, .int .u8 68, .int .u8 85, .int .u8 102, .int .u8 119, .int .u8 136, .int .u8 153, .int .u8 170, .int .u8 187, .int .u8 204, .int .u8 221, .int .u8 238, .int .u8 255] (5 : TypeId))) (.slice (some ⟨w.heap.size + 1, 0, none⟩) 16 16) exI) := by
    have h1 := HLI.out (w.alloc (.cells #[.int .u8 0, .int .u8 1, .int .u8 2, .int .u8 3, .int .u8 4, .int .u8 5, .int .u8 6, .int .u8 7, .int .u8 8, .int .u8 9, .int .u8 10, .int .u8 11, .int .u8 12, .int .u8 13, .int .u8 14, .int .u8 15] (5 : TypeId)))
    rw [show (w.alloc (.cells #[.int .u8 0, .int .u8 1, .int .u8 2, .int .u8 3, .int .u8 4, .int .u8 5, .int .u8 6, .int .u8 7, .int .u8 8, .int .u8 9, .int .u8 10, .int .u8 11, .int .u8 12, .int .u8 13, .int .u8 14, .int .u8 15] (5 : TypeId))).heap.size = w.heap.size + 1 by simp] at h1
    exact h1
  have HB2 : Hid (Below w.heap.size w ((w.alloc (.cells #[.int .u8 0, .int .u8 1, .int .u8 2, .int .u8 3, .int .u8 4, .int .u8 5, .int .u8 6, .int .u8 7, .int .u8 8, .int .u8 9, .int .u8 10, .int .u8 11, .int .u8 12, .int .u8 13, .int .u8 14, .int .u8 15] (5 : TypeId))).alloc (.cells #[.int .u8 0, .int .u8 17, .int .u8 34, .int .u8 51, .int .u8 68, .int .u8 85, .int .u8 102, .int .u8 119, .int .u8 136, .int .u8 153, .int .u8 170, .int .u8 187, .int .u8 204, .int .u8 221, .int .u8 238, .int .u8 255] (5 : TypeId)))) := Below.next (HAL.out _ _) (HAL.out _ _)
  generalize exK = xK at *
  generalize exI = xI at *
  generalize exO = xO at *
  go_enter Try.func10, Try.ntmps10
  go_wp2_with (first
    | (go_at_call 38; refine (HPN.out _ _ HK2.out).mono ?_; rintro e w3 ⟨p, rfl, hac, hb3⟩; have HA3 := hidD hac; have HB3 : Hid (Below w.heap.size w w3) := Below.next HB2.out hb3; have HI3 := hidD (HI2.out.next hb3); clear hac hb3 HK2 HI2 HB2)
    | (go_at_call 16; refine (HPE.out _ _ _ _ HA3.out HI3.out).mono ?_; rintro e w4 ⟨vo, rfl, hsl, hb4⟩; obtain ⟨ao, no, co, hvo⟩ := sl_shape hsl; subst hvo; have HS4 := hidD hsl; have HA4 := hidD (HA3.out.next hb4); have HI4 := hidD (HI3.out.next hb4); have HB4 : Hid (Below w.heap.size w w4) := Below.next HB3.out hb4; clear hsl hb4 HA3 HI3 HB3)
    | (go_at_call 18; refine (HPD.out _ _ _ _ HA4.out HS4.out.by').mono ?_; rintro e w5 ⟨vo, rfl, hsl, hb5⟩; obtain ⟨ab, nb, cb, hvo⟩ := sl_shape hsl; subst hvo; have HS5 := hidD hsl; have HA5 := hidD (HA4.out.next hb5); have HI5 := hidD (HI4.out.next hb5); have HO5 := hidD (HS4.out.next hb5); have HB5 : Hid (Below w.heap.size w w5) := Below.next HB4.out hb5; clear hsl hb5 HA4 HI4 HB4 HS4)
    | (go_at_call 13; refine (HSO.out _ _ _ (HO5.out.by'.next (HAL.out _ _)) (HLO.out _)).mono ?_; rintro e w6 ⟨rfl, hw6⟩; have HA6 : Hid (AcAt w6 _ p 4 (blk xK)) := by { rw [hw6]; exact HA5.out.next (HAL.out _ _) }; have HI6 : Hid (ByAt w6 _ xI) := by { rw [hw6]; exact HI5.out.next (HAL.out _ _) }; have HO6 : Hid (ByAt w6 _ xI) := by { rw [hw6]; exact HS5.out.by'.next (HAL.out _ _) }; have HB6 : Hid (Below w.heap.size w w6) := by { rw [hw6]; exact Below.next HB5.out (HAL.out _ _) }; clear hw6 HSO HA5 HI5 HS5 HO5 HB5)
    | (go_at_call 13; refine (HSI.out _ _ _ HO6.out HI6.out).mono ?_; rintro e w7 ⟨rfl, hw7⟩; have HA7 : Hid (AcAt w7 _ p 4 (blk xK)) := by { rw [hw7]; exact HA6.out }; have HB7 : Hid (Below w.heap.size w w7) := by { rw [hw7]; exact HB6.out }; clear hw7 HSI HA6 HI6 HO6 HB6)
    | (go_at_call 14; refine (HPR.out _ _ _ HA7.out).mono ?_; rintro e w8 ⟨rfl, hb8⟩; have HB8 : Hid (Below w.heap.size w w8) := Below.next HB7.out hb8; clear hb8))
  go_ret
  exact ⟨rfl, HB8.out⟩
end Go.Proofs.Ytgefampdfhbmbaa
