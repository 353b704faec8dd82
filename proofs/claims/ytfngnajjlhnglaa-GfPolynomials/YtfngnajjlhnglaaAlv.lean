/- What alive of the statements answers. -/
import Derived.Test.YtfngnajjlhnglaaOwn5
namespace Go.Proofs.Ytfngnajjlhnglaa
open Go.RowKit
set_option linter.unusedVariables false

theorem Below.next {w w1 w2 : World} (h : Below w.heap.size w w1) (k : Below w1.heap.size w1 w2) : Below w.heap.size w w2 := h.trans (k.mono h.size)
theorem one_d : ordS 29 2 = 255 := by decide +kernel
theorem one_b : ordS 27 2 = 51 := by decide +kernel
theorem irr_d : irrS (256 + (29 : UInt8).toNat) = true := by decide +kernel
theorem alv1 : lg 29 2 29 = 8 := by
  have h : pw 29 2 8 = 29 := by decide +kernel
  have := lg_pw one_d (n := 8) (by omega)
  rwa [h] at this
theorem alv2 : pwI 29 2 8 = 29 := by decide +kernel
theorem alv3 : bm 27 87 131 = 193 := by decide +kernel
theorem alv4 : bm 27 2 128 = 27 := by decide +kernel
theorem alv5 : inv 27 2 = 141 := by decide +kernel
theorem alv6 : mulS 29 [1, 1] [1, 1] = [1, 0, 1] := by decide +kernel
theorem alv7 : trimS [1, 1] ≠ [] := by decide +kernel
theorem row_new (w : World) (L : List UInt8) : RowAt (w.alloc (.cells (L.map encB).toArray (5 : TypeId))) w.heap.size L := heap_alloc_last _ _
theorem sl_new (w : World) (L : List UInt8) (cs : Array Value) (n : Nat) (hcs : cs = (L.map encB).toArray) (hn : n = L.length) (hm : n ≤ 1000) : SlAt (w.alloc (.cells cs (5 : TypeId))) (.slice (some ⟨w.heap.size, 0, none⟩) n n) L := by
  subst hcs
  exact SlAt.row (row_new w L) hn (by omega)

set_option maxRecDepth 100000 in
set_option maxHeartbeats 800000 in
theorem alive_any (w : World) : Calls Try.prog 15 #[] w fun e w' => e = .returned (.bool true) ∧ Below w.heap.size w w' := by
  have HN1 := hidD (fun w => new_ok 29 2 285 rfl irr_d one_d w)
  have HN2 := hidD (fun w => new_bad 27 2 283 rfl (fun h => by rw [one_b] at h; omega) w)
  have HLG : Hid (∀ w b, FdAt w b 29 2 → Calls Try.prog 24 #[.pointer (some ⟨b, 0, none⟩), .int .u8 29] w fun e w' => e = .returned (.tuple #[.int .i64 8, .int .i64 0]) ∧ Below w.heap.size w w') := fun w b h => by
    have := log_some 29 (by decide) w h
    rw [alv1] at this; exact this
  have HEX : Hid (∀ w b, FdAt w b 29 2 → Calls Try.prog 28 #[.pointer (some ⟨b, 0, none⟩), .int .i64 8] w fun e w' => e = .returned (.int .u8 29) ∧ Below w.heap.size w w') := fun w b h => by
    have := exp_any 8 w h
    rw [alv2] at this; exact this
  have HC : Hid (∀ w, Calls Try.prog 9 #[.int .u8 87, .int .u8 131, .int .i64 283] w fun e w' => e = .returned (.int .u8 193) ∧ w' = w) := fun w => by
    have := carry_in 27 87 131 283 rfl w
    rw [alv3] at this; exact this
  have HM : Hid (∀ w, Calls Try.prog 45 #[.int .u8 2, .int .u8 128] w fun e w' => e = .returned (.int .u8 27) ∧ w' = w) := fun w => by
    have := gmul_any 2 128 w
    rw [alv4] at this; exact this
  have HI : Hid (∀ w, Calls Try.prog 46 #[.int .u8 2] w fun e w' => e = .returned (.int .u8 141) ∧ w' = w) := fun w => by
    have := inverse_any 2 w
    rw [alv5] at this; exact this
  have HT : Hid (∀ w b vp vq, FdAt w b 29 2 → SlAt w vp [1, 1] → SlAt w vq [1, 1] → Calls Try.prog 37 #[.pointer (some ⟨b, 0, none⟩), vp, vq] w fun e w' => ∃ v, e = .returned v ∧ SlAt w' v [1, 0, 1] ∧ Below w.heap.size w w') := fun w b vp vq hf hp hq => by
    have := times_some one_d [1, 1] [1, 1] alv7 alv7 (by decide) vp vq w hf hp hq
    rw [alv6] at this; exact this
  have HBY : Hid (∀ w vl vm, ByAt w vl [1, 0, 1] → ByAt w vm [1, 0, 1] → Calls Try.prog 34 #[vl, vm] w fun e w' => e = .returned (.bool true) ∧ w' = w) := fun w vl vm h1 h2 => bytes_any [1, 0, 1] [1, 0, 1] vl vm w h1 h2
  have HS2 : Hid (∀ w : World, SlAt (w.alloc (.cells #[.int .u8 1, .int .u8 1] (5 : TypeId))) (.slice (some ⟨w.heap.size, 0, none⟩) 2 2) [1, 1]) := fun w => sl_new w [1, 1] _ 2 rfl rfl (by omega)
  have HS3 : Hid (∀ w : World, SlAt (w.alloc (.cells #[.int .u8 1, .int .u8 0, .int .u8 1] (5 : TypeId))) (.slice (some ⟨w.heap.size, 0, none⟩) 3 3) [1, 0, 1]) := fun w => sl_new w [1, 0, 1] _ 3 rfl rfl (by omega)
  have HAL : Hid (∀ (w : World) o, Below w.heap.size w (w.alloc o)) := fun w o => (Below.refl _ _).alloc (Nat.le_refl _) o
  have HT2 : Hid (∀ (w : World) b, FdAt w b 29 2 → Calls Try.prog 37 #[.pointer (some ⟨b, 0, none⟩), .slice (some ⟨w.heap.size, 0, none⟩) 2 2, .slice (some ⟨w.heap.size + 1, 0, none⟩) 2 2] ((w.alloc (.cells #[.int .u8 1, .int .u8 1] (5 : TypeId))).alloc (.cells #[.int .u8 1, .int .u8 1] (5 : TypeId))) fun e w' => ∃ v, e = .returned v ∧ SlAt w' v [1, 0, 1] ∧ Below w.heap.size w w') := fun w b hf => by
    have e : w.heap.size + 1 = (w.alloc (.cells #[.int .u8 1, .int .u8 1] (5 : TypeId))).heap.size := by simp
    rw [e]
    refine (HT.out _ b _ _ ((hf.next (HAL.out _ _)).next (HAL.out _ _)) ((HS2.out w).next (HAL.out _ _)) (HS2.out _)).mono ?_
    rintro e w' ⟨v, rfl, hs, hb⟩
    exact ⟨v, rfl, hs, Below.next (Below.next (HAL.out _ _) (HAL.out _ _)) hb⟩
  go_enter Try.func15, Try.ntmps15
  go_wp2_with (first
    | (go_at_call 16; refine (HN1.out _).mono ?_; rintro e w1 ⟨b, rfl, hwb, hfd, hb1⟩; have HF1 := hidD hfd; have HB1 := hidD hb1; clear hfd hb1 hwb HN1)
    | (go_at_call 16; refine (HN2.out _).mono ?_; rintro e w2 ⟨rfl, hb2⟩; have HF2 := hidD (HF1.out.next hb2); have HB2 := hidD (Below.next HB1.out hb2); clear hb2 HN2)
    | (go_at_call 24; refine (HLG.out _ _ HF2.out).mono ?_; rintro e w3 ⟨rfl, hb3⟩; have HF3 := hidD (HF2.out.next hb3); have HB3 := hidD (Below.next HB2.out hb3); clear hb3)
    | (go_at_call 28; refine (HEX.out _ _ HF3.out).mono ?_; rintro e w4 ⟨rfl, hb4⟩; have HF4 := hidD (HF3.out.next hb4); have HB4 := hidD (Below.next HB3.out hb4); clear hb4)
    | (go_at_call 9; refine (HC.out _).mono ?_; rintro e w5 ⟨rfl, hb5⟩)
    | (go_at_call 45; refine (HM.out _).mono ?_; rintro e w5 ⟨rfl, hb5⟩)
    | (go_at_call 46; refine (HI.out _).mono ?_; rintro e w5 ⟨rfl, hb5⟩)
    | (go_at_call 37; refine (HT2.out w4 b HF4.out).mono ?_; rintro e w6 ⟨v6, rfl, hs6, hb6⟩; have HS6 := hidD hs6; have HB6 := hidD (Below.next HB4.out hb6); clear hs6 hb6)
    | (go_at_call 34; refine (HBY.out _ _ _ (HS6.out.by'.next (HAL.out _ _)) (HS3.out _).by').mono ?_; rintro e w7 ⟨rfl, hb7⟩))
  go_ret
  exact ⟨rfl, Below.next HB6.out (HAL.out _ _)⟩
end Go.Proofs.Ytfngnajjlhnglaa
