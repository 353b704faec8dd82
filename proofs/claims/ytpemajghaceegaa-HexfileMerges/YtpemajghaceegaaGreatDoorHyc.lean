/- That the chapter's examples are so. -/
import Derived.Test.YtpemajghaceegaaGreatDoorHyb
namespace Go.Proofs.YtpemajghaceegaaGreatDoor
open Go.RowKit
set_option linter.unusedVariables false

theorem rec_live : recS 2 1 0 [10] = [83, 49, 48, 52, 48, 48, 48, 48, 48, 65, 70, 49] := by decide +kernel
theorem may_live : mayS 2 1 0 [10] = true := by kernel_rfl
theorem RecLive (v : Value) (w : World) (h : ByAt w v [10]) : Calls Tryz.prog 16 #[.int .i64 2, .int .i64 1, .int .i64 0, v] w fun e w' => e = .returned (.tuple #[.string ⟨#[83, 49, 48, 52, 48, 48, 48, 48, 48, 65, 70, 49]⟩, .int .i64 0]) ∧ Below w.heap.size w w' := by
  refine (Record_any 2 1 0 v [10] (by decide) w h).mono ?_
  rintro e w' ⟨hb, h1, h2⟩
  obtain ⟨F, K, A, hF, hK, hA, rfl⟩ := h1 may_live
  obtain rfl : F = 2 := by omega
  obtain rfl : K = 1 := by omega
  obtain rfl : A = 0 := by omega
  rw [rec_live]
  exact ⟨rfl, hb⟩
theorem four (w : World) (A B C D : Obj) : ((((w.alloc A).alloc B).alloc C).alloc D).heap[w.heap.size + 1]? = some B ∧ ((((w.alloc A).alloc B).alloc C).alloc D).heap[w.heap.size + 1 + 1]? = some C ∧ ((((w.alloc A).alloc B).alloc C).alloc D).heap[w.heap.size + 1 + 1 + 1]? = some D ∧ Below w.heap.size w ((((w.alloc A).alloc B).alloc C).alloc D) := by
  have h1 := (Below.refl w.heap.size w).alloc (Nat.le_refl _) A
  have h2 := h1.alloc (by simp) B
  have h3 := h2.alloc (by simp; omega) C
  have h4 := h3.alloc (by simp; omega) D
  refine ⟨?_, ?_, ?_, h4⟩
  · have h := last1 w A B
    have k1 := ((Below.refl ((w.alloc A).alloc B).heap.size ((w.alloc A).alloc B)).alloc (Nat.le_refl _) C).alloc (by simp) D
    exact (k1.block _ (row_lt h)).trans h
  · have h := last1 (w.alloc A) B C
    rw [show (w.alloc A).heap.size = w.heap.size + 1 by simp] at h
    have k1 := (Below.refl (((w.alloc A).alloc B).alloc C).heap.size (((w.alloc A).alloc B).alloc C)).alloc (Nat.le_refl _) D
    exact (k1.block _ (row_lt h)).trans h
  · have h := last1 ((w.alloc A).alloc B) C D
    rwa [show ((w.alloc A).alloc B).heap.size = w.heap.size + 1 + 1 by simp] at h
theorem by_block {w : World} {g : Nat} (l : List UInt8) (hl : l.length ≤ maxLen) (h : w.heap[g]? = some (.cells (l.map encB).toArray (5 : TypeId) (0, 0))) : ByAt w (.slice (some ⟨g, 0, none⟩) l.length l.length) l :=
  by_of_own (full_row (base := 0) (Nat.zero_le _) (by simp) hl h)
theorem sg_two {w : World} {g : Nat} {a b : Int} {p q : Option Addr} {n1 n2 c1 c2 : Nat} (h : w.heap[g]? = some (.cells #[.int .i64 a, .slice p n1 c1, .int .i64 b, .slice q n2 c2] (36 : TypeId) (0, 0))) : SgAt w (.slice (some ⟨g, 0, none⟩) 2 2) [(a, p, n1, c1), (b, q, n2, c2)] := by
  refine ⟨_, 2, rfl, fun k hk => ⟨g, 0, rfl, row_lt h, ?_⟩⟩
  match k, hk with
  | 0, _ => exact ⟨by rw [cell_of_row _ _ _ _ _ _ h]; rfl, by rw [cell_of_row _ _ _ _ _ _ h]; rfl⟩
  | 1, _ => exact ⟨by rw [cell_of_row _ _ _ _ _ _ h]; rfl, by rw [cell_of_row _ _ _ _ _ _ h]; rfl⟩
theorem JnAt.next {B : Nat} {D : List UInt8} {l : Value} {w w' : World} (h : JnAt B D l w) (hb : Below w.heap.size w w') : JnAt B D l w' := by
  obtain ⟨g, c, x, rfl, hg, hl, ho, hc⟩ := h
  exact ⟨g, c, x, rfl, hg, hl.keep (hb.block g hl.lt), row_below ho hb, hc⟩
set_option maxRecDepth 100000 in
set_option maxHeartbeats 3200000 in
theorem alive_any (m : Int) (w : World) (hm : w.cell? ⟨0, 0, none⟩ = some (.int .i64 m)) :
    Calls Tryz.prog 15 #[] w fun e w' => e = .returned (.bool true) ∧ Below w.heap.size w w' := by
  have HRE := hidD (fun v w h => RecLive v w h)
  have HRD := hidD (fun w hm => readOne m w hm)
  have HME := hidD (fun v p q c1 c2 w h h1 h2 => mergeTwo v p q c1 c2 w h h1 h2)
  have HLK := hidD (fun B D hD l h h2 w hl hm hd => likeOne B D hD l h h2 w hl hm hd)
  have h0 := cell0_lt hm
  have HAL := hidD ((Below.refl w.heap.size w).alloc (Nat.le_refl _) (.cells #[.int .u8 10] (5 : TypeId)))
  have HY1 : Hid (ByAt (w.alloc (.cells #[.int .u8 10] (5 : TypeId))) (.slice (some ⟨w.heap.size, 0, none⟩) 1 1) [10]) := by_one w 10
  have HM := hidD hm
  have HL0 := hidD h0
  clear hm h0
  go_enter Tryz.func15, Tryz.ntmps15
  go_wp2_with fail
  go_at_call 16
  refine (HRE.out _ _ HY1.out).mono ?_
  rintro e w2 ⟨rfl, hb⟩
  have HB2 := hidD (Below.trans HAL.out (hb.mono HAL.out.size))
  have HM2 := hidD ((HB2.out.cell (p := ⟨0, 0, none⟩) HL0.out).trans HM.out)
  clear hb HY1 HRE HAL
  go_wp2_with fail
  go_at_call 22
  refine (HRD.out w2 HM2.out).mono ?_
  rintro e w3 ⟨rfl, hb⟩
  have HB3 := hidD (Below.trans HB2.out (hb.mono HB2.out.size))
  clear hb HRD HM2 HB2
  have HFR := hidD (four w3 (.cells #[.int .i64 0, .slice none 0 0, .int .i64 0] (49 : TypeId)) (.cells #[.int .u8 7] (5 : TypeId)) (.cells #[.int .u8 5, .int .u8 6] (5 : TypeId)) (.cells #[.int .i64 3, .slice (some ⟨w3.heap.size + 1, 0, none⟩) 1 1, .int .i64 1, .slice (some ⟨w3.heap.size + 1 + 1, 0, none⟩) 2 2] (36 : TypeId)))
  go_wp2_with fail
  generalize ((((w3.alloc (.cells #[.int .i64 0, .slice none 0 0, .int .i64 0] (49 : TypeId))).alloc (.cells #[.int .u8 7] (5 : TypeId))).alloc (.cells #[.int .u8 5, .int .u8 6] (5 : TypeId))).alloc (.cells #[.int .i64 3, .slice (some ⟨w3.heap.size + 1, 0, none⟩) 1 1, .int .i64 1, .slice (some ⟨w3.heap.size + 1 + 1, 0, none⟩) 2 2] (36 : TypeId))) = W4 at *
  have HB4 := hidD (Below.trans HB3.out (HFR.out.2.2.2.mono HB3.out.size))
  go_at_call 10
  refine (HME.out _ (some ⟨w3.heap.size + 1 + 1, 0, none⟩) (some ⟨w3.heap.size + 1, 0, none⟩) 2 1 W4 (sg_two HFR.out.2.2.1) (by_block [5, 6] (by decide) HFR.out.2.1) (by_block [7] (by decide) HFR.out.1)).mono ?_
  rintro e w5 ⟨l, rfl, hb, hj⟩
  have HB5 := hidD (Below.trans HB4.out (hb.mono HB4.out.size))
  have HJ := hidD hj
  clear hb hj HME HFR HB3 HB4
  have HX := hidD (last0 w5 (.cells #[.int .u8 5, .int .u8 6, .int .u8 7] (5 : TypeId)) (.cells #[.int .i64 1, .slice (some ⟨w5.heap.size, 0, none⟩) 3 3] (60 : TypeId)))
  have HY := hidD (last1 w5 (.cells #[.int .u8 5, .int .u8 6, .int .u8 7] (5 : TypeId)) (.cells #[.int .i64 1, .slice (some ⟨w5.heap.size, 0, none⟩) 3 3] (60 : TypeId)))
  have HA6 := hidD (((Below.refl w5.heap.size w5).alloc (Nat.le_refl _) (.cells #[.int .u8 5, .int .u8 6, .int .u8 7] (5 : TypeId))).alloc (by simp) (.cells #[.int .i64 1, .slice (some ⟨w5.heap.size, 0, none⟩) 3 3] (60 : TypeId)))
  go_wp2_with fail
  generalize (w5.alloc (.cells #[.int .u8 5, .int .u8 6, .int .u8 7] (5 : TypeId))).alloc (.cells #[.int .i64 1, .slice (some ⟨w5.heap.size, 0, none⟩) 3 3] (60 : TypeId)) = W6 at *
  go_at_call 12
  refine (HLK.out _ [5, 6, 7] rfl l _ w5.heap.size W6 (HJ.out.next HA6.out) HY.out (by_block [5, 6, 7] (by decide) HX.out)).mono ?_
  rintro e w7 ⟨rfl, hb⟩
  have HB7 := hidD (Below.trans (Below.trans HB5.out (HA6.out.mono HB5.out.size)) (hb.mono (Nat.le_trans HB5.out.size HA6.out.size)))
  clear hb
  go_wp2_with fail
  go_ret
  exact ⟨rfl, HB7.out⟩
end Go.Proofs.YtpemajghaceegaaGreatDoor
