/- What Mac of sha answers; keys that are taken for one. -/
import Derived.Test.YtjpcndhdlbkilaaKm2
namespace Go.Proofs.Ytjpcndhdlbkilaa
open Go.RowKit
set_option linter.unusedVariables false

/- the code of a message under a key -/
def mkP (k : Nat) (key M : List UInt8) : Nat → UInt8 := mcP k (keyP k key 54) (keyP k key 92) M
theorem keyP_n (k : Nat) (key : List UInt8) (m : UInt8) : (keyP k key m).n < 18446744073709551616 := feed_nlt k _ (show 0 < 18446744073709551616 by decide) _
theorem keyP_c (k : Nat) (hk : Kind k) (key : List UInt8) (m : UInt8) : ∀ j, (keyP k key m).c j < mdK k := feed_lt2 k hk _
/- keys that are taken for one -/
theorem mk_congr (k : Nat) (K K' M : List UInt8) (h : ∀ i, i < blkN k → (padK k K).getD i 0 = (padK k K').getD i 0) : mkP k K M = mkP k K' M := by
  have hm : ∀ m, kmL k K m = kmL k K' m := fun m => List.map_congr_left fun i hi => by rw [h i (List.mem_range.1 hi)]
  unfold mkP keyP
  rw [hm, hm]
theorem mk_long (k : Nat) (hk : Kind k) (K M : List UInt8) (h : blkN k < K.length) : mkP k K M = mkP k (dgL k (feedP k (newP k) K)) M := by
  refine mk_congr k _ _ M fun i _ => ?_
  have h2 := padK_le k hk K
  have e : padK k K = dgL k (feedP k (newP k) K) := by unfold padK; rw [if_pos h]
  rw [e] at h2 ⊢
  unfold padK
  rw [if_neg (by omega)]
theorem mk_zeros (k : Nat) (K M : List UInt8) (m : Nat) (h : K.length + m ≤ blkN k) : mkP k K M = mkP k (K ++ List.replicate m 0) M := by
  refine mk_congr k _ _ M fun i _ => ?_
  unfold padK
  rw [if_neg (by omega), if_neg (by rw [List.length_append, List.length_replicate]; omega)]
  rw [List.getD_eq_getElem?_getD, List.getD_eq_getElem?_getD]
  by_cases hi : i < K.length
  · rw [List.getElem?_append_left hi]
  · rw [List.getElem?_append_right (by omega), List.getElem?_eq_none (by omega)]
    by_cases h2 : i - K.length < m
    · simp [h2]
    · simp [h2]
set_option maxRecDepth 100000 in
set_option maxHeartbeats 1600000 in
theorem macLaw_any (k : Nat) (hk : Kind k) (K M : List UInt8) (hK : K.length ≤ 4611686018427387904) (hM : M.length ≤ 4611686018427387904) (a a' : Option Addr) (cap cap' : Nat) (w : World) (hb : ByAt w (.slice a K.length cap) K) (hm : ByAt w (.slice a' M.length cap') M) : Calls Try.prog 18 #[.int .i64 (k : Int), .slice a K.length cap, .slice a' M.length cap'] w fun e w' => ∃ g', e = .returned (.tuple #[.slice (some ⟨g', 0, none⟩) (k / 8) (k / 8), .int .i64 0]) ∧ w.heap.size ≤ g' ∧ RowZ w' g' .u8 (k / 8) 5 (fun i => ((mkP k K M i).toNat : Int)) ∧ Below w.heap.size w w' := by
  have HNK : Hid (∀ w, ByAt w (.slice a K.length cap) K → Calls Try.prog 34 #[.int .i64 (k : Int), .slice a K.length cap] w fun e w' => ∃ g1 g2, e = .returned (.tuple #[.agg #[.pointer (some ⟨g1, 0, none⟩), .pointer (some ⟨g2, 0, none⟩)], .int .i64 0]) ∧ w.heap.size ≤ g1 ∧ w.heap.size ≤ g2 ∧ g1 ≠ g2 ∧ StAt w' g1 k (keyP k K 54) ∧ StAt w' g2 k (keyP k K 92) ∧ Below w.heap.size w w') := fun w h => newKeyed_any k hk K hK a cap w h
  have HMC : Hid (∀ (g1 g2 gS : Nat) (w : World), StAt w g1 k (keyP k K 54) → StAt w g2 k (keyP k K 92) → w.heap[gS]? = some (.cells #[.slice a' M.length cap'] (22 : TypeId) (0, 0)) → ByAt w (.slice a' M.length cap') M → Calls Try.prog 35 #[.agg #[.pointer (some ⟨g1, 0, none⟩), .pointer (some ⟨g2, 0, none⟩)], .slice (some ⟨gS, 0, none⟩) 1 1] w fun e w' => ∃ g', e = .returned (.slice (some ⟨g', 0, none⟩) (k / 8) (k / 8)) ∧ w.heap.size ≤ g' ∧ RowZ w' g' .u8 (k / 8) 5 (fun i => ((mkP k K M i).toNat : Int)) ∧ Below w.heap.size w w') := fun g1 g2 gS w h1 h2 h3 h4 => by
    have := mac_any k hk (keyP k K 54) (keyP k K 92) (keyP_n k K 54) (keyP_c k hk K 54) (keyP_n k K 92) (keyP_c k hk K 92) g1 g2 [M] (fun j => by
      cases j with
      | zero => exact hM
      | succ j => simp) (by simp) (.slice (some ⟨gS, 0, none⟩) 1 1) w h1 h2 ⟨gS, 0, 1, rfl, row_lt h3, fun j hj => by
        obtain rfl : j = 0 := by simp at hj; exact hj
        exact ⟨a', cap', by rw [cell_of_row _ _ _ _ _ _ h3]; rfl, h4⟩⟩
    rw [show [M].flatten = M by simp] at this
    exact this
  have HBK := hidD hb
  have HBM := hidD hm
  obtain ⟨hz, hsz⟩ := zero_of_info Try.zero75z
  have HI : Hid (∀ x y : Value, (Try.prog.info? 75).map (·.size) = some (#[x, y] : Array Value).size) := fun _ _ => hsz
  clear hb hm hsz
  generalize K.length = LK at *
  generalize M.length = LM at *
  obtain ⟨K8, hK8⟩ : ∃ K8, k / 8 = K8 := ⟨_, rfl⟩
  rw [hK8] at HMC
  rw [hK8]
  clear hK8
  go_enter Try.func18, Try.ntmps18
  go_wp2_with fail
  go_at_call 34
  refine (HNK.out _ HBK.out).mono ?_
  rintro e w1 ⟨g1, g2, rfl, hg1, hg2, hne, hs1, hs2, hx1⟩
  go_upto_region 2 with (refine wpList_store_row rfl 75 _ _ rfl w1.heap.size #[.pointer (some ⟨g1, 0, none⟩), .pointer (some ⟨g2, 0, none⟩)] rfl rfl 75 #[.pointer none, .pointer none] (heap_alloc_last _ _) (HI.out _ _) rfl (by simp [Value.oneCell']) ?_)
  obtain ⟨W2, hW2⟩ : ∃ W2 : World, W2 = (w1.alloc (.cells #[.pointer none, .pointer none] (75 : TypeId))).setRow w1.heap.size #[.pointer (some ⟨g1, 0, none⟩), .pointer (some ⟨g2, 0, none⟩)] := ⟨_, rfl⟩
  refine at_world hW2 ?_
  have hx2 : Below w1.heap.size w1 W2 := by rw [hW2]; exact below_setRow ((Below.refl _ _).alloc (Nat.le_refl _) _) (Nat.le_refl _) _
  have R2 : Hid (W2.heap[w1.heap.size]? = some (.cells #[.pointer (some ⟨g1, 0, none⟩), .pointer (some ⟨g2, 0, none⟩)] (75 : TypeId) (0, 0))) := by show _ = _; rw [hW2]; exact setRow_heap _ _ _ _ _ _ (heap_alloc_last _ _)
  have S2 := hidD (hs1.next hx2)
  have T2 := hidD (hs2.next hx2)
  have B2 := hidD (Below.next hx1 hx2)
  have M2 := hidD (HBM.out.next (Below.next hx1 hx2))
  clear hs1 hs2 hx1 hx2 hg1 hg2 hne hW2 HNK HBK HBM
  generalize hgR : w1.heap.size = gR at *
  clear hgR
  go_wp2_with (refine wpList_load_row rfl 75 _ rfl gR rfl 75 #[.pointer (some ⟨g1, 0, none⟩), .pointer (some ⟨g2, 0, none⟩)] (0, 0) _ R2.out Try.underlying75 rfl (HI.out _ _) ?_)
  go_at_call 35
  have hx3 : Below W2.heap.size W2 (W2.alloc (.cells #[.slice a' LM cap'] (22 : TypeId))) := (Below.refl _ _).alloc (Nat.le_refl _) _
  have V3 := hidD (HMC.out g1 g2 W2.heap.size (W2.alloc (.cells #[.slice a' LM cap'] (22 : TypeId))) (S2.out.next hx3) (T2.out.next hx3) (heap_alloc_last _ _) (M2.out.next hx3))
  have B3 := hidD (Below.next B2.out hx3)
  clear hx3
  refine V3.out.mono ?_
  rintro e w4 ⟨g4, rfl, hg4, hr4, hx4⟩
  have HF : Hid (w.heap.size ≤ g4 ∧ RowZ w4 g4 .u8 K8 5 (fun i => ((mkP k K M i).toNat : Int)) ∧ Below w.heap.size w w4) := ⟨Nat.le_trans B3.out.size hg4, hr4, Below.next B3.out hx4⟩
  clear hg4 hr4 hx4 V3
  go_wp2_with fail
  go_ret2
  exact ⟨g4, rfl, HF.out⟩
end Go.Proofs.Ytjpcndhdlbkilaa
