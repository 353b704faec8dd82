/- ShaKeys: the walk. -/
import Derived.Test.YtjpcndhdlbkilaaKm3
import Derived.Test.YtjpcndhdlbkilaaCtl
namespace Go.Proofs.Ytjpcndhdlbkilaa
open Go.RowKit
set_option linter.unusedVariables false

set_option maxRecDepth 100000 in
theorem keys_no (x : Int) (h : x ≠ 224 ∧ x ≠ 256 ∧ x ≠ 384 ∧ x ≠ 512) (u v : Value) (z : Int) (w : World) : Calls Try.prog 5 #[.int .i64 x, u, v, .int .i64 z] w fun e w' => e = .returned (.bool true) ∧ Below w.heap.size w w' := by
  have HL : Hid (∀ w, Calls Try.prog 7 #[] w fun e w' => e = .returned (.bool true) ∧ Below w.heap.size w w') := fun w => live_any w
  have HN : Hid (∀ z w, Calls Try.prog 11 #[.int .i64 z] w fun e w' => e = .returned (.int .i64 z) ∧ w' = w) := fun z w => no_any z w
  have HSZ : Hid (∀ w, Calls Try.prog 17 #[.int .i64 x] w fun e w' => e = .returned (.tuple #[.int .i64 0, .int .i64 0, .int .i64 1]) ∧ w' = w) := fun w => size_no x h w
  clear h
  go_enter Try.func5, Try.ntmps5
  go_wp2_with (first | (go_at_call 7; refine (HL.out _).mono ?_; rintro e w1 ⟨rfl, hb1⟩) | (go_at_call 17; refine (HSZ.out _).mono ?_; rintro e wx ⟨rfl, hx⟩; subst wx) | (go_at_call 11; refine (HN.out _ _).mono ?_; rintro e wx ⟨rfl, hx⟩; subst wx))
  go_ret
  exact ⟨rfl, hb1⟩
theorem mc_by {w : World} {g k : Nat} {f : Nat → UInt8} (h : RowZ w g .u8 (k / 8) 5 (fun i => ((f i).toNat : Int))) : ByAt w (.slice (some ⟨g, 0, none⟩) (k / 8) (k / 8)) ((List.range (k / 8)).map f) := by
  have := rowZ_by h
  rw [List.length_map, List.length_range] at this
  exact this
set_option maxRecDepth 100000 in
set_option maxHeartbeats 1600000 in
theorem keys_long (k : Nat) (hk : Kind k) (K M : List UInt8) (hK : K.length ≤ 140737488355300) (hM : M.length ≤ 140737488355300) (hlong : blkN k < K.length) (a a' : Option Addr) (cap cap' : Nat) (z : Int) (w : World) (hb : ByAt w (.slice a K.length cap) K) (hm : ByAt w (.slice a' M.length cap') M) : Calls Try.prog 5 #[.int .i64 (k : Int), .slice a K.length cap, .slice a' M.length cap', .int .i64 z] w fun e w' => e = .returned (.bool true) ∧ Below w.heap.size w w' := by
  have HL : Hid (∀ w, Calls Try.prog 7 #[] w fun e w' => e = .returned (.bool true) ∧ Below w.heap.size w w') := fun w => live_any w
  have HN : Hid (∀ z w, Calls Try.prog 11 #[.int .i64 z] w fun e w' => e = .returned (.int .i64 z) ∧ w' = w) := fun z w => no_any z w
  have HSZ : Hid (∀ w, Calls Try.prog 17 #[.int .i64 (k : Int)] w fun e w' => e = .returned (.tuple #[.int .i64 ((k / 8 : Nat) : Int), .int .i64 (blkN k : Int), .int .i64 0]) ∧ w' = w) := fun w => size_any k hk w
  have HM1 : Hid (∀ w, ByAt w (.slice a K.length cap) K → ByAt w (.slice a' M.length cap') M → Calls Try.prog 18 #[.int .i64 (k : Int), .slice a K.length cap, .slice a' M.length cap'] w fun e w' => ∃ g', e = .returned (.tuple #[.slice (some ⟨g', 0, none⟩) (k / 8) (k / 8), .int .i64 0]) ∧ w.heap.size ≤ g' ∧ RowZ w' g' .u8 (k / 8) 5 (fun i => ((mkP k K M i).toNat : Int)) ∧ Below w.heap.size w w') := fun w h1 h2 => macLaw_any k hk K M (by omega) (by omega) a a' cap cap' w h1 h2
  have HS : Hid (∀ w, ByAt w (.slice a K.length cap) K → Calls Try.prog 8 #[.int .i64 (k : Int), .slice a K.length cap] w fun e w' => ∃ g', e = .returned (.tuple #[.slice (some ⟨g', 0, none⟩) (k / 8) (k / 8), .int .i64 0]) ∧ ByAt w' (.slice (some ⟨g', 0, none⟩) (k / 8) (k / 8)) (dgL k (feedP k (newP k) K)) ∧ Below w.heap.size w w') := fun w h => (shaSum_any k hk K (by omega) a cap w h).mono fun e w' ⟨g, h1, h2, h3, h4⟩ => ⟨g, h1, dg_by h3, h4⟩
  have HM2 : Hid (∀ (g : Nat) (w : World), ByAt w (.slice (some ⟨g, 0, none⟩) (k / 8) (k / 8)) (dgL k (feedP k (newP k) K)) → ByAt w (.slice a' M.length cap') M → Calls Try.prog 18 #[.int .i64 (k : Int), .slice (some ⟨g, 0, none⟩) (k / 8) (k / 8), .slice a' M.length cap'] w fun e w' => ∃ g', e = .returned (.tuple #[.slice (some ⟨g', 0, none⟩) (k / 8) (k / 8), .int .i64 0]) ∧ RowZ w' g' .u8 (k / 8) 5 (fun i => ((mkP k K M i).toNat : Int)) ∧ Below w.heap.size w w') := fun g w h1 h2 => by
    have h := macLaw_any k hk (dgL k (feedP k (newP k) K)) M (by rw [dgL_len]; have := hk.le; omega) (by omega) (some ⟨g, 0, none⟩) a' (k / 8) cap' w (by rw [dgL_len]; exact h1) h2
    rw [dgL_len, ← mk_long k hk K M hlong] at h
    exact h.mono fun e w' ⟨g', q1, q2, q3, q4⟩ => ⟨g', q1, q3, q4⟩
  have HSA : Hid (∀ (g1 g2 : Nat) (w : World), RowZ w g1 .u8 (k / 8) 5 (fun i => ((mkP k K M i).toNat : Int)) → RowZ w g2 .u8 (k / 8) 5 (fun i => ((mkP k K M i).toNat : Int)) → Calls Try.prog 14 #[.slice (some ⟨g1, 0, none⟩) (k / 8) (k / 8), .slice (some ⟨g2, 0, none⟩) (k / 8) (k / 8)] w fun e w' => e = .returned (.bool true) ∧ Below w.heap.size w w') := fun g1 g2 w h1 h2 => same_true _ (by rw [List.length_map, List.length_range]; have := hk.le; omega) _ _ w (mc_by h1) (mc_by h2)
  have HBK := hidD hb
  have HBM := hidD hm
  have hl2 : (blkN k : Int) < (K.length : Int) := by omega
  have hbp := blk_pos k
  clear hb hm hlong
  generalize hDG : dgL k (feedP k (newP k) K) = DG at *
  clear hDG
  generalize mkP k K M = MC at *
  generalize blkN k = BK at *
  generalize K.length = LK at *
  generalize M.length = LM at *
  generalize k / 8 = K8 at *
  go_enter Try.func5, Try.ntmps5
  go_wp2_with fail
  go_at_call 7
  refine (HL.out _).mono ?_
  rintro e w1 ⟨rfl, hx1⟩
  have B1 := hidD hx1
  have K1 := hidD (HBK.out.next hx1)
  have M1 := hidD (HBM.out.next hx1)
  clear hx1 HBK HBM
  go_wp2_with (first | (go_at_call 17; refine (HSZ.out _).mono ?_; rintro e wx ⟨rfl, hx⟩; subst wx) | (go_at_call 11; refine (HN.out _ _).mono ?_; rintro e wx ⟨rfl, hx⟩; subst wx))
  go_at_call 18
  refine (HM1.out _ K1.out M1.out).mono ?_
  rintro e w2 ⟨g2, rfl, hg2, hr2, hx2⟩
  have B2 := hidD (Below.next B1.out hx2)
  have K2 := hidD (K1.out.next hx2)
  have M2 := hidD (M1.out.next hx2)
  have R2 := hidD hr2
  clear hg2 hr2 hx2 B1 K1 M1 HM1
  go_wp2_with fail
  go_at_call 8
  refine (HS.out _ K2.out).mono ?_
  rintro e w3 ⟨g3, rfl, hy3, hx3⟩
  have B3 := hidD (Below.next B2.out hx3)
  have M3 := hidD (M2.out.next hx3)
  have R3 := hidD (R2.out.next hx3)
  have Y3 := hidD hy3
  clear hy3 hx3 B2 K2 M2 R2
  go_wp2_with fail
  go_at_call 18
  refine (HM2.out g3 _ Y3.out M3.out).mono ?_
  rintro e w4 ⟨g4, rfl, hr4, hx4⟩
  have B4 := hidD (Below.next B3.out hx4)
  have V4 := hidD (HSA.out g2 g4 _ (R3.out.next hx4) hr4)
  clear hr4 hx4 B3 M3 R3 Y3
  go_wp2_with (go_at_call 11; refine (HN.out _ _).mono ?_; rintro e wx ⟨rfl, hx⟩; subst wx)
  go_at_call 14
  refine V4.out.mono ?_
  rintro e w5 ⟨rfl, hx5⟩
  have B5 := hidD (Below.next B4.out hx5)
  clear hx5 V4 B4
  go_wp2_with fail
  go_ret
  exact ⟨by first | rfl | simp, B5.out⟩
set_option maxRecDepth 100000 in
set_option maxHeartbeats 1600000 in
theorem keys_short (k : Nat) (hk : Kind k) (K M : List UInt8) (hM : M.length ≤ 140737488355300) (hshort : ¬ blkN k < K.length) (a a' : Option Addr) (cap cap' : Nat) (z : Int) (hz1 : -9223372036854775808 ≤ z) (hz2 : z < 9223372036854775808) (w : World) (hb : ByAt w (.slice a K.length cap) K) (hm : ByAt w (.slice a' M.length cap') M) : Calls Try.prog 5 #[.int .i64 (k : Int), .slice a K.length cap, .slice a' M.length cap', .int .i64 z] w fun e w' => e = .returned (.bool true) ∧ Below w.heap.size w w' := by
  have hbp := blk_pos k
  have HL : Hid (∀ w, Calls Try.prog 7 #[] w fun e w' => e = .returned (.bool true) ∧ Below w.heap.size w w') := fun w => live_any w
  have HN : Hid (∀ z w, Calls Try.prog 11 #[.int .i64 z] w fun e w' => e = .returned (.int .i64 z) ∧ w' = w) := fun z w => no_any z w
  have HSZ : Hid (∀ w, Calls Try.prog 17 #[.int .i64 (k : Int)] w fun e w' => e = .returned (.tuple #[.int .i64 ((k / 8 : Nat) : Int), .int .i64 (blkN k : Int), .int .i64 0]) ∧ w' = w) := fun w => size_any k hk w
  have HM1 : Hid (∀ w, ByAt w (.slice a K.length cap) K → ByAt w (.slice a' M.length cap') M → Calls Try.prog 18 #[.int .i64 (k : Int), .slice a K.length cap, .slice a' M.length cap'] w fun e w' => ∃ g', e = .returned (.tuple #[.slice (some ⟨g', 0, none⟩) (k / 8) (k / 8), .int .i64 0]) ∧ w.heap.size ≤ g' ∧ RowZ w' g' .u8 (k / 8) 5 (fun i => ((mkP k K M i).toNat : Int)) ∧ Below w.heap.size w w') := fun w h1 h2 => macLaw_any k hk K M (by omega) (by omega) a a' cap cap' w h1 h2
  obtain ⟨C, hC, hcase⟩ : ∃ C : Nat, K.length + C ≤ blkN k ∧ ((¬ z < 0 ∧ z.tmod ((blkN k : Int) - (K.length : Int) + 1) = (C : Int)) ∨ (z < 0 ∧ (-(z + 1)).tmod ((blkN k : Int) - (K.length : Int) + 1) = (C : Int))) := by
    have hd : (blkN k : Int) - (K.length : Int) + 1 = ((blkN k - K.length + 1 : Nat) : Int) := by omega
    rw [hd]
    by_cases hz : z < 0
    · obtain ⟨y, hy⟩ : ∃ y : Nat, -(z + 1) = (y : Int) := ⟨(-(z + 1)).toNat, by omega⟩
      have hm : y % (blkN k - K.length + 1) < blkN k - K.length + 1 := Nat.mod_lt _ (by omega)
      exact ⟨y % (blkN k - K.length + 1), by omega, Or.inr ⟨hz, by rw [hy]; rfl⟩⟩
    · obtain ⟨y, hy⟩ : ∃ y : Nat, z = (y : Int) := ⟨z.toNat, by omega⟩
      have hm : y % (blkN k - K.length + 1) < blkN k - K.length + 1 := Nat.mod_lt _ (by omega)
      exact ⟨y % (blkN k - K.length + 1), by omega, Or.inl ⟨hz, by rw [hy]; rfl⟩⟩
  have HM2 : Hid (∀ (v : Value) (w : World), ByAt w v (K ++ List.replicate C 0) → ByAt w (.slice a' M.length cap') M → Calls Try.prog 18 #[.int .i64 (k : Int), v, .slice a' M.length cap'] w fun e w' => ∃ g', e = .returned (.tuple #[.slice (some ⟨g', 0, none⟩) (k / 8) (k / 8), .int .i64 0]) ∧ RowZ w' g' .u8 (k / 8) 5 (fun i => ((mkP k K M i).toNat : Int)) ∧ Below w.heap.size w w') := fun v w h1 h2 => by
    obtain ⟨a1, c1, rfl, _⟩ := h1.shape
    have h := macLaw_any k hk (K ++ List.replicate C 0) M (by rw [List.length_append, List.length_replicate]; omega) (by omega) a1 a' c1 cap' w h1 h2
    rw [← mk_zeros k K M C hC] at h
    exact h.mono fun e w' ⟨g', q1, q2, q3, q4⟩ => ⟨g', q1, q3, q4⟩
  have HOW : Hid (∀ w, ByAt w (.slice a K.length cap) K → Calls Try.prog 13 #[.slice a K.length cap] w fun e w' => ∃ vo, e = .returned vo ∧ w'.ownsRow w.heap.size 5 1 vo K.length (K.map encB) ∧ Below w.heap.size w w') := fun w h => own_any K (by omega) _ w h
  have HSA : Hid (∀ (g1 g2 : Nat) (w : World), RowZ w g1 .u8 (k / 8) 5 (fun i => ((mkP k K M i).toNat : Int)) → RowZ w g2 .u8 (k / 8) 5 (fun i => ((mkP k K M i).toNat : Int)) → Calls Try.prog 14 #[.slice (some ⟨g1, 0, none⟩) (k / 8) (k / 8), .slice (some ⟨g2, 0, none⟩) (k / 8) (k / 8)] w fun e w' => e = .returned (.bool true) ∧ Below w.heap.size w w') := fun g1 g2 w h1 h2 => same_true _ (by rw [List.length_map, List.length_range]; have := hk.le; omega) _ _ w (mc_by h1) (mc_by h2)
  have HBK := hidD hb
  have HBM := hidD hm
  have HKE : Hid (K.map encB ++ List.replicate C (Value.int .u8 0) = (K ++ List.replicate C 0).map encB) := by show _ = _; rw [List.map_append, List.map_replicate]; rfl
  have HKL : Hid ((K ++ List.replicate C (0 : UInt8)).length = K.length + C) := by show _ = _; rw [List.length_append, List.length_replicate]
  have hl2 : ¬ (blkN k : Int) < (K.length : Int) := by omega
  have hd1 : ¬ (blkN k : Int) - (K.length : Int) + 1 = 0 := by omega
  have hd2 : (0 : Int) ≤ (blkN k : Int) - (K.length : Int) ∧ (blkN k : Int) - (K.length : Int) ≤ 128 := by omega
  clear hb hm hshort
  generalize mkP k K M = MC at *
  generalize blkN k = BK at *
  generalize hLK : K.length = LK at *
  have HLK := hidD hLK
  clear hLK
  generalize M.length = LM at *
  generalize k / 8 = K8 at *
  rcases hcase with ⟨hz, hmod⟩ | ⟨hz, hmod⟩
  all_goals
    go_enter Try.func5, Try.ntmps5
    go_wp2_with fail
    go_at_call 7
    refine (HL.out _).mono ?_
    rintro e w1 ⟨rfl, hx1⟩
    have B1 := hidD hx1
    have K1 := hidD (HBK.out.next hx1)
    have M1 := hidD (HBM.out.next hx1)
    clear hx1
    go_wp2_with (first | (go_at_call 17; refine (HSZ.out _).mono ?_; rintro e wx ⟨rfl, hx⟩; subst wx) | (go_at_call 11; refine (HN.out _ _).mono ?_; rintro e wx ⟨rfl, hx⟩; subst wx))
    go_at_call 18
    refine (HM1.out _ K1.out M1.out).mono ?_
    rintro e w2 ⟨g2, rfl, hg2, hr2, hx2⟩
    have B2 := hidD (Below.next B1.out hx2)
    have K2 := hidD (K1.out.next hx2)
    have M2 := hidD (M1.out.next hx2)
    have R2 := hidD hr2
    clear hg2 hr2 hx2 B1 K1 M1
    go_wp2_with fail
    refine wp_region_loud0L [true, false, true, true, true, true, true, true, true, false, false] [] (by kernel_rfl) (by kernel_rfl) (by kernel_rfl) (by kernel_rfl) (by kernel_rfl) (fun _ _ _ _ _ h => h) ?_
    simp only [qPick, lPick]
    repeat (go_big_quiet_step (fail))
    refine wpQuiet_nil ?_
    simp only [LoudW]
    have HKN : Hid (∀ wB : World, ∃ i : KB w2 [], wB = i.v) := fun wB => ⟨⟨wB, fun x hx => by simp at hx⟩, rfl⟩
    have K2D : Hid (ByAt w2.drew (.slice a LK cap) K) := K2.out.next ((Below.refl _ _).drew)
    go_wp2_with (go_at_call 13; refine (HOW.out _ K2D.out).mono ?_; rintro e w3 ⟨vo, rfl, ho3, hx3⟩)
    have O3 := hidD ho3
    have X3 : Hid (Below w2.heap.size w2 w3) := ((Below.refl _ _).drew).trans hx3
    clear ho3 hx3
    refine ⟨HKN.out _, ?_⟩
    go_wp2_with (at_builtin; refine wpList_append_zeros rfl _ _ rfl w2.heap.size vo LK (K.map encB) rfl O3.out C (by first | rfl | simp [hmod]) (by omega) X3.out.size ?_; intro v4 w4 ho4 hg4; have K4 : Hid (Below w2.heap.size w2 w4) := row_grown O3.out X3.out hg4 X3.out.size; have Y4 : Hid (ByAt w4 v4 (K ++ List.replicate C 0)) := (by have h := ho4; rw [HKE.out, ← HKL.out] at h; exact row_by h); clear ho4 hg4)
    refine ⟨HKN.out _, ?_⟩
    go_wp2_with fail
    refine ⟨HKN.out _, ?_⟩
    have B4 := hidD (Below.next B2.out K4.out)
    have M4 := hidD (M2.out.next K4.out)
    have R4 := hidD (R2.out.next K4.out)
    clear HKN K2D O3 X3 K4 B2 K2 M2 R2
    go_wp2_with fail
    go_at_call 18
    refine (HM2.out _ _ Y4.out M4.out).mono ?_
    rintro e w5 ⟨g5, rfl, hr5, hx5⟩
    have B5 := hidD (Below.next B4.out hx5)
    have V5 := hidD (HSA.out g2 g5 _ (R4.out.next hx5) hr5)
    clear hr5 hx5 B4 M4 R4 Y4
    go_wp2_with (go_at_call 11; refine (HN.out _ _).mono ?_; rintro e wx ⟨rfl, hx⟩; subst wx)
    go_at_call 14
    refine V5.out.mono ?_
    rintro e w6 ⟨rfl, hx6⟩
    have B6 := hidD (Below.next B5.out hx6)
    clear hx6 V5 B5
    go_wp2_with fail
    go_ret
    exact ⟨by first | rfl | simp, B6.out⟩
theorem keys_any (x : Int) (K M : List UInt8) (hK : K.length ≤ 140737488355300) (hM : M.length ≤ 140737488355300) (a a' : Option Addr) (cap cap' : Nat) (z : Int) (hz1 : -9223372036854775808 ≤ z) (hz2 : z < 9223372036854775808) (w : World) (hb : ByAt w (.slice a K.length cap) K) (hm : ByAt w (.slice a' M.length cap') M) : Calls Try.prog 5 #[.int .i64 x, .slice a K.length cap, .slice a' M.length cap', .int .i64 z] w fun e w' => e = .returned (.bool true) ∧ Below w.heap.size w w' := by
  rcases kind_or x with ⟨k, hk, rfl⟩ | h
  · by_cases hl : blkN k < K.length
    · exact keys_long k hk K M hK hM hl a a' cap cap' z w hb hm
    · exact keys_short k hk K M hM hl a a' cap cap' z hz1 hz2 w hb hm
  · exact keys_no x h _ _ z w
end Go.Proofs.Ytjpcndhdlbkilaa
