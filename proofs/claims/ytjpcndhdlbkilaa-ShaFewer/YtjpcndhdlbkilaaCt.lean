/- ShaCut: the walk. -/
import Derived.Test.YtjpcndhdlbkilaaLw
import Derived.Test.YtjpcndhdlbkilaaSl
namespace Go.Proofs.Ytjpcndhdlbkilaa
open Go.RowKit
set_option linter.unusedVariables false

theorem ByAt.but' {g : Nat} {w w' : World} {sl : Value} {bs : List UInt8} (h : ByAt w sl bs) (hb : But g w w') (hn : bs ≠ [] → Off sl g) : ByAt w' sl bs := by
  by_cases h0 : bs = []
  · subst h0
    rcases h with h | ⟨k, off, cap, rfl, hg, hc⟩
    · exact .inl h
    · exact .inl ⟨rfl, _, _, rfl, fun h => by cases h⟩
  · exact h.but hb (hn h0)
theorem dg_by {w : World} {g k : Nat} {s : Ps} (h : RowZ w g .u8 (k / 8) 5 (fun i => ((dgP k s i).toNat : Int))) : ByAt w (.slice (some ⟨g, 0, none⟩) (k / 8) (k / 8)) (dgL k s) := by
  have := rowZ_by h
  rw [List.length_map, List.length_range] at this
  exact this
set_option maxRecDepth 100000 in
theorem cut_no (x : Int) (h : x ≠ 224 ∧ x ≠ 256 ∧ x ≠ 384 ∧ x ≠ 512) (m : Value) (z : Int) (w : World) : Calls Try.prog 4 #[.int .i64 x, m, .int .i64 z] w fun e w' => e = .returned (.bool true) ∧ Below w.heap.size w w' := by
  have HL : Hid (∀ w, Calls Try.prog 7 #[] w fun e w' => e = .returned (.bool true) ∧ Below w.heap.size w w') := fun w => live_any w
  have HN : Hid (∀ z w, Calls Try.prog 11 #[.int .i64 z] w fun e w' => e = .returned (.int .i64 z) ∧ w' = w) := fun z w => no_any z w
  have HB : Hid (∀ w, Calls Try.prog 16 #[.int .i64 x] w fun e w' => e = .returned (.tuple #[.pointer none, .int .i64 1]) ∧ w' = w) := fun w => begin_no x h w
  have HS : Hid (∀ w, Calls Try.prog 8 #[.int .i64 x, m] w fun e w' => e = .returned (.tuple #[.slice none 0 0, .int .i64 1]) ∧ w' = w) := fun w => shaSum_no x h m w
  clear h
  go_enter Try.func4, Try.ntmps4
  go_wp2_with (first | (go_at_call 7; refine (HL.out _).mono ?_; rintro e w1 ⟨rfl, hb1⟩) | (go_at_call 16; refine (HB.out _).mono ?_; rintro e wx ⟨rfl, hx⟩; subst wx) | (go_at_call 8; refine (HS.out _).mono ?_; rintro e wx ⟨rfl, hx⟩; subst wx) | (go_at_call 11; refine (HN.out _ _).mono ?_; rintro e wx ⟨rfl, hx⟩; subst wx))
  go_ret
  exact ⟨by first | rfl | simp, hb1⟩
set_option maxRecDepth 100000 in
set_option maxHeartbeats 3200000 in
theorem cut_ok (k : Nat) (hk : Kind k) (L : List UInt8) (hL : L.length ≤ 140737488355300) (a : Option Addr) (cap : Nat) (hlc : L.length ≤ cap) (z : Int) (hz1 : -9223372036854775808 ≤ z) (hz2 : z < 9223372036854775808) (w : World) (hb : ByAt w (.slice a L.length cap) L) : Calls Try.prog 4 #[.int .i64 (k : Int), .slice a L.length cap, .int .i64 z] w fun e w' => e = .returned (.bool true) ∧ Below w.heap.size w w' := by
  have HL : Hid (∀ w, Calls Try.prog 7 #[] w fun e w' => e = .returned (.bool true) ∧ Below w.heap.size w w') := fun w => live_any w
  have HN : Hid (∀ z w, Calls Try.prog 11 #[.int .i64 z] w fun e w' => e = .returned (.int .i64 z) ∧ w' = w) := fun z w => no_any z w
  have HBG : Hid (∀ w, Calls Try.prog 16 #[.int .i64 (k : Int)] w fun e w' => ∃ g, e = .returned (.tuple #[.pointer (some ⟨g, 0, none⟩), .int .i64 0]) ∧ w.heap.size ≤ g ∧ StAt w' g k (newP k) ∧ Below w.heap.size w w') := fun w => begin_any k hk w
  have HSM : Hid (∀ (M : List UInt8) (a : Option Addr) (cap : Nat), M.length ≤ 140737488355300 → ∀ w, ByAt w (.slice a M.length cap) M → Calls Try.prog 8 #[.int .i64 (k : Int), .slice a M.length cap] w fun e w' => ∃ g', e = .returned (.tuple #[.slice (some ⟨g', 0, none⟩) (k / 8) (k / 8), .int .i64 0]) ∧ w.heap.size ≤ g' ∧ RowZ w' g' .u8 (k / 8) 5 (fun i => ((dgP k (feedP k (newP k) M) i).toNat : Int)) ∧ Below w.heap.size w w') := fun M a cap hM w h => shaSum_any k hk M (by omega) a cap w h
  have HWR : Hid (∀ (g : Nat) (s : Ps) (M : List UInt8) (a : Option Addr) (cap : Nat), s.n < 18446744073709551616 → (∀ j, s.c j < mdK k) → M.length ≤ 140737488355300 → ∀ w, StAt w g k s → ByAt w (.slice a M.length cap) M → (M ≠ [] → Off (.slice a M.length cap) g) → Calls Try.prog 12 #[.pointer (some ⟨g, 0, none⟩), .slice a M.length cap] w fun e w' => e = .returned (.int .i64 (M.length : Int)) ∧ StAt w' g k (feedP k s M) ∧ But g w w') := fun g s M a cap h1 h2 h3 w h4 h5 h6 => write_any k hk g s h1 h2 M (by omega) a cap w h4 h5 h6
  have HSS : Hid (∀ (g : Nat) (s : Ps), s.n < 18446744073709551616 → (∀ j, s.c j < mdK k) → ∀ w, StAt w g k s → Calls Try.prog 15 #[.pointer (some ⟨g, 0, none⟩)] w fun e w' => ∃ g', e = .returned (.slice (some ⟨g', 0, none⟩) (k / 8) (k / 8)) ∧ w.heap.size ≤ g' ∧ RowZ w' g' .u8 (k / 8) 5 (fun i => ((dgP k s i).toNat : Int)) ∧ Below w.heap.size w w') := fun g s h1 h2 w h => stSum_any k hk g s h1 h2 w h
  have HSA : Hid (∀ (s : Ps) (u v : Value) (w : World), ByAt w u (dgL k s) → ByAt w v (dgL k s) → Calls Try.prog 14 #[u, v] w fun e w' => e = .returned (.bool true) ∧ Below w.heap.size w w') := fun s u v w h1 h2 => same_true (dgL k s) (by rw [dgL_len]; have := hk.le; omega) u v w h1 h2
  have HDB : Hid (∀ (w : World) (g : Nat) (s : Ps), RowZ w g .u8 (k / 8) 5 (fun i => ((dgP k s i).toNat : Int)) → ByAt w (.slice (some ⟨g, 0, none⟩) (k / 8) (k / 8)) (dgL k s)) := fun w g s h => dg_by h
  have HN0 : Hid ((newP k).n < 18446744073709551616) := show 0 < 18446744073709551616 by decide
  have HNC : Hid (∀ j, (newP k).c j < mdK k) := newP_lt k hk
  have HFN : Hid (∀ M, (feedP k (newP k) M).n < 18446744073709551616) := fun M => feed_nlt k _ (show 0 < 18446744073709551616 by decide) M
  have HFC : Hid (∀ M j, (feedP k (newP k) M).c j < mdK k) := fun M => feed_lt2 k hk M
  -- the place of the cut
  obtain ⟨C, hC, hcase⟩ : ∃ C : Nat, C ≤ L.length ∧ ((¬ z < 0 ∧ z.tmod ((L.length : Int) + 1) = (C : Int)) ∨ (z < 0 ∧ (-(z + 1)).tmod ((L.length : Int) + 1) = (C : Int))) := by
    by_cases hz : z < 0
    · obtain ⟨y, hy⟩ : ∃ y : Nat, -(z + 1) = (y : Int) := ⟨(-(z + 1)).toNat, by omega⟩
      have hm : y % (L.length + 1) < L.length + 1 := Nat.mod_lt _ (by omega)
      exact ⟨y % (L.length + 1), by omega, Or.inr ⟨hz, by rw [hy]; rfl⟩⟩
    · obtain ⟨y, hy⟩ : ∃ y : Nat, z = (y : Int) := ⟨z.toNat, by omega⟩
      have hm : y % (L.length + 1) < L.length + 1 := Nat.mod_lt _ (by omega)
      exact ⟨y % (L.length + 1), by omega, Or.inl ⟨hz, by rw [hy]; rfl⟩⟩
  obtain ⟨a1, hs1, hb1⟩ := slice_take hb hlc C hC
  obtain ⟨a2, c2, hs2, hb2⟩ := slice_drop hb hlc C hC
  have HT : Hid (L.take C ++ L.drop C = L) := List.take_append_drop C L
  have hl1 : (L.take C).length ≤ 140737488355300 := by rw [List.length_take]; omega
  have hl2 : (L.drop C).length ≤ 140737488355300 := by rw [List.length_drop]; omega
  have HBM := hidD hb
  have HBA := hidD hb1
  have HBB := hidD hb2
  generalize hM1 : L.take C = M1 at *
  generalize hM2 : L.drop C = M2 at *
  clear hb hb1 hb2 hM1 hM2 hk
  have HSM0 := hidD (HSM.out L a cap hL)
  have HSM1 := hidD (HSM.out M1 a1 cap hl1)
  have HWR1 := hidD (fun g => HWR.out g (newP k) M1 a1 cap HN0.out HNC.out hl1)
  have HWR2 := hidD (fun g => HWR.out g (feedP k (newP k) M1) M2 a2 c2 (HFN.out M1) (HFC.out M1) hl2)
  have HFA : Hid (feedP k (feedP k (newP k) M1) M2 = feedP k (newP k) L) := by show _ = _; rw [← feed_app, HT.out]
  have HS1 := hidD (fun g => HSS.out g _ (HFN.out M1) (HFC.out M1))
  have HS2 := hidD (fun g => HSS.out g _ (HFN.out L) (HFC.out L))
  clear HSM HWR HSS HN0 HNC HFN HFC HT
  generalize hLL : L.length = LL at *
  generalize hL1 : M1.length = L1 at *
  generalize hL2 : M2.length = L2 at *
  clear hLL hL1 hL2
  generalize hK8 : k / 8 = K8 at *
  clear hK8
  rcases hcase with ⟨hz, hmod⟩ | ⟨hz, hmod⟩
  all_goals
    go_enter Try.func4, Try.ntmps4
    go_wp2_with fail
    go_at_call 7
    refine (HL.out _).mono ?_
    rintro e w1 ⟨rfl, hx1⟩
    have B1 := hidD hx1
    have M1A := hidD (HBA.out.next hx1)
    have M1B := hidD (HBB.out.next hx1)
    have M1M := hidD (HBM.out.next hx1)
    clear hx1
    go_wp2_with fail
    go_at_call 16
    refine (HBG.out _).mono ?_
    rintro e w2 ⟨g, rfl, hg, hs, hx2⟩
    have B2 := hidD (Below.next B1.out hx2)
    have S2 := hidD hs
    have OA := hidD (by_off M1A.out hg)
    have OB := hidD (by_off M1B.out hg)
    have GW : Hid (w.heap.size ≤ g) := Nat.le_trans B1.out.size hg
    have M2A := hidD (M1A.out.next hx2)
    have M2B := hidD (M1B.out.next hx2)
    have M2M := hidD (M1M.out.next hx2)
    clear hg hs hx2 M1A M1B M1M
    go_wp2_with fail
    go_at_call 8
    refine (HSM0.out _ M2M.out).mono ?_
    rintro e w3 ⟨g3, rfl, hg3, hr3, hx3⟩
    have B3 := hidD (Below.next B2.out hx3)
    have S3 := hidD (S2.out.next hx3)
    have M3A := hidD (M2A.out.next hx3)
    have M3B := hidD (M2B.out.next hx3)
    have R3 := hidD hr3
    have N3 : Hid (g3 ≠ g) := by have := S2.out.lt; show g3 ≠ g; omega
    have W3 := hidD (HWR1.out g w3 S3.out M3A.out OA.out)
    clear hg3 hr3 hx3 S2 M2A M2B M2M
    go_wp2_with (go_at_call 11; refine (HN.out _ _).mono ?_; rintro e wx ⟨rfl, hx⟩; subst wx)
    go_at_call 12
    refine W3.out.mono ?_
    rintro e w4 ⟨rfl, hs4, hx4⟩
    have B4 : Hid (Below w.heap.size w w4) := B3.out.trans (hx4.bel.mono GW.out)
    have S4 := hidD hs4
    have R4 := hidD (R3.out.but hx4 N3.out)
    have A4 := hidD (M3A.out.but' hx4 OA.out)
    have D4 := hidD (M3B.out.but' hx4 OB.out)
    have G4 : Hid (g3 < w4.heap.size) := R4.out.lt
    have V4 := hidD (HS1.out g w4 S4.out)
    clear hs4 hx4 W3 S3 M3A M3B R3 B3
    go_wp2_with fail
    go_at_call 15
    refine V4.out.mono ?_
    rintro e w5 ⟨g5, rfl, hg5, hr5, hx5⟩
    have B5 := hidD (Below.next B4.out hx5)
    have S5 := hidD (S4.out.next hx5)
    have R5 := hidD (R4.out.next hx5)
    have E5 := hidD hr5
    have A5 := hidD (A4.out.next hx5)
    have D5 := hidD (D4.out.next hx5)
    have N5 : Hid (g5 ≠ g) := by have := S4.out.lt; show g5 ≠ g; omega
    have W5 := hidD (HWR2.out g w5 S5.out D5.out OB.out)
    clear hg5 hr5 hx5 V4 S4 R4 A4 D4 G4 B4
    go_wp2_with fail
    go_at_call 12
    refine W5.out.mono ?_
    rintro e w6 ⟨rfl, hs6, hx6⟩
    rw [HFA.out] at hs6
    have B6 : Hid (Below w.heap.size w w6) := B5.out.trans (hx6.bel.mono GW.out)
    have S6 := hidD hs6
    have R6 := hidD (R5.out.but hx6 N3.out)
    have E6 := hidD (E5.out.but hx6 N5.out)
    have A6 := hidD (A5.out.but' hx6 OA.out)
    have V6 := hidD (HSM1.out w6 A6.out)
    clear hs6 hx6 W5 S5 R5 E5 A5 D5 B5
    go_wp2_with fail
    go_at_call 8
    refine V6.out.mono ?_
    rintro e w7 ⟨g7, rfl, hg7, hr7, hx7⟩
    have B7 := hidD (Below.next B6.out hx7)
    have S7 := hidD (S6.out.next hx7)
    have R7 := hidD (R6.out.next hx7)
    have E7 := hidD (E6.out.next hx7)
    have Q7 := hidD hr7
    have V7 := hidD (HS2.out g w7 S7.out)
    clear hg7 hr7 hx7 V6 S6 R6 E6 A6 B6
    go_wp2_with fail
    go_at_call 15
    refine V7.out.mono ?_
    rintro e w8 ⟨g8, rfl, hg8, hr8, hx8⟩
    have B8 := hidD (Below.next B7.out hx8)
    have Y8 := hidD (HSA.out _ _ _ w8 (HDB.out _ _ _ hr8) (HDB.out _ _ _ (R7.out.next hx8)))
    have E8 := hidD (E7.out.next hx8)
    have Q8 := hidD (Q7.out.next hx8)
    clear hg8 hr8 hx8 V7 S7 R7 E7 Q7 B7
    go_wp2_with fail
    go_at_call 14
    refine Y8.out.mono ?_
    rintro e w9 ⟨rfl, hx9⟩
    have B9 := hidD (Below.next B8.out hx9)
    have Y9 := hidD (HSA.out _ _ _ w9 (HDB.out _ _ _ (E8.out.next hx9)) (HDB.out _ _ _ (Q8.out.next hx9)))
    clear hx9 Y8 E8 Q8 B8
    go_wp2_with fail
    go_at_call 14
    refine Y9.out.mono ?_
    rintro e w10 ⟨rfl, hx10⟩
    have B10 := hidD (Below.next B9.out hx10)
    clear hx10 Y9 B9
    go_wp2_with (go_at_call 11; refine (HN.out _ _).mono ?_; rintro e wx ⟨rfl, hx⟩; subst wx)
    go_ret
    exact ⟨by first | rfl | simp, B10.out⟩
theorem kind_or (x : Int) : (∃ k : Nat, Kind k ∧ x = (k : Int)) ∨ (x ≠ 224 ∧ x ≠ 256 ∧ x ≠ 384 ∧ x ≠ 512) := by
  by_cases h1 : x = 224
  · exact Or.inl ⟨224, by unfold Kind; omega, h1⟩
  · by_cases h2 : x = 256
    · exact Or.inl ⟨256, by unfold Kind; omega, h2⟩
    · by_cases h3 : x = 384
      · exact Or.inl ⟨384, by unfold Kind; omega, h3⟩
      · by_cases h4 : x = 512
        · exact Or.inl ⟨512, by unfold Kind; omega, h4⟩
        · exact Or.inr ⟨h1, h2, h3, h4⟩
theorem cut_any (x : Int) (L : List UInt8) (hL : L.length ≤ 140737488355300) (a : Option Addr) (cap : Nat) (hlc : L.length ≤ cap) (z : Int) (hz1 : -9223372036854775808 ≤ z) (hz2 : z < 9223372036854775808) (w : World) (hb : ByAt w (.slice a L.length cap) L) : Calls Try.prog 4 #[.int .i64 x, .slice a L.length cap, .int .i64 z] w fun e w' => e = .returned (.bool true) ∧ Below w.heap.size w w' := by
  rcases kind_or x with ⟨k, hk, rfl⟩ | h
  · exact cut_ok k hk L hL a cap hlc z hz1 hz2 w hb
  · exact cut_no x h _ z w
end Go.Proofs.Ytjpcndhdlbkilaa
