/- ShaExtends: the walk. -/
import Derived.Test.YtjpcndhdlbkilaaEx1
namespace Go.Proofs.Ytjpcndhdlbkilaa
open Go.RowKit
set_option linter.unusedVariables false

set_option maxRecDepth 100000 in
set_option maxHeartbeats 3200000 in
theorem ext_walk (k : Nat) (hk : k = 256 ∨ k = 512) (K : Int) (hK : K = (k : Int)) (b : Bool) (hbK : (b = false ∧ K = 256) ∨ (b = true ∧ K = 512)) (L X : List UInt8) (hL : L.length ≤ 1048576) (hX : X.length ≤ 1048576) (a a' : Option Addr) (cap cap' : Nat) (w : World) (hb : ByAt w (.slice a L.length cap) L) (hx : ByAt w (.slice a' X.length cap') X) : Calls Try.prog 3 #[.bool b, .slice a L.length cap, .slice a' X.length cap'] w fun e w' => e = .returned (.bool true) ∧ Below w.heap.size w w' := by
  have hkk : Kind k := by unfold Kind; omega
  have hrm := rm_le k L.length
  have hre := rm_ends k L.length
  obtain ⟨S0, hS0⟩ : ∃ S0 : Ps, S0 = ⟨L.length + rmS (blkN k) L.length, fun _ => 0, (feedP k (newP k) (L ++ padL k L.length)).c⟩ := ⟨_, rfl⟩
  have hSn : S0.n < 18446744073709551616 := by rw [hS0]; show L.length + rmS (blkN k) L.length < _; omega
  have hSc : ∀ j, S0.c j < mdK k := by rw [hS0]; exact feed_lt2 k hkk _
  have hEX : dgP k (feedP k S0 X) = dgP k (feedP k (newP k) ((L ++ padL k L.length) ++ X)) := by rw [hS0]; exact extends_plain k L X (by omega)
  have HL : Hid (∀ w, Calls Try.prog 7 #[] w fun e w' => e = .returned (.bool true) ∧ Below w.heap.size w w') := fun w => live_any w
  have HN : Hid (∀ z w, Calls Try.prog 11 #[.int .i64 z] w fun e w' => e = .returned (.int .i64 z) ∧ w' = w) := fun z w => no_any z w
  have HS0 : Hid (∀ w, ByAt w (.slice a L.length cap) L → Calls Try.prog 8 #[.int .i64 K, .slice a L.length cap] w fun e w' => ∃ g', e = .returned (.tuple #[.slice (some ⟨g', 0, none⟩) (k / 8) (k / 8), .int .i64 0]) ∧ RowZ w' g' .u8 (k / 8) 5 (fun i => ((cbK k (feedP k (newP k) (L ++ padL k L.length)).c i).toNat : Int)) ∧ Below w.heap.size w w') := fun w h => by
    rw [hK]
    refine (shaSum_any k hkk L (by omega) a cap w h).mono fun e w' ⟨g, h1, h2, h3, h4⟩ => ⟨g, h1, ?_, h4⟩
    refine h3.congr fun i _ => ?_
    have hn : (feedP k (newP k) L).n = L.length := by rw [feed_n k _ _ (show 0 < 18446744073709551616 by decide)]; show (0 + _) % _ = _; omega
    unfold dgP
    rw [hn, ← feed_app]
  have HPD : Hid (∀ w, Calls Try.prog 9 #[.int .i64 K, .int .u64 (L.length : Int)] w fun e w' => ∃ g, e = .returned (.tuple #[.slice (some ⟨g, 0, none⟩) (rmS (blkN k) L.length) (rmS (blkN k) L.length), .int .i64 0]) ∧ ByAt w' (.slice (some ⟨g, 0, none⟩) (rmS (blkN k) L.length) (rmS (blkN k) L.length)) (padL k L.length) ∧ Below w.heap.size w w') := fun w => by
    rw [hK]
    refine (padLaw_any k hkk L.length (by omega) w).mono fun e w' ⟨g, h1, h2, h3, h4⟩ => ⟨g, h1, ?_, h4⟩
    have := rowZ_by h3
    rw [List.length_map, List.length_range] at this
    exact this
  have HRS : Hid (∀ g0 w, RowZ w g0 .u8 (k / 8) 5 (fun i => ((cbK k (feedP k (newP k) (L ++ padL k L.length)).c i).toNat : Int)) → Calls Try.prog 10 #[.int .i64 K, .slice (some ⟨g0, 0, none⟩) (k / 8) (k / 8), .int .u64 ((L.length + rmS (blkN k) L.length : Nat) : Int)] w fun e w' => ∃ g, e = .returned (.tuple #[.pointer (some ⟨g, 0, none⟩), .int .i64 0]) ∧ w.heap.size ≤ g ∧ StAt w' g k S0 ∧ Below w.heap.size w w') := fun g0 w h => by
    rw [hK, hS0]
    exact resume_back k hk _ (feed_lt2 k hkk _) _ (by omega) hre g0 w h
  have HWR : Hid (∀ (g : Nat) (w : World), StAt w g k S0 → ByAt w (.slice a' X.length cap') X → (X ≠ [] → Off (.slice a' X.length cap') g) → Calls Try.prog 12 #[.pointer (some ⟨g, 0, none⟩), .slice a' X.length cap'] w fun e w' => e = .returned (.int .i64 (X.length : Int)) ∧ StAt w' g k (feedP k S0 X) ∧ But g w w') := fun g w h1 h2 h3 => write_any k hkk g S0 hSn hSc X (by omega) a' cap' w h1 h2 h3
  have HST : Hid (∀ (g : Nat) (w : World), StAt w g k (feedP k S0 X) → Calls Try.prog 15 #[.pointer (some ⟨g, 0, none⟩)] w fun e w' => ∃ g', e = .returned (.slice (some ⟨g', 0, none⟩) (k / 8) (k / 8)) ∧ RowZ w' g' .u8 (k / 8) 5 (fun i => ((dgP k (feedP k (newP k) ((L ++ padL k L.length) ++ X)) i).toNat : Int)) ∧ Below w.heap.size w w') := fun g w h => by
    refine (stSum_any k hkk g _ (feed_nlt k _ hSn X) (feed_lt k X _ hSc) w h).mono fun e w' ⟨g', h1, h2, h3, h4⟩ => ⟨g', h1, ?_, h4⟩
    rw [hEX] at h3
    exact h3
  have HOW : Hid (∀ (v : Value) (w : World), ByAt w v L → Calls Try.prog 13 #[v] w fun e w' => ∃ vo, e = .returned vo ∧ w'.ownsRow w.heap.size 5 1 vo L.length (L.map encB) ∧ Below w.heap.size w w') := fun v w h => own_any L (by omega) v w h
  have HS1 : Hid (∀ (v : Value) (w : World), ByAt w v ((L ++ padL k L.length) ++ X) → Calls Try.prog 8 #[.int .i64 K, v] w fun e w' => ∃ g', e = .returned (.tuple #[.slice (some ⟨g', 0, none⟩) (k / 8) (k / 8), .int .i64 0]) ∧ RowZ w' g' .u8 (k / 8) 5 (fun i => ((dgP k (feedP k (newP k) ((L ++ padL k L.length) ++ X)) i).toNat : Int)) ∧ Below w.heap.size w w') := fun v w h => by
    rw [hK]
    obtain ⟨a1, c1, rfl, _⟩ := h.shape
    refine (shaSum_any k hkk _ (by rw [List.length_append, List.length_append, padL_len]; omega) a1 c1 w h).mono fun e w' ⟨g, h1, h2, h3, h4⟩ => ⟨g, h1, h3, h4⟩
  have HSA : Hid (∀ (s : Ps) (g1 g2 : Nat) (w : World), RowZ w g1 .u8 (k / 8) 5 (fun i => ((dgP k s i).toNat : Int)) → RowZ w g2 .u8 (k / 8) 5 (fun i => ((dgP k s i).toNat : Int)) → Calls Try.prog 14 #[.slice (some ⟨g1, 0, none⟩) (k / 8) (k / 8), .slice (some ⟨g2, 0, none⟩) (k / 8) (k / 8)] w fun e w' => e = .returned (.bool true) ∧ Below w.heap.size w w') := fun s g1 g2 w h1 h2 => same_true (dgL k s) (by rw [dgL_len]; omega) _ _ w (dg_by h1) (dg_by h2)
  have HPL : Hid ((padL k L.length).length = rmS (blkN k) L.length) := padL_len k L.length
  have HBL := hidD hb
  have HBX := hidD hx
  generalize hFS : feedP k S0 X = FS at *
  clear hb hx hk hkk hre hK hS0 hSn hSc hEX hFS
  generalize hSS : feedP k (newP k) ((L ++ padL k L.length) ++ X) = SS at *
  clear hSS
  generalize hCC : (feedP k (newP k) (L ++ padL k L.length)).c = CC at *
  clear hCC
  generalize hPP : padL k L.length = PP at *
  clear hPP
  obtain ⟨N, hN⟩ : ∃ N, L.length + rmS (blkN k) L.length = N := ⟨_, rfl⟩
  rw [hN] at HRS
  generalize rmS (blkN k) L.length = R at *
  generalize hLL : L.length = LL at *
  generalize hXX : X.length = XX at *
  have HLE := hidD hLL
  have HXE := hidD hXX
  clear hLL hXX
  have hsum : (LL : Int) + (R : Int) = (N : Int) := by omega
  have HLB : Hid (LL ≤ 1048576 ∧ XX ≤ 1048576 ∧ R ≤ 256) := ⟨hL, hX, hrm⟩
  clear hN
  generalize k / 8 = K8 at *
  rcases hbK with ⟨rfl, rfl⟩ | ⟨rfl, rfl⟩
  all_goals
    go_enter Try.func3, Try.ntmps3
    go_wp2_with fail
    go_at_call 7
    refine (HL.out _).mono ?_
    rintro e w1 ⟨rfl, hx1⟩
    have B1 := hidD hx1
    have M1 := hidD (HBL.out.next hx1)
    have X1 := hidD (HBX.out.next hx1)
    clear hx1
    go_wp2_with fail
    go_at_call 8
    refine (HS0.out _ M1.out).mono ?_
    rintro e w2 ⟨g2, rfl, hr2, hx2⟩
    have B2 := hidD (Below.next B1.out hx2)
    have M2 := hidD (M1.out.next hx2)
    have X2 := hidD (X1.out.next hx2)
    have R2 := hidD hr2
    clear hx2 hr2 B1 M1 X1 HS0
    go_wp2_with fail
    go_at_call 9
    refine (HPD.out _).mono ?_
    rintro e w3 ⟨g3, rfl, hp3, hx3⟩
    have B3 := hidD (Below.next B2.out hx3)
    have M3 := hidD (M2.out.next hx3)
    have X3 := hidD (X2.out.next hx3)
    have R3 := hidD (R2.out.next hx3)
    have P3 := hidD hp3
    clear hx3 hp3 B2 M2 X2 R2 HPD
    go_wp2_with fail
    go_at_call 10
    refine (HRS.out g2 _ R3.out).mono ?_
    rintro e w4 ⟨g4, rfl, hg4, hs4, hx4⟩
    have B4 := hidD (Below.next B3.out hx4)
    have M4 := hidD (M3.out.next hx4)
    have X4 := hidD (X3.out.next hx4)
    have P4 := hidD (P3.out.next hx4)
    have S4 := hidD hs4
    have OX := hidD (by_off X3.out hg4)
    have OM := hidD (by_off M3.out hg4)
    have OP := hidD (by_off P3.out hg4)
    have GW : Hid (w.heap.size ≤ g4) := Nat.le_trans B3.out.size hg4
    have W4 := hidD (HWR.out g4 w4 hs4 X4.out OX.out)
    clear hx4 hs4 hg4 B3 M3 X3 P3 R3 HRS HWR
    go_wp2_with (go_at_call 11; refine (HN.out _ _).mono ?_; rintro e wx ⟨rfl, hx⟩; subst wx)
    go_at_call 12
    refine W4.out.mono ?_
    rintro e w5 ⟨rfl, hs5, hx5⟩
    have B5 : Hid (Below w.heap.size w w5) := B4.out.trans (hx5.bel.mono GW.out)
    have S5 := hidD hs5
    have M5 := hidD (M4.out.but' hx5 OM.out)
    have X5 := hidD (X4.out.but' hx5 OX.out)
    have P5 := hidD (P4.out.but' hx5 OP.out)
    clear hx5 hs5 B4 M4 X4 P4 S4 W4 OX OM OP GW
    go_wp2_with fail
    go_at_call 13
    refine (HOW.out _ _ M5.out).mono ?_
    rintro e w6 ⟨vo, rfl, ho6, hx6⟩
    have X6 := hidD (X5.out.next hx6)
    have P6 := hidD (P5.out.next hx6)
    have K6 := hidD hx6
    have O6 := hidD ho6
    clear hx6 ho6
    go_wp2_with (first
      | (at_builtin; refine wpList_append_by rfl _ _ rfl w5.heap.size vo LL (L.map encB) rfl O6.out (.slice (some ⟨g3, 0, none⟩) R R) PP rfl P6.out (by have := HPL.out; have := HLB.out; omega) K6.out.size ?_; intro v7 w7 hown7 hg7; have O7 := hidD hown7; have K7 : Hid (Below w5.heap.size w5 w7) := row_grown O6.out K6.out hg7 K6.out.size; have X7 := hidD (X5.out.next K7.out); clear hown7 hg7 O6 K6 X6 P6)
      | (at_builtin; refine wpList_append_by rfl _ _ rfl w5.heap.size v7 (LL + PP.length) (L.map encB ++ PP.map encB) rfl O7.out (.slice a' XX cap') X rfl X7.out (by have := HPL.out; have := HLB.out; have := HXE.out; omega) K7.out.size ?_; intro v8 w8 hown8 hg8; have O8 := hidD hown8; have K8' : Hid (Below w5.heap.size w5 w8) := row_grown O7.out K7.out hg8 K7.out.size; clear hown8 hg8 O7 K7 X7))
    have V8 : Hid (ByAt w8 v8 ((L ++ PP) ++ X)) := by
      have h := O8.out
      rw [← List.map_append, ← List.map_append, ← HLE.out, ← List.length_append, ← List.length_append] at h
      exact row_by h
    have S8 := hidD (S5.out.next K8'.out)
    have B8 := hidD (Below.next B5.out K8'.out)
    clear O8 K8' X5 P5 M5 S5 B5
    go_at_call 8
    refine (HS1.out _ _ V8.out).mono ?_
    rintro e w9 ⟨g9, rfl, hr9, hx9⟩
    have B9 := hidD (Below.next B8.out hx9)
    have S9 := hidD (S8.out.next hx9)
    have R9 := hidD hr9
    clear hr9 hx9 V8 S8 B8
    go_wp2_with (go_at_call 11; refine (HN.out _ _).mono ?_; rintro e wx ⟨rfl, hx⟩; subst wx)
    go_at_call 15
    refine (HST.out _ _ S9.out).mono ?_
    rintro e w10 ⟨g10, rfl, hr10, hx10⟩
    have B10 := hidD (Below.next B9.out hx10)
    have Y10 := hidD (HSA.out SS g10 g9 w10 hr10 (R9.out.next hx10))
    clear hr10 hx10 B9 S9 R9
    go_wp2_with fail
    go_at_call 14
    refine Y10.out.mono ?_
    rintro e w11 ⟨rfl, hx11⟩
    have B11 := hidD (Below.next B10.out hx11)
    clear hx11 Y10 B10
    go_wp2_with fail
    go_ret
    exact ⟨by first | rfl | simp, B11.out⟩
theorem ext_any (b : Bool) (L X : List UInt8) (hL : L.length ≤ 1048576) (hX : X.length ≤ 1048576) (a a' : Option Addr) (cap cap' : Nat) (w : World) (hb : ByAt w (.slice a L.length cap) L) (hx : ByAt w (.slice a' X.length cap') X) : Calls Try.prog 3 #[.bool b, .slice a L.length cap, .slice a' X.length cap'] w fun e w' => e = .returned (.bool true) ∧ Below w.heap.size w w' := by
  cases b
  · exact ext_walk 256 (Or.inl rfl) 256 rfl false (Or.inl ⟨rfl, rfl⟩) L X hL hX a a' cap cap' w hb hx
  · exact ext_walk 512 (Or.inr rfl) 512 rfl true (Or.inr ⟨rfl, rfl⟩) L X hL hX a a' cap cap' w hb hx
end Go.Proofs.Ytjpcndhdlbkilaa
