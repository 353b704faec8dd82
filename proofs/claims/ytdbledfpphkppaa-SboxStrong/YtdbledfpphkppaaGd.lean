/- Texts of one proof, one behind the other. -/
import Derived.Test.YtdbledfpphkppaaGb
/- SboxStrong, walked: a case. -/
namespace Go.Proofs.Ytdbledfpphkppaa
open Go.RowKit
set_option linter.unusedVariables false

set_option maxRecDepth 100000 in
set_option maxHeartbeats 4000000 in
theorem strong_4 (x y : UInt8) (hx0 : x.toNat = 0) (hy0 : y.toNat ≠ 0) (hn0 : diffS sbN x.toNat y.toNat = 256) (b : Int) (w : World) : Calls Try.prog 8 #[.int .u8 (x.toNat : Int), .int .u8 (y.toNat : Int), .int .i64 b] w fun e w' => e = .returned (.bool true) ∧ Below w.heap.size w w' := by
  have HA := hidD (fun w => alive_any w)
  have HX := hidD (fun w => box_any w)
  obtain ⟨T, B, hT, hT1, hT2, hT3, hB⟩ := mod8 b
  have H1 := hidD (fun w v h => pDiff_any (boxTo 256) (box_len 256) x y v w h)
  have H2 := hidD (fun w v h => pLines_any (boxTo 256) (box_len 256) x y v w h)
  have H3 := hidD (fun w v h => pUni_any (boxTo 256) (box_len 256) v w h)
  have H4 := hidD (fun w v h => pLin_any (boxTo 256) (box_len 256) v w h)
  have H5 := hidD (fun w v h => pDeg_any (boxTo 256) (box_len 256) B hB v w h)
  have H6 : Hid (∀ w v, ByAt w v (boxTo 256) → Calls Try.prog 30 #[v] w fun e w' => ∃ g o c, e = .returned (.tuple #[.slice (some ⟨g, o, none⟩) 5 c, .int .i64 0]) ∧ (∀ k, k < 5 → w'.cell? ⟨g, o + k, none⟩ = some (.int .i64 (cycL.getD k 0))) ∧ Below w.heap.size w w') := fun w v h => by
    refine (pCyc_any (boxTo 256) (box_len 256) v w h).mono ?_
    rintro e w' ⟨⟨_, vo, rfl, hi⟩ | ⟨ho, _⟩, hb⟩
    · rw [box_cyc] at hi
      obtain ⟨a, c, rfl, hc⟩ := hi.shape
      obtain ⟨g, o, rfl, _, _⟩ := hc 0 (by decide)
      refine ⟨g, o, c, rfl, fun k hk => ?_, hb⟩
      obtain ⟨g', o', he, _, h2⟩ := hc k hk
      cases he; exact h2
    · rw [box_once] at ho; cases ho
  rw [uni_ext (u := sbN) (fun x hx => box_tb hx), uni_sb] at H3
  rw [str_ext (u := sbN) (fun x hx => box_tb hx), str_sb] at H4
  rw [deg_ext (u := sbN) (fun x hx => box_tb hx), deg_sb hB] at H5
  rw [tb_ext (u := sbN) (fun x hx => box_tb hx) x.toNat_lt] at H1
  rw [lin_ext (u := sbN) (fun x hx => box_tb hx)] at H2
  have hx : x.toNat < 256 := x.toNat_lt
  have hy : y.toNat < 256 := y.toNat_lt
  have hs := us_sb hx
  have hsl := sbN_lt x.toNat
  have hnx : bits .xor .u8 255 (x.toNat : Int) = ((255 - x.toNat : Nat) : Int) := by
    rw [← not_at hx]; exact u8_xor_nat 255 x.toNat (by omega) hx
  have HBC : Hid (∀ w' g cap, ByAt w' (.slice (some ⟨g, 0, none⟩) 256 cap) (boxTo 256) → w'.cell? ⟨g, x.toNat, none⟩ = some (.int .u8 (sbN x.toNat : Int))) := fun w' g cap h => by
    obtain ⟨g', o', he, _, hc⟩ := tab_cell0 h (box_len 256) (Below.refl w'.heap.size w') hx
    cases he
    rw [box_tb hx, Nat.zero_add] at hc; exact hc
  have HBY := hidD (fun (w' : World) base g cap h => box_by (w := w') (base := base) (g := g) (cap := cap) h)
  have HSHP := hidD (fun (w' : World) base v (h : w'.ownsRow base 5 1 v 256 ((boxTo 256).map encB)) => row_shapeC h (by omega))
  have HD1 := hidD (fun h => diff_sb (a := x.toNat) (c := y.toNat) h hx hy)
  have HD0 := hidD (diff_zero sbN y.toNat)
  have HL1 := hidD (fun h => lin_sb (a := x.toNat) (b := y.toNat) h hx hy)
  have hlb := ct_le (fun z => parS (z &&& x.toNat) == parS (sbN z &&& y.toNat)) 256
  have hlb : linS sbN x.toNat y.toNat ≤ 256 := hlb
  have hs1 : ¬ (sbN x.toNat : Int) = (x.toNat : Int) := by have := hs.2.2.2.1; omega
  have hs2 : ¬ (sbN x.toNat : Int) = ((255 - x.toNat : Nat) : Int) := by have := hs.2.2.2.2; omega
  have hs1b : ((sbN x.toNat : Int) == (x.toNat : Int)) = false := by simpa using hs1
  have hs2b : ((sbN x.toNat : Int) == ((255 - x.toNat : Nat) : Int)) = false := by simpa using hs2
  have HF : Hid ((((sbN x.toNat : Int) != (x.toNat : Int)) && ((sbN x.toNat : Int) != bits .xor .u8 IntKind.u8.max (x.toNat : Int))) = true) := by
    show _ = true
    rw [show IntKind.u8.max = 255 from rfl, hnx, Bool.and_eq_true_iff]
    exact ⟨by simpa using hs1, by simpa using hs2⟩
  clear hs hs2 hs2b hnx
  obtain ⟨N, hN⟩ : ∃ N, diffS sbN x.toNat y.toNat = N := ⟨_, rfl⟩
  rw [hN] at H1 HD1 hn0
  have HNX : Hid (x.toNat = 0 → N = 0 ∨ N = 256) := fun h0 => by rw [← hN, h0]; exact HD0.out
  generalize hK : (linS sbN x.toNat y.toNat : Int) - 128 = K at *
  have HLK : Hid (y.toNat ≠ 0 → K ≤ 16 ∧ -16 ≤ K) := fun h => by have := HL1.out h; omega
  clear HD0 HL1 hN hK hlb
  generalize sbN x.toNat = S at *
  generalize x.toNat = X at *
  generalize y.toNat = Y at *
  generalize boxTo 256 = L at *
  have HSB := hidD (fun k h => sum_bound (k := k) h)
  have HIB := hidD (fun k h => item_bound (k := k) h)
  obtain rfl : X = 0 := hx0
  have hN := HNX.out rfl
  clear HNX HD1 hN
  obtain rfl : N = 256 := hn0
  have hK := HLK.out hy0
  have hk1 : ¬ (16 : Int) < K := by omega
  have hk2 : ¬ K < -16 := by omega
  have hy1 : ¬ (Y : Int) = 0 := by omega
  have hy2 : ((Y : Int) == 0) = false := by simpa using hy1
  clear HLK hK hy0
  go_enter Try.func8, Try.ntmps8
  go_wp2_with (first
    | (go_at_call 23; refine (HA.out _).mono ?_; rintro e w0 ⟨rfl, hb0⟩; have HB0 := hidD hb0; clear hb0)
    | (go_at_call 41; refine (HX.out _).mono ?_; rintro e w1 ⟨vb, rfl, hown1, hb1⟩; obtain ⟨gb, cap, rfl, hgb0, hgb, hgb2⟩ := HSHP.out _ _ _ hown1; have HY1 := hidD (HBY.out _ _ _ _ hown1); have HB1 := hidD (Below.next HB0.out hb1); clear hown1 hb1 hgb0 hgb hgb2)
    | (go_at_call 24; refine (H1.out _ _ HY1.out).mono ?_; rintro e w2 ⟨rfl, hb2⟩; have HY2 := hidD (HY1.out.next hb2); have HB2 := hidD (Below.next HB1.out hb2); clear hb2)
    | (go_at_call 26; refine (H2.out _ _ HY2.out).mono ?_; rintro e w3 ⟨rfl, hb3⟩; have HY3 := hidD (HY2.out.next hb3); have HB3 := hidD (Below.next HB2.out hb3); clear hb3)
    | (go_at_call 33; refine (H3.out _ _ HY3.out).mono ?_; rintro e w4 ⟨rfl, hb4⟩; have HY4 := hidD (HY3.out.next hb4); have HB4 := hidD (Below.next HB3.out hb4); clear hb4)
    | (go_at_call 35; refine (H4.out _ _ HY4.out).mono ?_; rintro e w5 ⟨rfl, hb5⟩; have HY5 := hidD (HY4.out.next hb5); have HB5 := hidD (Below.next HB4.out hb5); clear hb5)
    | (go_at_call 28; refine (H5.out _ _ HY5.out).mono ?_; rintro e w6 ⟨rfl, hb6⟩; have HY6 := hidD (HY5.out.next hb6); have HB6 := hidD (Below.next HB5.out hb6); clear hb6)
    | (go_at_call 30; refine (H6.out _ _ HY6.out).mono ?_; rintro e w7 ⟨g7, o7, c7, rfl, hi7, hb7⟩; have HI7 := hidD hi7; have HC7 := hidD (HBC.out _ _ _ (HY6.out.next hb7)); have HB7 := hidD (Below.next HB6.out hb7); clear hi7 hb7))
  go_loopw [19, 20] (fun s j wr => ∃ k : Nat, k ≤ 5 ∧ j = .int .i64 k ∧ s = .int .i64 (sumTo cycL k) ∧ wr = w7) (fun _ j _ => 5 - (intOf j).toNat)
  case atStart => exact ⟨0, Nat.zero_le _, rfl, rfl, rfl⟩
  case round =>
    obtain ⟨k, hk, rfl, rfl, rfl⟩ := hrel
    by_cases hlt : k < 5
    · have hlti : (k : Int) < 5 := by omega
      have hcell := HI7.out k hlt
      have hsb := HSB.out k hk
      have hib := HIB.out k hlt
      have HSU : Hid (sumTo cycL (k + 1) = sumTo cycL k + cycL.getD k 0) := rfl
      generalize cycL.getD k 0 = C at *
      generalize sumTo cycL k = SU at *
      go_wp2_with fail
      go_roundw
      case rel => exact ⟨k + 1, by omega, by go_num, by rw [HSU.out], trivial⟩
      case measure => simp [intOf]; omega
    · obtain rfl : k = 5 := by omega
      rw [show sumTo cycL 5 = 256 from by decide]
      have hc7 := HC7.out
      go_wp2_with fail
      have hf : (((S : Int) != 0) && ((S : Int) != bits .xor .u8 IntKind.u8.max 0)) = true := HF.out
      rw [hf]
      go_ret
      exact ⟨rfl, HB7.out⟩
end Go.Proofs.Ytdbledfpphkppaa
/- SboxStrong, walked: a case. -/
namespace Go.Proofs.Ytdbledfpphkppaa
open Go.RowKit
set_option linter.unusedVariables false

set_option maxRecDepth 100000 in
set_option maxHeartbeats 4000000 in
theorem strong_5 (x y : UInt8) (hx0 : x.toNat ≠ 0) (hy0 : y.toNat = 0) (b : Int) (w : World) : Calls Try.prog 8 #[.int .u8 (x.toNat : Int), .int .u8 (y.toNat : Int), .int .i64 b] w fun e w' => e = .returned (.bool true) ∧ Below w.heap.size w w' := by
  have HA := hidD (fun w => alive_any w)
  have HX := hidD (fun w => box_any w)
  obtain ⟨T, B, hT, hT1, hT2, hT3, hB⟩ := mod8 b
  have H1 := hidD (fun w v h => pDiff_any (boxTo 256) (box_len 256) x y v w h)
  have H2 := hidD (fun w v h => pLines_any (boxTo 256) (box_len 256) x y v w h)
  have H3 := hidD (fun w v h => pUni_any (boxTo 256) (box_len 256) v w h)
  have H4 := hidD (fun w v h => pLin_any (boxTo 256) (box_len 256) v w h)
  have H5 := hidD (fun w v h => pDeg_any (boxTo 256) (box_len 256) B hB v w h)
  have H6 : Hid (∀ w v, ByAt w v (boxTo 256) → Calls Try.prog 30 #[v] w fun e w' => ∃ g o c, e = .returned (.tuple #[.slice (some ⟨g, o, none⟩) 5 c, .int .i64 0]) ∧ (∀ k, k < 5 → w'.cell? ⟨g, o + k, none⟩ = some (.int .i64 (cycL.getD k 0))) ∧ Below w.heap.size w w') := fun w v h => by
    refine (pCyc_any (boxTo 256) (box_len 256) v w h).mono ?_
    rintro e w' ⟨⟨_, vo, rfl, hi⟩ | ⟨ho, _⟩, hb⟩
    · rw [box_cyc] at hi
      obtain ⟨a, c, rfl, hc⟩ := hi.shape
      obtain ⟨g, o, rfl, _, _⟩ := hc 0 (by decide)
      refine ⟨g, o, c, rfl, fun k hk => ?_, hb⟩
      obtain ⟨g', o', he, _, h2⟩ := hc k hk
      cases he; exact h2
    · rw [box_once] at ho; cases ho
  rw [uni_ext (u := sbN) (fun x hx => box_tb hx), uni_sb] at H3
  rw [str_ext (u := sbN) (fun x hx => box_tb hx), str_sb] at H4
  rw [deg_ext (u := sbN) (fun x hx => box_tb hx), deg_sb hB] at H5
  rw [tb_ext (u := sbN) (fun x hx => box_tb hx) x.toNat_lt] at H1
  rw [lin_ext (u := sbN) (fun x hx => box_tb hx)] at H2
  have hx : x.toNat < 256 := x.toNat_lt
  have hy : y.toNat < 256 := y.toNat_lt
  have hs := us_sb hx
  have hsl := sbN_lt x.toNat
  have hnx : bits .xor .u8 255 (x.toNat : Int) = ((255 - x.toNat : Nat) : Int) := by
    rw [← not_at hx]; exact u8_xor_nat 255 x.toNat (by omega) hx
  have HBC : Hid (∀ w' g cap, ByAt w' (.slice (some ⟨g, 0, none⟩) 256 cap) (boxTo 256) → w'.cell? ⟨g, x.toNat, none⟩ = some (.int .u8 (sbN x.toNat : Int))) := fun w' g cap h => by
    obtain ⟨g', o', he, _, hc⟩ := tab_cell0 h (box_len 256) (Below.refl w'.heap.size w') hx
    cases he
    rw [box_tb hx, Nat.zero_add] at hc; exact hc
  have HBY := hidD (fun (w' : World) base g cap h => box_by (w := w') (base := base) (g := g) (cap := cap) h)
  have HSHP := hidD (fun (w' : World) base v (h : w'.ownsRow base 5 1 v 256 ((boxTo 256).map encB)) => row_shapeC h (by omega))
  have HD1 := hidD (fun h => diff_sb (a := x.toNat) (c := y.toNat) h hx hy)
  have HD0 := hidD (diff_zero sbN y.toNat)
  have HL1 := hidD (fun h => lin_sb (a := x.toNat) (b := y.toNat) h hx hy)
  have hlb := ct_le (fun z => parS (z &&& x.toNat) == parS (sbN z &&& y.toNat)) 256
  have hlb : linS sbN x.toNat y.toNat ≤ 256 := hlb
  have hs1 : ¬ (sbN x.toNat : Int) = (x.toNat : Int) := by have := hs.2.2.2.1; omega
  have hs2 : ¬ (sbN x.toNat : Int) = ((255 - x.toNat : Nat) : Int) := by have := hs.2.2.2.2; omega
  have hs1b : ((sbN x.toNat : Int) == (x.toNat : Int)) = false := by simpa using hs1
  have hs2b : ((sbN x.toNat : Int) == ((255 - x.toNat : Nat) : Int)) = false := by simpa using hs2
  have HF : Hid ((((sbN x.toNat : Int) != (x.toNat : Int)) && ((sbN x.toNat : Int) != bits .xor .u8 IntKind.u8.max (x.toNat : Int))) = true) := by
    show _ = true
    rw [show IntKind.u8.max = 255 from rfl, hnx, Bool.and_eq_true_iff]
    exact ⟨by simpa using hs1, by simpa using hs2⟩
  clear hs hs2 hs2b hnx
  obtain ⟨N, hN⟩ : ∃ N, diffS sbN x.toNat y.toNat = N := ⟨_, rfl⟩
  rw [hN] at H1 HD1
  have HNX : Hid (x.toNat = 0 → N = 0 ∨ N = 256) := fun h0 => by rw [← hN, h0]; exact HD0.out
  generalize hK : (linS sbN x.toNat y.toNat : Int) - 128 = K at *
  have HLK : Hid (y.toNat ≠ 0 → K ≤ 16 ∧ -16 ≤ K) := fun h => by have := HL1.out h; omega
  clear HD0 HL1 hN hK hlb
  generalize sbN x.toNat = S at *
  generalize x.toNat = X at *
  generalize y.toNat = Y at *
  generalize boxTo 256 = L at *
  have HSB := hidD (fun k h => sum_bound (k := k) h)
  have HIB := hidD (fun k h => item_bound (k := k) h)
  have hN := HD1.out hx0
  have hx1 : ¬ (X : Int) = 0 := by omega
  have hx2 : ((X : Int) == 0) = false := by simpa using hx1
  have hn1 : ¬ (4 : Int) < N := by omega
  have hn2 : (N : Int).tmod 2 = 0 := by rw [Int.tmod_eq_emod_of_nonneg (by omega)]; omega
  clear HNX HD1 hx0 hN
  obtain rfl : Y = 0 := hy0
  clear HLK
  go_enter Try.func8, Try.ntmps8
  go_wp2_with (first
    | (go_at_call 23; refine (HA.out _).mono ?_; rintro e w0 ⟨rfl, hb0⟩; have HB0 := hidD hb0; clear hb0)
    | (go_at_call 41; refine (HX.out _).mono ?_; rintro e w1 ⟨vb, rfl, hown1, hb1⟩; obtain ⟨gb, cap, rfl, hgb0, hgb, hgb2⟩ := HSHP.out _ _ _ hown1; have HY1 := hidD (HBY.out _ _ _ _ hown1); have HB1 := hidD (Below.next HB0.out hb1); clear hown1 hb1 hgb0 hgb hgb2)
    | (go_at_call 24; refine (H1.out _ _ HY1.out).mono ?_; rintro e w2 ⟨rfl, hb2⟩; have HY2 := hidD (HY1.out.next hb2); have HB2 := hidD (Below.next HB1.out hb2); clear hb2)
    | (go_at_call 26; refine (H2.out _ _ HY2.out).mono ?_; rintro e w3 ⟨rfl, hb3⟩; have HY3 := hidD (HY2.out.next hb3); have HB3 := hidD (Below.next HB2.out hb3); clear hb3)
    | (go_at_call 33; refine (H3.out _ _ HY3.out).mono ?_; rintro e w4 ⟨rfl, hb4⟩; have HY4 := hidD (HY3.out.next hb4); have HB4 := hidD (Below.next HB3.out hb4); clear hb4)
    | (go_at_call 35; refine (H4.out _ _ HY4.out).mono ?_; rintro e w5 ⟨rfl, hb5⟩; have HY5 := hidD (HY4.out.next hb5); have HB5 := hidD (Below.next HB4.out hb5); clear hb5)
    | (go_at_call 28; refine (H5.out _ _ HY5.out).mono ?_; rintro e w6 ⟨rfl, hb6⟩; have HY6 := hidD (HY5.out.next hb6); have HB6 := hidD (Below.next HB5.out hb6); clear hb6)
    | (go_at_call 30; refine (H6.out _ _ HY6.out).mono ?_; rintro e w7 ⟨g7, o7, c7, rfl, hi7, hb7⟩; have HI7 := hidD hi7; have HC7 := hidD (HBC.out _ _ _ (HY6.out.next hb7)); have HB7 := hidD (Below.next HB6.out hb7); clear hi7 hb7))
  go_loopw [19, 20] (fun s j wr => ∃ k : Nat, k ≤ 5 ∧ j = .int .i64 k ∧ s = .int .i64 (sumTo cycL k) ∧ wr = w7) (fun _ j _ => 5 - (intOf j).toNat)
  case atStart => exact ⟨0, Nat.zero_le _, rfl, rfl, rfl⟩
  case round =>
    obtain ⟨k, hk, rfl, rfl, rfl⟩ := hrel
    by_cases hlt : k < 5
    · have hlti : (k : Int) < 5 := by omega
      have hcell := HI7.out k hlt
      have hsb := HSB.out k hk
      have hib := HIB.out k hlt
      have HSU : Hid (sumTo cycL (k + 1) = sumTo cycL k + cycL.getD k 0) := rfl
      generalize cycL.getD k 0 = C at *
      generalize sumTo cycL k = SU at *
      go_wp2_with fail
      go_roundw
      case rel => exact ⟨k + 1, by omega, by go_num, by rw [HSU.out], trivial⟩
      case measure => simp [intOf]; omega
    · obtain rfl : k = 5 := by omega
      rw [show sumTo cycL 5 = 256 from by decide]
      have hc7 := HC7.out
      go_wp2_with fail
      have hf := HF.out
      rw [hf]
      go_ret
      exact ⟨rfl, HB7.out⟩
end Go.Proofs.Ytdbledfpphkppaa
/- SboxStrong, walked: a case. -/
namespace Go.Proofs.Ytdbledfpphkppaa
open Go.RowKit
set_option linter.unusedVariables false

set_option maxRecDepth 100000 in
set_option maxHeartbeats 4000000 in
theorem strong_6 (x y : UInt8) (hx0 : x.toNat ≠ 0) (hy0 : y.toNat ≠ 0) (b : Int) (w : World) : Calls Try.prog 8 #[.int .u8 (x.toNat : Int), .int .u8 (y.toNat : Int), .int .i64 b] w fun e w' => e = .returned (.bool true) ∧ Below w.heap.size w w' := by
  have HA := hidD (fun w => alive_any w)
  have HX := hidD (fun w => box_any w)
  obtain ⟨T, B, hT, hT1, hT2, hT3, hB⟩ := mod8 b
  have H1 := hidD (fun w v h => pDiff_any (boxTo 256) (box_len 256) x y v w h)
  have H2 := hidD (fun w v h => pLines_any (boxTo 256) (box_len 256) x y v w h)
  have H3 := hidD (fun w v h => pUni_any (boxTo 256) (box_len 256) v w h)
  have H4 := hidD (fun w v h => pLin_any (boxTo 256) (box_len 256) v w h)
  have H5 := hidD (fun w v h => pDeg_any (boxTo 256) (box_len 256) B hB v w h)
  have H6 : Hid (∀ w v, ByAt w v (boxTo 256) → Calls Try.prog 30 #[v] w fun e w' => ∃ g o c, e = .returned (.tuple #[.slice (some ⟨g, o, none⟩) 5 c, .int .i64 0]) ∧ (∀ k, k < 5 → w'.cell? ⟨g, o + k, none⟩ = some (.int .i64 (cycL.getD k 0))) ∧ Below w.heap.size w w') := fun w v h => by
    refine (pCyc_any (boxTo 256) (box_len 256) v w h).mono ?_
    rintro e w' ⟨⟨_, vo, rfl, hi⟩ | ⟨ho, _⟩, hb⟩
    · rw [box_cyc] at hi
      obtain ⟨a, c, rfl, hc⟩ := hi.shape
      obtain ⟨g, o, rfl, _, _⟩ := hc 0 (by decide)
      refine ⟨g, o, c, rfl, fun k hk => ?_, hb⟩
      obtain ⟨g', o', he, _, h2⟩ := hc k hk
      cases he; exact h2
    · rw [box_once] at ho; cases ho
  rw [uni_ext (u := sbN) (fun x hx => box_tb hx), uni_sb] at H3
  rw [str_ext (u := sbN) (fun x hx => box_tb hx), str_sb] at H4
  rw [deg_ext (u := sbN) (fun x hx => box_tb hx), deg_sb hB] at H5
  rw [tb_ext (u := sbN) (fun x hx => box_tb hx) x.toNat_lt] at H1
  rw [lin_ext (u := sbN) (fun x hx => box_tb hx)] at H2
  have hx : x.toNat < 256 := x.toNat_lt
  have hy : y.toNat < 256 := y.toNat_lt
  have hs := us_sb hx
  have hsl := sbN_lt x.toNat
  have hnx : bits .xor .u8 255 (x.toNat : Int) = ((255 - x.toNat : Nat) : Int) := by
    rw [← not_at hx]; exact u8_xor_nat 255 x.toNat (by omega) hx
  have HBC : Hid (∀ w' g cap, ByAt w' (.slice (some ⟨g, 0, none⟩) 256 cap) (boxTo 256) → w'.cell? ⟨g, x.toNat, none⟩ = some (.int .u8 (sbN x.toNat : Int))) := fun w' g cap h => by
    obtain ⟨g', o', he, _, hc⟩ := tab_cell0 h (box_len 256) (Below.refl w'.heap.size w') hx
    cases he
    rw [box_tb hx, Nat.zero_add] at hc; exact hc
  have HBY := hidD (fun (w' : World) base g cap h => box_by (w := w') (base := base) (g := g) (cap := cap) h)
  have HSHP := hidD (fun (w' : World) base v (h : w'.ownsRow base 5 1 v 256 ((boxTo 256).map encB)) => row_shapeC h (by omega))
  have HD1 := hidD (fun h => diff_sb (a := x.toNat) (c := y.toNat) h hx hy)
  have HD0 := hidD (diff_zero sbN y.toNat)
  have HL1 := hidD (fun h => lin_sb (a := x.toNat) (b := y.toNat) h hx hy)
  have hlb := ct_le (fun z => parS (z &&& x.toNat) == parS (sbN z &&& y.toNat)) 256
  have hlb : linS sbN x.toNat y.toNat ≤ 256 := hlb
  have hs1 : ¬ (sbN x.toNat : Int) = (x.toNat : Int) := by have := hs.2.2.2.1; omega
  have hs2 : ¬ (sbN x.toNat : Int) = ((255 - x.toNat : Nat) : Int) := by have := hs.2.2.2.2; omega
  have hs1b : ((sbN x.toNat : Int) == (x.toNat : Int)) = false := by simpa using hs1
  have hs2b : ((sbN x.toNat : Int) == ((255 - x.toNat : Nat) : Int)) = false := by simpa using hs2
  have HF : Hid ((((sbN x.toNat : Int) != (x.toNat : Int)) && ((sbN x.toNat : Int) != bits .xor .u8 IntKind.u8.max (x.toNat : Int))) = true) := by
    show _ = true
    rw [show IntKind.u8.max = 255 from rfl, hnx, Bool.and_eq_true_iff]
    exact ⟨by simpa using hs1, by simpa using hs2⟩
  clear hs hs2 hs2b hnx
  obtain ⟨N, hN⟩ : ∃ N, diffS sbN x.toNat y.toNat = N := ⟨_, rfl⟩
  rw [hN] at H1 HD1
  have HNX : Hid (x.toNat = 0 → N = 0 ∨ N = 256) := fun h0 => by rw [← hN, h0]; exact HD0.out
  generalize hK : (linS sbN x.toNat y.toNat : Int) - 128 = K at *
  have HLK : Hid (y.toNat ≠ 0 → K ≤ 16 ∧ -16 ≤ K) := fun h => by have := HL1.out h; omega
  clear HD0 HL1 hN hK hlb
  generalize sbN x.toNat = S at *
  generalize x.toNat = X at *
  generalize y.toNat = Y at *
  generalize boxTo 256 = L at *
  have HSB := hidD (fun k h => sum_bound (k := k) h)
  have HIB := hidD (fun k h => item_bound (k := k) h)
  have hN := HD1.out hx0
  have hx1 : ¬ (X : Int) = 0 := by omega
  have hx2 : ((X : Int) == 0) = false := by simpa using hx1
  have hn1 : ¬ (4 : Int) < N := by omega
  have hn2 : (N : Int).tmod 2 = 0 := by rw [Int.tmod_eq_emod_of_nonneg (by omega)]; omega
  clear HNX HD1 hx0 hN
  have hK := HLK.out hy0
  have hk1 : ¬ (16 : Int) < K := by omega
  have hk2 : ¬ K < -16 := by omega
  have hy1 : ¬ (Y : Int) = 0 := by omega
  have hy2 : ((Y : Int) == 0) = false := by simpa using hy1
  clear HLK hK hy0
  go_enter Try.func8, Try.ntmps8
  go_wp2_with (first
    | (go_at_call 23; refine (HA.out _).mono ?_; rintro e w0 ⟨rfl, hb0⟩; have HB0 := hidD hb0; clear hb0)
    | (go_at_call 41; refine (HX.out _).mono ?_; rintro e w1 ⟨vb, rfl, hown1, hb1⟩; obtain ⟨gb, cap, rfl, hgb0, hgb, hgb2⟩ := HSHP.out _ _ _ hown1; have HY1 := hidD (HBY.out _ _ _ _ hown1); have HB1 := hidD (Below.next HB0.out hb1); clear hown1 hb1 hgb0 hgb hgb2)
    | (go_at_call 24; refine (H1.out _ _ HY1.out).mono ?_; rintro e w2 ⟨rfl, hb2⟩; have HY2 := hidD (HY1.out.next hb2); have HB2 := hidD (Below.next HB1.out hb2); clear hb2)
    | (go_at_call 26; refine (H2.out _ _ HY2.out).mono ?_; rintro e w3 ⟨rfl, hb3⟩; have HY3 := hidD (HY2.out.next hb3); have HB3 := hidD (Below.next HB2.out hb3); clear hb3)
    | (go_at_call 33; refine (H3.out _ _ HY3.out).mono ?_; rintro e w4 ⟨rfl, hb4⟩; have HY4 := hidD (HY3.out.next hb4); have HB4 := hidD (Below.next HB3.out hb4); clear hb4)
    | (go_at_call 35; refine (H4.out _ _ HY4.out).mono ?_; rintro e w5 ⟨rfl, hb5⟩; have HY5 := hidD (HY4.out.next hb5); have HB5 := hidD (Below.next HB4.out hb5); clear hb5)
    | (go_at_call 28; refine (H5.out _ _ HY5.out).mono ?_; rintro e w6 ⟨rfl, hb6⟩; have HY6 := hidD (HY5.out.next hb6); have HB6 := hidD (Below.next HB5.out hb6); clear hb6)
    | (go_at_call 30; refine (H6.out _ _ HY6.out).mono ?_; rintro e w7 ⟨g7, o7, c7, rfl, hi7, hb7⟩; have HI7 := hidD hi7; have HC7 := hidD (HBC.out _ _ _ (HY6.out.next hb7)); have HB7 := hidD (Below.next HB6.out hb7); clear hi7 hb7))
  go_loopw [19, 20] (fun s j wr => ∃ k : Nat, k ≤ 5 ∧ j = .int .i64 k ∧ s = .int .i64 (sumTo cycL k) ∧ wr = w7) (fun _ j _ => 5 - (intOf j).toNat)
  case atStart => exact ⟨0, Nat.zero_le _, rfl, rfl, rfl⟩
  case round =>
    obtain ⟨k, hk, rfl, rfl, rfl⟩ := hrel
    by_cases hlt : k < 5
    · have hlti : (k : Int) < 5 := by omega
      have hcell := HI7.out k hlt
      have hsb := HSB.out k hk
      have hib := HIB.out k hlt
      have HSU : Hid (sumTo cycL (k + 1) = sumTo cycL k + cycL.getD k 0) := rfl
      generalize cycL.getD k 0 = C at *
      generalize sumTo cycL k = SU at *
      go_wp2_with fail
      go_roundw
      case rel => exact ⟨k + 1, by omega, by go_num, by rw [HSU.out], trivial⟩
      case measure => simp [intOf]; omega
    · obtain rfl : k = 5 := by omega
      rw [show sumTo cycL 5 = 256 from by decide]
      have hc7 := HC7.out
      go_wp2_with fail
      have hf := HF.out
      rw [hf]
      go_ret
      exact ⟨rfl, HB7.out⟩
end Go.Proofs.Ytdbledfpphkppaa
