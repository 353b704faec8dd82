/- AesModes: the walk. -/
import Derived.Test.YtgefampdfhbmbaaBlj
namespace Go.Proofs.Ytgefampdfhbmbaa
open Go.RowKit
set_option linter.unusedVariables false

theorem sl_ownD {w : World} {base : Nat} {v : Value} {l : List UInt8} {n : Nat} (h : w.ownsRow base 5 1 v n (l.map encB)) : SlAt w v l := sl_of_own (base := base) (by have := h.1; rw [List.length_map, Nat.mul_one] at this; rw [this]; exact h)
set_option maxRecDepth 100000 in
set_option maxHeartbeats 1600000 in
theorem modes_gen (s d X1 X2 X3 X4 : List UInt8) (hs : s.length ≤ 140737488355200) (hd : d.length ≤ 140737488355200) (c1 c2 c3 : Int) (v x u : Value) (w : World) (hx : SlAt w x s) (hu : SlAt w u d) (K : Option Addr → Option Addr → World → Prop) (hK : ∀ P Q w w', K P Q w → Below w.heap.size w w' → K P Q w')
    (HBO : Hid (Calls Try.prog 9 #[v] w fun e w' => ∃ P Q, e = .returned (.tuple #[.pointer P, .pointer Q, .bool true]) ∧ K P Q w' ∧ Below w.heap.size w w'))
    (HC1 : Hid (∀ P Q wA vA uA, K P Q wA → SlAt wA vA s → SlAt wA uA d → Calls Try.prog 22 #[.pointer P, vA, uA] wA fun e w' => ∃ vo, e = .returned (.tuple #[vo, .int .i64 c1]) ∧ ByAt w' vo X1 ∧ Below wA.heap.size wA w'))
    (HC2 : Hid (∀ P Q wA vA uA, K P Q wA → SlAt wA vA s → SlAt wA uA d → Calls Try.prog 23 #[.pointer Q, vA, uA] wA fun e w' => ∃ vo, e = .returned (.tuple #[vo, .int .i64 c1]) ∧ ByAt w' vo X1 ∧ Below wA.heap.size wA w'))
    (HC3 : Hid (∀ P Q wA vA uA, K P Q wA → SlAt wA vA s → SlAt wA uA d → Calls Try.prog 24 #[.pointer P, vA, uA] wA fun e w' => ∃ vo, e = .returned (.tuple #[vo, .int .i64 c2]) ∧ ByAt w' vo X2 ∧ Below wA.heap.size wA w'))
    (HC4 : Hid (∀ P Q wA vA uA, K P Q wA → SlAt wA vA s → SlAt wA uA d → Calls Try.prog 25 #[.pointer Q, vA, uA] wA fun e w' => ∃ vo, e = .returned (.tuple #[vo, .int .i64 c2]) ∧ ByAt w' vo X2 ∧ Below wA.heap.size wA w'))
    (HC5 : Hid (∀ P Q wA vA uA, K P Q wA → SlAt wA vA s → SlAt wA uA d → Calls Try.prog 26 #[.pointer P, vA, uA] wA fun e w' => ∃ vo, e = .returned (.tuple #[vo, .int .i64 c2]) ∧ ByAt w' vo X3 ∧ Below wA.heap.size wA w'))
    (HC6 : Hid (∀ P Q wA vA uA, K P Q wA → SlAt wA vA s → SlAt wA uA d → Calls Try.prog 27 #[.pointer Q, vA, uA] wA fun e w' => ∃ vo, e = .returned (.tuple #[vo, .int .i64 c2]) ∧ ByAt w' vo X3 ∧ Below wA.heap.size wA w'))
    (HC7 : Hid (∀ P Q wA vA uA, K P Q wA → SlAt wA vA s → SlAt wA uA d → Calls Try.prog 28 #[.pointer P, uA] wA fun e w' => ∃ vo, e = .returned (.tuple #[vo, .int .i64 c3]) ∧ ByAt w' vo X4 ∧ Below wA.heap.size wA w'))
    (HC8 : Hid (∀ P Q wA vA uA, K P Q wA → SlAt wA vA s → SlAt wA uA d → Calls Try.prog 29 #[.pointer Q, uA] wA fun e w' => ∃ vo, e = .returned (.tuple #[vo, .int .i64 c3]) ∧ ByAt w' vo X4 ∧ Below wA.heap.size wA w')) :
    Calls Try.prog 5 #[v, x, u] w fun e w' => e = .returned (.bool true) ∧ Below w.heap.size w w' := by
  have HAV := hidD alive_any
  have HKK := hidD hK
  have HUU : Hid (∀ wA, Below w.heap.size w wA → SlAt wA u d) := fun wA hb => hu.next hb
  have HXX : Hid (∀ wA, Below w.heap.size w wA → SlAt wA x s) := fun wA hb => hx.next hb
  have HSM : ∀ L : List UInt8, Hid (∀ wA u v, ByAt wA u L → ByAt wA v L → Calls Try.prog 13 #[u, v] wA fun e w' => e = .returned (.bool true) ∧ w' = wA) := fun L wA u v hu hv => by
    have := same_any L L u v wA hu hv
    rw [decide_eq_true rfl] at this
    exact this
  have HS1 := HSM X1
  have HS2 := HSM X2
  have HS3 := HSM X3
  have HS4 := HSM X4
  have HS5 := HSM s
  have HS6 := HSM d
  clear HSM hK
  have HOX : Hid (∀ wA, Below w.heap.size w wA → Calls Try.prog 15 #[x] wA fun e w' => ∃ vo, e = .returned vo ∧ w'.ownsRow wA.heap.size 5 1 vo s.length (s.map encB) ∧ Below wA.heap.size wA w') := fun wA hb => own_any s hs x wA (hx.next hb).by'
  have HOU : Hid (∀ wA, Below w.heap.size w wA → Calls Try.prog 15 #[u] wA fun e w' => ∃ vo, e = .returned vo ∧ w'.ownsRow wA.heap.size 5 1 vo d.length (d.map encB) ∧ Below wA.heap.size wA w') := fun wA hb => own_any d hd u wA (hu.next hb).by'
  obtain ⟨au, cu, rfl, _, _⟩ := hu.shape
  obtain ⟨ax, cx, rfl, _, _⟩ := hx.shape
  clear hu hx
  generalize d.length = DL at *
  generalize s.length = SL at *
  go_enter Try.func5, Try.ntmps5
  go_wp2_with (first
    | (go_at_call 9; refine HBO.out.mono ?_; rintro e w1 ⟨P, Q, rfl, hk1, hb1⟩; have HB1 := hidD hb1; have HK1 := hidD hk1; clear hb1 hk1)
    | (go_at_call 10; refine (HAV.out _).mono ?_; rintro e w2 ⟨rfl, hb2⟩; have HK2 := hidD (HKK.out _ _ _ _ HK1.out hb2); have HB2 : Hid (Below w.heap.size w w2) := Below.next HB1.out hb2; clear hb2 HB1 HK1)
    | (go_at_call 15; refine (HOX.out _ HB2.out).mono ?_; rintro e w3 ⟨vm, rfl, hom, hb3⟩; obtain ⟨am, cm, hvm⟩ := row_shape hom; subst hvm; have HM3 := hidD (sl_ownD hom); have HK3 := hidD (HKK.out _ _ _ _ HK2.out hb3); have HB3 : Hid (Below w.heap.size w w3) := Below.next HB2.out hb3; clear hb3 hom HB2 HK2 HOX)
    | (go_at_call 15; refine (HOU.out _ HB3.out).mono ?_; rintro e w4 ⟨vn, rfl, hon, hb4⟩; obtain ⟨an, cn, hvn⟩ := row_shape hon; subst hvn; have HN4 := hidD (sl_ownD hon); have HM4 := hidD (HM3.out.next hb4); have HK4 := hidD (HKK.out _ _ _ _ HK3.out hb4); have HB4 : Hid (Below w.heap.size w w4) := Below.next HB3.out hb4; clear hb4 hon HB3 HK3 HM3)
    | (go_at_call 22; refine (HC1.out _ _ _ _ _ HK4.out HM4.out HN4.out).mono ?_; rintro e w5 ⟨vo, rfl, hx, hb⟩; obtain ⟨a22, k22, hvv, _⟩ := hx.shape; subst hvv; have HR22w5 := hidD hx; have HN5 := hidD (HN4.out.next hb); have HM5 := hidD (HM4.out.next hb); have HK5 := hidD (HKK.out _ _ _ _ HK4.out hb); have HB5 : Hid (Below w.heap.size w w5) := Below.next HB4.out hb; clear hb hx HB4 HK4 HM4 HN4 )
    | (go_at_call 23; refine (HC2.out _ _ _ _ _ HK5.out (HXX.out _ HB5.out) (HUU.out _ HB5.out)).mono ?_; rintro e w6 ⟨vo, rfl, hx, hb⟩; obtain ⟨a23, k23, hvv, _⟩ := hx.shape; subst hvv; have HR22w6 := hidD (HR22w5.out.next hb); have HR23w6 := hidD hx; have HN6 := hidD (HN5.out.next hb); have HM6 := hidD (HM5.out.next hb); have HK6 := hidD (HKK.out _ _ _ _ HK5.out hb); have HB6 : Hid (Below w.heap.size w w6) := Below.next HB5.out hb; clear hb hx HB5 HK5 HM5 HN5 HR22w5)
    | (go_at_call 24; refine (HC3.out _ _ _ _ _ HK6.out HM6.out HN6.out).mono ?_; rintro e w7 ⟨vo, rfl, hx, hb⟩; obtain ⟨a24, k24, hvv, _⟩ := hx.shape; subst hvv; have HR22w7 := hidD (HR22w6.out.next hb); have HR23w7 := hidD (HR23w6.out.next hb); have HR24w7 := hidD hx; have HN7 := hidD (HN6.out.next hb); have HM7 := hidD (HM6.out.next hb); have HK7 := hidD (HKK.out _ _ _ _ HK6.out hb); have HB7 : Hid (Below w.heap.size w w7) := Below.next HB6.out hb; clear hb hx HB6 HK6 HM6 HN6 HR22w6 HR23w6)
    | (go_at_call 25; refine (HC4.out _ _ _ _ _ HK7.out (HXX.out _ HB7.out) (HUU.out _ HB7.out)).mono ?_; rintro e w8 ⟨vo, rfl, hx, hb⟩; obtain ⟨a25, k25, hvv, _⟩ := hx.shape; subst hvv; have HR22w8 := hidD (HR22w7.out.next hb); have HR23w8 := hidD (HR23w7.out.next hb); have HR24w8 := hidD (HR24w7.out.next hb); have HR25w8 := hidD hx; have HN8 := hidD (HN7.out.next hb); have HM8 := hidD (HM7.out.next hb); have HK8 := hidD (HKK.out _ _ _ _ HK7.out hb); have HB8 : Hid (Below w.heap.size w w8) := Below.next HB7.out hb; clear hb hx HB7 HK7 HM7 HN7 HR22w7 HR23w7 HR24w7)
    | (go_at_call 26; refine (HC5.out _ _ _ _ _ HK8.out HM8.out HN8.out).mono ?_; rintro e w9 ⟨vo, rfl, hx, hb⟩; obtain ⟨a26, k26, hvv, _⟩ := hx.shape; subst hvv; have HR22w9 := hidD (HR22w8.out.next hb); have HR23w9 := hidD (HR23w8.out.next hb); have HR24w9 := hidD (HR24w8.out.next hb); have HR25w9 := hidD (HR25w8.out.next hb); have HR26w9 := hidD hx; have HN9 := hidD (HN8.out.next hb); have HM9 := hidD (HM8.out.next hb); have HK9 := hidD (HKK.out _ _ _ _ HK8.out hb); have HB9 : Hid (Below w.heap.size w w9) := Below.next HB8.out hb; clear hb hx HB8 HK8 HM8 HN8 HR22w8 HR23w8 HR24w8 HR25w8)
    | (go_at_call 27; refine (HC6.out _ _ _ _ _ HK9.out (HXX.out _ HB9.out) (HUU.out _ HB9.out)).mono ?_; rintro e w10 ⟨vo, rfl, hx, hb⟩; obtain ⟨a27, k27, hvv, _⟩ := hx.shape; subst hvv; have HR22w10 := hidD (HR22w9.out.next hb); have HR23w10 := hidD (HR23w9.out.next hb); have HR24w10 := hidD (HR24w9.out.next hb); have HR25w10 := hidD (HR25w9.out.next hb); have HR26w10 := hidD (HR26w9.out.next hb); have HR27w10 := hidD hx; have HN10 := hidD (HN9.out.next hb); have HM10 := hidD (HM9.out.next hb); have HK10 := hidD (HKK.out _ _ _ _ HK9.out hb); have HB10 : Hid (Below w.heap.size w w10) := Below.next HB9.out hb; clear hb hx HB9 HK9 HM9 HN9 HR22w9 HR23w9 HR24w9 HR25w9 HR26w9)
    | (go_at_call 28; refine (HC7.out _ _ _ _ _ HK10.out HM10.out HN10.out).mono ?_; rintro e w11 ⟨vo, rfl, hx, hb⟩; obtain ⟨a28, k28, hvv, _⟩ := hx.shape; subst hvv; have HR22w11 := hidD (HR22w10.out.next hb); have HR23w11 := hidD (HR23w10.out.next hb); have HR24w11 := hidD (HR24w10.out.next hb); have HR25w11 := hidD (HR25w10.out.next hb); have HR26w11 := hidD (HR26w10.out.next hb); have HR27w11 := hidD (HR27w10.out.next hb); have HR28w11 := hidD hx; have HN11 := hidD (HN10.out.next hb); have HM11 := hidD (HM10.out.next hb); have HK11 := hidD (HKK.out _ _ _ _ HK10.out hb); have HB11 : Hid (Below w.heap.size w w11) := Below.next HB10.out hb; clear hb hx HB10 HK10 HM10 HN10 HR22w10 HR23w10 HR24w10 HR25w10 HR26w10 HR27w10)
    | (go_at_call 29; refine (HC8.out _ _ _ _ _ HK11.out (HXX.out _ HB11.out) (HUU.out _ HB11.out)).mono ?_; rintro e w12 ⟨vo, rfl, hx, hb⟩; obtain ⟨a29, k29, hvv, _⟩ := hx.shape; subst hvv; have HR22w12 := hidD (HR22w11.out.next hb); have HR23w12 := hidD (HR23w11.out.next hb); have HR24w12 := hidD (HR24w11.out.next hb); have HR25w12 := hidD (HR25w11.out.next hb); have HR26w12 := hidD (HR26w11.out.next hb); have HR27w12 := hidD (HR27w11.out.next hb); have HR28w12 := hidD (HR28w11.out.next hb); have HR29w12 := hidD hx; have HN12 := hidD (HN11.out.next hb); have HM12 := hidD (HM11.out.next hb); have HK12 := hidD (HKK.out _ _ _ _ HK11.out hb); have HB12 : Hid (Below w.heap.size w w12) := Below.next HB11.out hb; clear hb hx HB11 HK11 HM11 HN11 HR22w11 HR23w11 HR24w11 HR25w11 HR26w11 HR27w11 HR28w11)
    | (go_at_call 13; refine (HS1.out _ _ _ HR22w12.out HR23w12.out).mono ?_; rintro e wz ⟨rfl, hwz⟩; subst hwz; clear HS1)
    | (go_at_call 13; refine (HS2.out _ _ _ HR24w12.out HR25w12.out).mono ?_; rintro e wz ⟨rfl, hwz⟩; subst hwz; clear HS2)
    | (go_at_call 13; refine (HS3.out _ _ _ HR26w12.out HR27w12.out).mono ?_; rintro e wz ⟨rfl, hwz⟩; subst hwz; clear HS3)
    | (go_at_call 13; refine (HS4.out _ _ _ HR28w12.out HR29w12.out).mono ?_; rintro e wz ⟨rfl, hwz⟩; subst hwz; clear HS4)
    | (go_at_call 13; refine (HS5.out _ _ _ HM12.out.by' (HXX.out _ HB12.out).by').mono ?_; rintro e wz ⟨rfl, hwz⟩; subst hwz; clear HS5)
    | (go_at_call 13; refine (HS6.out _ _ _ HN12.out.by' (HUU.out _ HB12.out).by').mono ?_; rintro e wz ⟨rfl, hwz⟩; subst hwz; clear HS6))
  go_ret
  exact ⟨rfl, HB12.out⟩
theorem aesModes_any (l s d : List UInt8) (hl : l.length ≤ 140737488355200) (hs : s.length ≤ 140737488355200) (hd : d.length ≤ 140737488355100) (v x u : Value) (w : World) (hv : ByAt w v l) (hx : SlAt w x s) (hu : SlAt w u d) : Calls Try.prog 5 #[v, x, u] w fun e w' => e = .returned (.bool true) ∧ Below w.heap.size w w' := by
  have hd2 : d.length ≤ 140737488355200 := by omega
  by_cases hk : l.length = 16 ∨ l.length = 24 ∨ l.length = 32
  · obtain ⟨n, hn, hn4⟩ : ∃ n, (n = 4 ∨ n = 6 ∨ n = 8) ∧ l.length = 4 * n := ⟨l.length / 4, by omega, by omega⟩
    have hn8 : n ≤ 8 := by omega
    have M1 : Hid (∀ P Q wA vA uA, KTwo n (blk l) P Q wA → SlAt wA vA s → SlAt wA uA d → Calls Try.prog 28 #[.pointer P, uA] wA fun e w' => ∃ vo, e = .returned (.tuple #[vo, .int .i64 0]) ∧ ByAt w' vo (toL (macS (enS (n + 6) (rkS n (blk l))) d)) ∧ Below wA.heap.size wA w') := by
      rintro P Q wA vA uA ⟨p, b, B, rfl, rfl, h3, h4⟩ h5 h6
      exact sl_by (pMac_any d hd n B p hn8 (blk l) uA wA h3 h6)
    have M2 : Hid (∀ P Q wA vA uA, KTwo n (blk l) P Q wA → SlAt wA vA s → SlAt wA uA d → Calls Try.prog 29 #[.pointer Q, uA] wA fun e w' => ∃ vo, e = .returned (.tuple #[vo, .int .i64 0]) ∧ ByAt w' vo (toL (macS (enS (n + 6) (rkS n (blk l))) d)) ∧ Below wA.heap.size wA w') := by
      rintro P Q wA vA uA ⟨p, b, B, rfl, rfl, h3, h4⟩ h5 h6
      exact refMac_any d hd n hn8 (blk l) b uA wA h4 h6.by'
    by_cases h16 : s.length = 16
    · have C1 : Hid (∀ P Q wA vA uA, KTwo n (blk l) P Q wA → SlAt wA vA s → SlAt wA uA d → Calls Try.prog 22 #[.pointer P, vA, uA] wA fun e w' => ∃ vo, e = .returned (.tuple #[vo, .int .i64 0]) ∧ ByAt w' vo (cntS (enS (n + 6) (rkS n (blk l))) (blk s) d) ∧ Below wA.heap.size wA w') := by
        rintro P Q wA vA uA ⟨p, b, B, rfl, rfl, h3, h4⟩ h5 h6
        exact sl_by (pCounter_any s d h16 (Nat.le_trans hd2 (by omega)) n B p hn8 (blk l) vA uA wA h3 h5.by' h6)
      have C2 : Hid (∀ P Q wA vA uA, KTwo n (blk l) P Q wA → SlAt wA vA s → SlAt wA uA d → Calls Try.prog 23 #[.pointer Q, vA, uA] wA fun e w' => ∃ vo, e = .returned (.tuple #[vo, .int .i64 0]) ∧ ByAt w' vo (cntS (enS (n + 6) (rkS n (blk l))) (blk s) d) ∧ Below wA.heap.size wA w') := by
        rintro P Q wA vA uA ⟨p, b, B, rfl, rfl, h3, h4⟩ h5 h6
        exact own_by (refCounter_any s d h16 hd2 n hn8 (blk l) b vA uA wA h4 h5.by' h6.by')
      by_cases hw : d.length % 16 = 0
      · refine modes_gen s d _ (chS (enS (n + 6) (rkS n (blk l))) (blk s) d) (unchS (deS (n + 6) (rkS n (blk l))) (blk s) d) _ hs hd2 0 0 0 v x u w hx hu (KTwo n (blk l)) (KTwo.next n (blk l)) (both_twoK l n hn hn4 v w hv) C1 C2 ?_ ?_ ?_ ?_ M1 M2
        · rintro P Q wA vA uA ⟨p, b, B, rfl, rfl, h3, h4⟩ h5 h6
          exact sl_by (pChain_any s d h16 (Nat.le_trans hd2 (by omega)) hw n B p hn8 (blk l) vA uA wA h3 h5.by' h6)
        · rintro P Q wA vA uA ⟨p, b, B, rfl, rfl, h3, h4⟩ h5 h6
          exact own_by (refChain_any s d h16 hd2 hw n hn8 (blk l) b vA uA wA h4 h5.by' h6)
        · rintro P Q wA vA uA ⟨p, b, B, rfl, rfl, h3, h4⟩ h5 h6
          exact sl_by (pUnchain_any s d h16 (Nat.le_trans hd2 (by omega)) hw n B p hn8 (blk l) vA uA wA h3 h5.by' h6)
        · rintro P Q wA vA uA ⟨p, b, B, rfl, rfl, h3, h4⟩ h5 h6
          exact own_by (refUnchain_any s d h16 hd2 hw n hn8 (blk l) b vA uA wA h4 h5.by' h6)
      · refine modes_gen s d _ [] [] _ hs hd2 0 91 0 v x u w hx hu (KTwo n (blk l)) (KTwo.next n (blk l)) (both_twoK l n hn hn4 v w hv) C1 C2 ?_ ?_ ?_ ?_ M1 M2
        · rintro P Q wA vA uA ⟨p, b, B, rfl, rfl, h3, h4⟩ h5 h6
          exact sl_by (pChain_no s d (.inr hw) n B p (blk l) vA uA wA h3 h5.by' h6)
        · rintro P Q wA vA uA ⟨p, b, B, rfl, rfl, h3, h4⟩ h5 h6
          exact same_world (refChain_no s d (.inr hw) b vA uA wA h5.by' h6.by')
        · rintro P Q wA vA uA ⟨p, b, B, rfl, rfl, h3, h4⟩ h5 h6
          exact sl_by (pUnchain_no s d (.inr hw) n B p (blk l) vA uA wA h3 h5.by' h6)
        · rintro P Q wA vA uA ⟨p, b, B, rfl, rfl, h3, h4⟩ h5 h6
          exact same_world (refUnchain_no s d (.inr hw) b vA uA wA h5.by' h6.by')
    · refine modes_gen s d [] [] [] _ hs hd2 91 91 0 v x u w hx hu (KTwo n (blk l)) (KTwo.next n (blk l)) (both_twoK l n hn hn4 v w hv) ?_ ?_ ?_ ?_ ?_ ?_ M1 M2
      · rintro P Q wA vA uA ⟨p, b, B, rfl, rfl, h3, h4⟩ h5 h6
        exact sl_by (pCounter_no s d h16 n B p (blk l) vA uA wA h3 h5.by' h6)
      · rintro P Q wA vA uA ⟨p, b, B, rfl, rfl, h3, h4⟩ h5 h6
        exact same_world (refCounter_no s h16 b vA uA wA h5.by')
      · rintro P Q wA vA uA ⟨p, b, B, rfl, rfl, h3, h4⟩ h5 h6
        exact sl_by (pChain_no s d (.inl h16) n B p (blk l) vA uA wA h3 h5.by' h6)
      · rintro P Q wA vA uA ⟨p, b, B, rfl, rfl, h3, h4⟩ h5 h6
        exact same_world (refChain_no s d (.inl h16) b vA uA wA h5.by' h6.by')
      · rintro P Q wA vA uA ⟨p, b, B, rfl, rfl, h3, h4⟩ h5 h6
        exact sl_by (pUnchain_no s d (.inl h16) n B p (blk l) vA uA wA h3 h5.by' h6)
      · rintro P Q wA vA uA ⟨p, b, B, rfl, rfl, h3, h4⟩ h5 h6
        exact same_world (refUnchain_no s d (.inl h16) b vA uA wA h5.by' h6.by')
  · refine modes_gen s d [] [] [] [] hs hd2 2 2 2 v x u w hx hu KNil KNil.next (both_nilK l hl (by omega) (by omega) (by omega) v w hv) ?_ ?_ ?_ ?_ ?_ ?_ ?_ ?_
    · rintro P Q wA vA uA ⟨rfl, rfl⟩ h5 h6
      exact sl_by (pCounter_nil vA uA wA)
    · rintro P Q wA vA uA ⟨rfl, rfl⟩ h5 h6
      exact same_world (refCounter_nil vA uA wA)
    · rintro P Q wA vA uA ⟨rfl, rfl⟩ h5 h6
      exact sl_by (pChain_nil vA uA wA)
    · rintro P Q wA vA uA ⟨rfl, rfl⟩ h5 h6
      exact same_world (refChain_nil vA uA wA)
    · rintro P Q wA vA uA ⟨rfl, rfl⟩ h5 h6
      exact sl_by (pUnchain_nil vA uA wA)
    · rintro P Q wA vA uA ⟨rfl, rfl⟩ h5 h6
      exact same_world (refUnchain_nil vA uA wA)
    · rintro P Q wA vA uA ⟨rfl, rfl⟩ h5 h6
      exact sl_by (pMac_nil uA wA)
    · rintro P Q wA vA uA ⟨rfl, rfl⟩ h5 h6
      exact same_world (refMac_nil uA wA)
end Go.Proofs.Ytgefampdfhbmbaa
