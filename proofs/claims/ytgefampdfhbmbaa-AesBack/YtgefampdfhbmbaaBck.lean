/- AesBack: the walk. -/
import Derived.Test.YtgefampdfhbmbaaLw3
namespace Go.Proofs.Ytgefampdfhbmbaa
open Go.RowKit
set_option linter.unusedVariables false

theorem de_en_L (n : Nat) (key c : Nat → UInt8) : toL (deS (n + 6) (rkS n key) (blk (toL (enS (n + 6) (rkS n key) c)))) = toL c := by rw [enc_blk]; exact toL_congr (de_en _ _ _)
theorem en_de_L (n : Nat) (key c : Nat → UInt8) : toL (enS (n + 6) (rkS n key) (blk (toL (deS (n + 6) (rkS n key) c)))) = toL c := by rw [enc_row]; exact toL_congr (en_de _ _ _)
set_option maxRecDepth 100000 in
set_option maxHeartbeats 800000 in
theorem back_no (l : List UInt8) (h16 : l.length ≠ 16) (h24 : l.length ≠ 24) (h32 : l.length ≠ 32) (v x u : Value) (w : World) (hv : ByAt w v l) : Calls Try.prog 7 #[v, x, u] w fun e w' => e = .returned (.bool true) ∧ Below w.heap.size w w' := by
  have HAV := hidD alive_any
  have HPN : Hid (∀ wA, Below w.heap.size w wA → Calls Try.prog 38 #[v] wA fun e w' => e = .returned (.tuple #[.pointer none, .int .i64 90]) ∧ Below wA.heap.size wA w') := fun wA hb => pNew_no l h16 h24 h32 v wA (hv.next hb)
  have e1 : ((l.length : Int) != 16) = true := by
    have : ¬ ((l.length : Int) = 16) := by omega
    simpa using this
  have e2 : ((l.length : Int) != 24) = true := by
    have : ¬ ((l.length : Int) = 24) := by omega
    simpa using this
  have e3 : ((l.length : Int) != 32) = true := by
    have : ¬ ((l.length : Int) = 32) := by omega
    simpa using this
  obtain ⟨a', cap, rfl, _⟩ := hv.shape
  clear hv h16 h24 h32
  generalize l.length = LL at *
  go_enter Try.func7, Try.ntmps7
  go_wp2_with (first
    | (go_at_call 10; refine (HAV.out _).mono ?_; rintro e w1 ⟨rfl, hb1⟩; have HB1 := hidD hb1; clear hb1)
    | (go_at_call 38; refine (HPN.out _ HB1.out).mono ?_; rintro e w2 ⟨rfl, hb2⟩; have HB2 : Hid (Below w.heap.size w w2) := Below.next HB1.out hb2; clear hb2))
  go_ret
  exact ⟨rfl, HB2.out⟩
set_option maxRecDepth 100000 in
set_option maxHeartbeats 1600000 in
theorem back_any (l s d : List UInt8) (n : Nat) (hn : n = 4 ∨ n = 6 ∨ n = 8) (hl : l.length = 4 * n) (hs : s.length ≤ 140737488355100) (hd : d.length ≤ 140737488355100) (v x u : Value) (w : World) (hv : SlAt w v l) (hx : SlAt w x s) (hu : SlAt w u d) : Calls Try.prog 7 #[v, x, u] w fun e w' => e = .returned (.bool true) ∧ Below w.heap.size w w' := by
  have hn8 : n ≤ 8 := by omega
  have HAV := hidD alive_any
  have HPN : Hid (∀ wA, Below w.heap.size w wA → Calls Try.prog 38 #[v] wA fun e w' => ∃ p, e = .returned (.tuple #[.pointer (some ⟨p, 0, none⟩), .int .i64 0]) ∧ AcAt w' wA.heap.size p n (blk l) ∧ Below wA.heap.size wA w') := fun wA hb => pNew_any l n hn hl v wA (hv.next hb)
  have HPD : Hid (∀ wA, Below w.heap.size w wA → Calls Try.prog 32 #[u] wA fun e w' => ∃ vo, e = .returned vo ∧ SlAt w' vo (padS d) ∧ Below wA.heap.size wA w') := fun wA hb => pPad_any d (by omega) u wA (hu.next hb).by'
  have HE1 : Hid (∀ c B p wA vA, AcAt wA B p n (blk l) → ByAt wA vA (toL c) → Calls Try.prog 16 #[.pointer (some ⟨p, 0, none⟩), vA] wA fun e w' => ∃ vo, e = .returned (.tuple #[vo, .int .i64 0]) ∧ SlAt w' vo (toL (enS (n + 6) (rkS n (blk l)) c)) ∧ Below wA.heap.size wA w') := fun c B p wA vA ha hA => by
    have h1 := pEncrypt_any (toL c) (toL_len c) n B p hn8 (blk l) vA wA ha hA
    rw [enc_row] at h1; exact h1
  have HD1 : Hid (∀ c B p wA vA, AcAt wA B p n (blk l) → ByAt wA vA (toL (enS (n + 6) (rkS n (blk l)) c)) → Calls Try.prog 18 #[.pointer (some ⟨p, 0, none⟩), vA] wA fun e w' => ∃ vo, e = .returned (.tuple #[vo, .int .i64 0]) ∧ SlAt w' vo (toL c) ∧ Below wA.heap.size wA w') := fun c B p wA vA ha hA => by
    have h1 := pDecrypt_any _ (toL_len _) n B p hn8 (blk l) vA wA ha hA
    rw [de_en_L] at h1; exact h1
  have HD2 : Hid (∀ c B p wA vA, AcAt wA B p n (blk l) → ByAt wA vA (toL c) → Calls Try.prog 18 #[.pointer (some ⟨p, 0, none⟩), vA] wA fun e w' => ∃ vo, e = .returned (.tuple #[vo, .int .i64 0]) ∧ SlAt w' vo (toL (deS (n + 6) (rkS n (blk l)) c)) ∧ Below wA.heap.size wA w') := fun c B p wA vA ha hA => by
    have h1 := pDecrypt_any (toL c) (toL_len c) n B p hn8 (blk l) vA wA ha hA
    rw [enc_blk] at h1; exact h1
  have HE2 : Hid (∀ c B p wA vA, AcAt wA B p n (blk l) → ByAt wA vA (toL (deS (n + 6) (rkS n (blk l)) c)) → Calls Try.prog 16 #[.pointer (some ⟨p, 0, none⟩), vA] wA fun e w' => ∃ vo, e = .returned (.tuple #[vo, .int .i64 0]) ∧ SlAt w' vo (toL c) ∧ Below wA.heap.size wA w') := fun c B p wA vA ha hA => by
    have h1 := pEncrypt_any _ (toL_len _) n B p hn8 (blk l) vA wA ha hA
    rw [en_de_L] at h1; exact h1
  have hPw := pad_whole d
  have hPl : (padS d).length ≤ 140737488355200 := by rw [pad_len]; unfold padN; omega
  have HCN : Hid (s.length ≠ 16 → ∀ B p wA vA, AcAt wA B p n (blk l) → SlAt wA x s → SlAt wA vA (padS d) → Calls Try.prog 24 #[.pointer (some ⟨p, 0, none⟩), x, vA] wA fun e w' => ∃ vo, e = .returned (.tuple #[vo, .int .i64 91]) ∧ SlAt w' vo [] ∧ Below wA.heap.size wA w') := fun hs16 B p wA vA ha hxA hA => pChain_no s (padS d) (.inl hs16) n B p (blk l) x vA wA ha hxA.by' hA
  have HC1 : Hid (s.length = 16 → ∀ B p wA, AcAt wA B p n (blk l) → SlAt wA x s → SlAt wA u d → Calls Try.prog 22 #[.pointer (some ⟨p, 0, none⟩), x, u] wA fun e w' => ∃ vo, e = .returned (.tuple #[vo, .int .i64 0]) ∧ SlAt w' vo (cntS (enS (n + 6) (rkS n (blk l))) (blk s) d) ∧ Below wA.heap.size wA w') := fun hs16 B p wA ha hxA hA => pCounter_any s d hs16 (by omega) n B p hn8 (blk l) x u wA ha hxA.by' hA
  have HC2 : Hid (s.length = 16 → ∀ B p wA vA, AcAt wA B p n (blk l) → SlAt wA x s → SlAt wA vA (cntS (enS (n + 6) (rkS n (blk l))) (blk s) d) → Calls Try.prog 22 #[.pointer (some ⟨p, 0, none⟩), x, vA] wA fun e w' => ∃ vo, e = .returned (.tuple #[vo, .int .i64 0]) ∧ SlAt w' vo d ∧ Below wA.heap.size wA w') := fun hs16 B p wA vA ha hxA hA => by
    have h1 := pCounter_any s _ hs16 (by rw [cnt_len]; omega) n B p hn8 (blk l) x vA wA ha hxA.by' hA
    rw [cnt_cnt] at h1; exact h1
  have HC3 : Hid (s.length = 16 → ∀ B p wA vA, AcAt wA B p n (blk l) → SlAt wA x s → SlAt wA vA (padS d) → Calls Try.prog 24 #[.pointer (some ⟨p, 0, none⟩), x, vA] wA fun e w' => ∃ vo, e = .returned (.tuple #[vo, .int .i64 0]) ∧ SlAt w' vo (chS (enS (n + 6) (rkS n (blk l))) (blk s) (padS d)) ∧ Below wA.heap.size wA w') := fun hs16 B p wA vA ha hxA hA => pChain_any s (padS d) hs16 (Nat.le_trans hPl (by omega)) hPw.1 n B p hn8 (blk l) x vA wA ha hxA.by' hA
  have HC4 : Hid (s.length = 16 → ∀ B p wA vA, AcAt wA B p n (blk l) → SlAt wA x s → SlAt wA vA (chS (enS (n + 6) (rkS n (blk l))) (blk s) (padS d)) → Calls Try.prog 26 #[.pointer (some ⟨p, 0, none⟩), x, vA] wA fun e w' => ∃ vo, e = .returned (.tuple #[vo, .int .i64 0]) ∧ SlAt w' vo (padS d) ∧ Below wA.heap.size wA w') := fun hs16 B p wA vA ha hxA hA => by
    have h1 := pUnchain_any s _ hs16 (by rw [ch_len]; exact Nat.le_trans hPl (by omega)) (by rw [ch_len]; exact hPw.1) n B p hn8 (blk l) x vA wA ha hxA.by' hA
    rw [unch_ch (E := enS (n + 6) (rkS n (blk l))) (D := deS (n + 6) (rkS n (blk l))) (fun h => xo_same (de_same h (n + 6)) (Same16.rfl' _)) (fun b => de_en _ _ b) (blk s) (padS d) hPw.1] at h1
    exact h1
  have HSM : Hid (∀ (L : List UInt8) wA u v, ByAt wA u L → ByAt wA v L → Calls Try.prog 13 #[u, v] wA fun e w' => e = .returned (.bool true) ∧ w' = wA) := fun L wA u v hu hv => by
    have := same_any L L u v wA hu hv
    rw [decide_eq_true rfl] at this
    exact this
  have HX : Hid (∀ wA, Below w.heap.size w wA → SlAt wA x s) := fun wA hb => hx.next hb
  have HU : Hid (∀ wA, Below w.heap.size w wA → SlAt wA u d) := fun wA hb => hu.next hb
  have HBP : Hid (∀ wA g off cap c' q, ByAt wA (.slice (some ⟨g, off, none⟩) (padS d).length cap) (padS d) → 16 * q + 16 ≤ (padS d).length → ByAt wA (.slice (some ⟨g, off + 16 * q, none⟩) 16 c') (toL (bkA (padS d) q))) := fun wA g off cap c' q h hq => by_piece h hq c'
  have HCL : Hid ((cntS (enS (n + 6) (rkS n (blk l))) (blk s) d).length = d.length) := cnt_len _ _ _
  obtain ⟨al, cl, rfl, _⟩ := hv.shape
  obtain ⟨ax, cx, rfl, _, _⟩ := hx.shape
  obtain ⟨au, cu, rfl, _, _⟩ := hu.shape
  clear hv hx hu hn hl hn8
  generalize enS (n + 6) (rkS n (blk l)) = E at *
  generalize deS (n + 6) (rkS n (blk l)) = F at *
  generalize hcc : cntS E (blk s) d = CC at *
  generalize chS E (blk s) (padS d) = CH at *
  generalize hPD : padS d = PD at *
  generalize hDL : PD.length = DL at *
  have HDL := hidD hDL
  clear hDL hPD hcc
  generalize blk l = key at *
  generalize hll : l.length = LL at *
  generalize hdl : d.length = UL at *
  have HUL := hidD hdl
  clear hll hdl
  go_enter Try.func7, Try.ntmps7
  go_wp2_with (first
    | (go_at_call 10; refine (HAV.out _).mono ?_; rintro e w1 ⟨rfl, hb1⟩; have HB1 := hidD hb1; clear hb1)
    | (go_at_call 38; refine (HPN.out _ HB1.out).mono ?_; rintro e w2 ⟨p, rfl, ha2, hb2⟩; have HA2 := hidD ha2; have HB2 : Hid (Below w.heap.size w w2) := Below.next HB1.out hb2; clear hb2 ha2)
    | (go_at_call 32; refine (HPD.out _ HB2.out).mono ?_; rintro e w3 ⟨vo, rfl, hs3, hb3⟩; have HP3 := hidD hs3; obtain ⟨ad, cd, hvd, hcd, _⟩ := hs3.shape; rw [HDL.out] at hvd hcd; subst hvd; have HA3 := hidD (HA2.out.next hb3); have HB3 : Hid (Below w.heap.size w w3) := Below.next HB2.out hb3; clear hb3 hs3))
  have HBA : Hid (∃ B, B = w1.heap.size) := ⟨_, rfl⟩
  obtain ⟨B, hBB⟩ := HBA.out
  rw [← hBB] at HA3
  clear HBA hBB HA2 HB2 HB1
  go_loopw [10] (fun i wr => ∃ q : Nat, q ≤ 4 ∧ i = .int .i64 ((16 * q : Nat) : Int) ∧ SlAt wr (.slice ad DL cd) PD ∧ AcAt wr B p n key ∧ Below w.heap.size w wr) (fun i _ => 64 - (intOf i).toNat)
  case atStart => exact ⟨0, by omega, rfl, HP3.out, HA3.out, HB3.out⟩
  case round =>
    clear HP3 HA3 HB3
    obtain ⟨q, hq, rfl, hsl, hac, hbel⟩ := hrel
    have HSL := hidD hsl
    have HAC := hidD hac
    have HBL := hidD hbel
    by_cases hin : 16 * q + 16 ≤ DL ∧ q < 4
    · obtain ⟨hq16, hq4⟩ := hin
      have hA : ∃ g off, ad = some ⟨g, off, none⟩ := by
        obtain ⟨a3, c3, he, hsh⟩ := hsl.by'.shape
        rw [HDL.out] at he
        cases he
        obtain ⟨g, off, h1, _⟩ := hsh 0 (by rw [HDL.out]; omega)
        exact ⟨g, off, h1⟩
      obtain ⟨gd, od, rfl⟩ := hA
      have HPC : Hid (∀ wA c', SlAt wA (.slice (some ⟨gd, od, none⟩) DL cd) PD → ByAt wA (.slice (some ⟨gd, od + 16 * q, none⟩) 16 c') (toL (bkA PD q))) := fun wA c' h => HBP.out wA gd od cd c' q h.by' hq16
      have hI16 : ((16 * q : Nat) : Int) + 16 = ((16 * q + 16 : Nat) : Int) := by omega
      have hle : ((16 * q + 16 : Nat) : Int) ≤ (DL : Int) := by omega
      have hlt64 : ((16 * q : Nat) : Int) < 64 := by omega
      have hc1 : ((16 * q + 16 : Nat) : Int) ≤ (cd : Int) := by omega
      have hc0 : ((16 * q : Nat) : Int) ≤ ((16 * q + 16 : Nat) : Int) := by omega
      have hcn : ¬ cd = 16 * q := by omega
      have hdn : 16 * q + 16 - 16 * q = 16 := by omega
      have hb1 : 16 * q ≤ 64 := by omega
      have hb2 : 16 * q + 16 ≤ 80 := by omega
      have HQ1 : Hid (16 * (q + 1) = 16 * q + 16) := by show _ = _; omega
      have HL16 := hidD toL_len
      clear hsl hac hbel
      generalize bkA PD q = c at *
      generalize hI2 : 16 * q + 16 = I2 at *
      have HI2 := hidD hI2
      generalize hI : 16 * q = I at *
      have HI := hidD hI
      clear hI hI2
      go_wp2_with (first
        | (go_at_call 16; refine (HE1.out c _ _ _ _ HAC.out (HPC.out _ _ HSL.out)).mono ?_; rintro e w4 ⟨vo, rfl, hx4, hb4⟩; obtain ⟨a4, c4, hv4, _, _⟩ := hx4.shape; rw [HL16.out] at hv4; subst hv4; have HX4 := hidD hx4; have HS4 := hidD (HSL.out.next hb4); have HA4 := hidD (HAC.out.next hb4); have HB4 : Hid (Below w.heap.size w w4) := Below.next HBL.out hb4; clear hb4 hx4 HE1)
        | (go_at_call 18; refine (HD1.out c _ _ _ _ HA4.out HX4.out.by').mono ?_; rintro e w5 ⟨vo, rfl, hx5, hb5⟩; obtain ⟨a5, c5, hv5, _, _⟩ := hx5.shape; rw [HL16.out] at hv5; subst hv5; have HY5 := hidD hx5; have HS5 := hidD (HS4.out.next hb5); have HA5 := hidD (HA4.out.next hb5); have HB5 : Hid (Below w.heap.size w w5) := Below.next HB4.out hb5; clear hb5 hx5 HD1)
        | (go_at_call 18; refine (HD2.out c _ _ _ _ HA5.out (HPC.out _ _ HS5.out)).mono ?_; rintro e w6 ⟨vo, rfl, hx6, hb6⟩; obtain ⟨a6, c6, hv6, _, _⟩ := hx6.shape; rw [HL16.out] at hv6; subst hv6; have HU6 := hidD hx6; have HY6 := hidD (HY5.out.next hb6); have HS6 := hidD (HS5.out.next hb6); have HA6 := hidD (HA5.out.next hb6); have HB6 : Hid (Below w.heap.size w w6) := Below.next HB5.out hb6; clear hb6 hx6 HD2)
        | (go_at_call 16; refine (HE2.out c _ _ _ _ HA6.out HU6.out.by').mono ?_; rintro e w7 ⟨vo, rfl, hx7, hb7⟩; obtain ⟨a7, c7, hv7, _, _⟩ := hx7.shape; rw [HL16.out] at hv7; subst hv7; have HV7 := hidD hx7; have HY7 := hidD (HY6.out.next hb7); have HS7 := hidD (HS6.out.next hb7); have HA7 := hidD (HA6.out.next hb7); have HB7 : Hid (Below w.heap.size w w7) := Below.next HB6.out hb7; clear hb7 hx7 HE2)
        | (go_at_call 13; refine (HSM.out _ _ _ _ HY7.out.by' (HPC.out _ _ HS7.out)).mono ?_; rintro e wz ⟨rfl, hwz⟩; subst hwz; clear HY7)
        | (go_at_call 13; refine (HSM.out _ _ _ _ HV7.out.by' (HPC.out _ _ HS7.out)).mono ?_; rintro e wz ⟨rfl, hwz⟩; subst hwz; clear HV7))
      go_roundw
      case rel => exact ⟨q + 1, by omega, by rw [HQ1.out], HS7.out, HA7.out, HB7.out⟩
      case measure => simp [intOf]; omega
    · have hI16 : ((16 * q : Nat) : Int) + 16 = ((16 * q + 16 : Nat) : Int) := by omega
      have hb1 : 16 * q ≤ 64 := by omega
      by_cases hq16 : 16 * q + 16 ≤ DL
      · have hle : ((16 * q + 16 : Nat) : Int) ≤ (DL : Int) := by omega
        have hlt64 : ¬ ((16 * q : Nat) : Int) < 64 := by omega
        have hlt64d : decide (((16 * q : Nat) : Int) < 64) = false := by simpa using hlt64
        clear hin hq16
        by_cases hs16 : s.length = 16
        · have f1 : ((s.length : Int) != 16) = false := by
            have : ((s.length : Int) = 16) := by omega
            simpa using this
          have K1 := hidD (HC1.out hs16)
          have K2 := hidD (HC2.out hs16)
          have K3 := hidD (HC3.out hs16)
          have K4 := hidD (HC4.out hs16)
          clear HC1 HC2 HC3 HC4 HCN hs16 hsl hac hbel HE1 HE2 HD1 HD2
          generalize s.length = SL at *
          generalize hI2 : 16 * q + 16 = I2 at *
          generalize hI : 16 * q = I at *
          clear hI hI2
          go_wp2_with (first
            | (go_at_call 22; refine (K1.out _ _ _ HAC.out (HX.out _ HBL.out) (HU.out _ HBL.out)).mono ?_; rintro e w4 ⟨vo, rfl, hx4, hb4⟩; obtain ⟨a4, c4, hv4, _, _⟩ := hx4.shape; rw [HCL.out] at hv4; subst hv4; have HX4 := hidD hx4; have HS4 := hidD (HSL.out.next hb4); have HA4 := hidD (HAC.out.next hb4); have HB4 : Hid (Below w.heap.size w w4) := Below.next HBL.out hb4; clear hb4 hx4 K1)
            | (go_at_call 22; refine (K2.out _ _ _ _ HA4.out (HX.out _ HB4.out) HX4.out).mono ?_; rintro e w5 ⟨vo, rfl, hx5, hb5⟩; obtain ⟨a5, n5, c5, hv5⟩ := sl_shape hx5; subst hv5; have HY5 := hidD hx5; have HS5 := hidD (HS4.out.next hb5); have HA5 := hidD (HA4.out.next hb5); have HB5 : Hid (Below w.heap.size w w5) := Below.next HB4.out hb5; clear hb5 hx5 K2)
            | (go_at_call 24; refine (K3.out _ _ _ _ HA5.out (HX.out _ HB5.out) HS5.out).mono ?_; rintro e w6 ⟨vo, rfl, hx6, hb6⟩; obtain ⟨a6, n6, c6, hv6⟩ := sl_shape hx6; subst hv6; have HU6 := hidD hx6; have HY6 := hidD (HY5.out.next hb6); have HS6 := hidD (HS5.out.next hb6); have HA6 := hidD (HA5.out.next hb6); have HB6 : Hid (Below w.heap.size w w6) := Below.next HB5.out hb6; clear hb6 hx6 K3)
            | (go_at_call 26; refine (K4.out _ _ _ _ HA6.out (HX.out _ HB6.out) HU6.out).mono ?_; rintro e w7 ⟨vo, rfl, hx7, hb7⟩; obtain ⟨a7, n7, c7, hv7⟩ := sl_shape hx7; subst hv7; have HV7 := hidD hx7; have HY7 := hidD (HY6.out.next hb7); have HS7 := hidD (HS6.out.next hb7); have HB7 : Hid (Below w.heap.size w w7) := Below.next HB6.out hb7; clear hb7 hx7 K4)
            | (go_at_call 13; refine (HSM.out _ _ _ _ HY7.out.by' (HU.out _ HB7.out).by').mono ?_; rintro e wz ⟨rfl, hwz⟩; subst hwz; clear HY7)
            | (go_at_call 13; refine (HSM.out _ _ _ _ HV7.out.by' HS7.out.by').mono ?_; rintro e wz ⟨rfl, hwz⟩; subst hwz; clear HV7))
          go_ret
          exact ⟨rfl, HB7.out⟩
        · have f1 : ((s.length : Int) != 16) = true := by
            have : ¬ ((s.length : Int) = 16) := by omega
            simpa using this
          have K1 := hidD (HCN.out hs16)
          clear HC1 HC2 HC3 HC4 HCN hs16 hsl hac hbel HE1 HE2 HD1 HD2
          generalize s.length = SL at *
          generalize hI2 : 16 * q + 16 = I2 at *
          generalize hI : 16 * q = I at *
          clear hI hI2
          go_wp2_with (go_at_call 24; refine (K1.out _ _ _ _ HAC.out (HX.out _ HBL.out) HSL.out).mono ?_; rintro e w4 ⟨vo, rfl, hx4, hb4⟩; obtain ⟨a4, n4, c4, hv4⟩ := sl_shape hx4; subst hv4; have HB4 : Hid (Below w.heap.size w w4) := Below.next HBL.out hb4; clear hb4 hx4)
          go_ret
          exact ⟨rfl, HB4.out⟩
      · have hle : ¬ ((16 * q + 16 : Nat) : Int) ≤ (DL : Int) := by omega
        have hled : decide (((16 * q + 16 : Nat) : Int) ≤ (DL : Int)) = false := by simpa using hle
        clear hin hq16
        by_cases hs16 : s.length = 16
        · have f1 : ((s.length : Int) != 16) = false := by
            have : ((s.length : Int) = 16) := by omega
            simpa using this
          have K1 := hidD (HC1.out hs16)
          have K2 := hidD (HC2.out hs16)
          have K3 := hidD (HC3.out hs16)
          have K4 := hidD (HC4.out hs16)
          clear HC1 HC2 HC3 HC4 HCN hs16 hsl hac hbel HE1 HE2 HD1 HD2
          generalize s.length = SL at *
          generalize hI2 : 16 * q + 16 = I2 at *
          generalize hI : 16 * q = I at *
          clear hI hI2
          go_wp2_with (first
            | (go_at_call 22; refine (K1.out _ _ _ HAC.out (HX.out _ HBL.out) (HU.out _ HBL.out)).mono ?_; rintro e w4 ⟨vo, rfl, hx4, hb4⟩; obtain ⟨a4, c4, hv4, _, _⟩ := hx4.shape; rw [HCL.out] at hv4; subst hv4; have HX4 := hidD hx4; have HS4 := hidD (HSL.out.next hb4); have HA4 := hidD (HAC.out.next hb4); have HB4 : Hid (Below w.heap.size w w4) := Below.next HBL.out hb4; clear hb4 hx4 K1)
            | (go_at_call 22; refine (K2.out _ _ _ _ HA4.out (HX.out _ HB4.out) HX4.out).mono ?_; rintro e w5 ⟨vo, rfl, hx5, hb5⟩; obtain ⟨a5, n5, c5, hv5⟩ := sl_shape hx5; subst hv5; have HY5 := hidD hx5; have HS5 := hidD (HS4.out.next hb5); have HA5 := hidD (HA4.out.next hb5); have HB5 : Hid (Below w.heap.size w w5) := Below.next HB4.out hb5; clear hb5 hx5 K2)
            | (go_at_call 24; refine (K3.out _ _ _ _ HA5.out (HX.out _ HB5.out) HS5.out).mono ?_; rintro e w6 ⟨vo, rfl, hx6, hb6⟩; obtain ⟨a6, n6, c6, hv6⟩ := sl_shape hx6; subst hv6; have HU6 := hidD hx6; have HY6 := hidD (HY5.out.next hb6); have HS6 := hidD (HS5.out.next hb6); have HA6 := hidD (HA5.out.next hb6); have HB6 : Hid (Below w.heap.size w w6) := Below.next HB5.out hb6; clear hb6 hx6 K3)
            | (go_at_call 26; refine (K4.out _ _ _ _ HA6.out (HX.out _ HB6.out) HU6.out).mono ?_; rintro e w7 ⟨vo, rfl, hx7, hb7⟩; obtain ⟨a7, n7, c7, hv7⟩ := sl_shape hx7; subst hv7; have HV7 := hidD hx7; have HY7 := hidD (HY6.out.next hb7); have HS7 := hidD (HS6.out.next hb7); have HB7 : Hid (Below w.heap.size w w7) := Below.next HB6.out hb7; clear hb7 hx7 K4)
            | (go_at_call 13; refine (HSM.out _ _ _ _ HY7.out.by' (HU.out _ HB7.out).by').mono ?_; rintro e wz ⟨rfl, hwz⟩; subst hwz; clear HY7)
            | (go_at_call 13; refine (HSM.out _ _ _ _ HV7.out.by' HS7.out.by').mono ?_; rintro e wz ⟨rfl, hwz⟩; subst hwz; clear HV7))
          go_ret
          exact ⟨rfl, HB7.out⟩
        · have f1 : ((s.length : Int) != 16) = true := by
            have : ¬ ((s.length : Int) = 16) := by omega
            simpa using this
          have K1 := hidD (HCN.out hs16)
          clear HC1 HC2 HC3 HC4 HCN hs16 hsl hac hbel HE1 HE2 HD1 HD2
          generalize s.length = SL at *
          generalize hI2 : 16 * q + 16 = I2 at *
          generalize hI : 16 * q = I at *
          clear hI hI2
          go_wp2_with (go_at_call 24; refine (K1.out _ _ _ _ HAC.out (HX.out _ HBL.out) HSL.out).mono ?_; rintro e w4 ⟨vo, rfl, hx4, hb4⟩; obtain ⟨a4, n4, c4, hv4⟩ := sl_shape hx4; subst hv4; have HB4 : Hid (Below w.heap.size w w4) := Below.next HBL.out hb4; clear hb4 hx4)
          go_ret
          exact ⟨rfl, HB4.out⟩
theorem aesBack_any (l s d : List UInt8) (hl : l.length ≤ 140737488355200) (hs : s.length ≤ 140737488355100) (hd : d.length ≤ 140737488355100) (v x u : Value) (w : World) (hv : SlAt w v l) (hx : SlAt w x s) (hu : SlAt w u d) : Calls Try.prog 7 #[v, x, u] w fun e w' => e = .returned (.bool true) ∧ Below w.heap.size w w' := by
  by_cases hk : l.length = 16 ∨ l.length = 24 ∨ l.length = 32
  · obtain ⟨n, hn, hn4⟩ : ∃ n, (n = 4 ∨ n = 6 ∨ n = 8) ∧ l.length = 4 * n := ⟨l.length / 4, by omega, by omega⟩
    exact back_any l s d n hn hn4 hs hd v x u w hv hx hu
  · exact back_no l (by omega) (by omega) (by omega) v x u w hv.by'
end Go.Proofs.Ytgefampdfhbmbaa
