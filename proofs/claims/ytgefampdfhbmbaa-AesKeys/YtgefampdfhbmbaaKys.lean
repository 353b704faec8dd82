/- AesKeys: the walk. -/
import Derived.Test.YtgefampdfhbmbaaLw3
namespace Go.Proofs.Ytgefampdfhbmbaa
open Go.RowKit
set_option linter.unusedVariables false

set_option maxRecDepth 100000 in
set_option maxHeartbeats 1600000 in
theorem keys_nil (L : List UInt8) (hL : L.length ≤ 16) (c : Int) (r : Int) (N : Nat) (v : Value) (w : World)
    (HBO : Hid (Calls Try.prog 9 #[v] w fun e w' => e = .returned (.tuple #[.pointer none, .pointer none, .bool true]) ∧ Below w.heap.size w w'))
    (HKY : Hid (∀ wA, True → Calls Try.prog 11 #[.pointer none, .int .i64 r] wA fun e w' => ∃ vo, e = .returned (.tuple #[vo, .int .i64 c]) ∧ w'.ownsRow wA.heap.size 5 1 vo L.length (L.map encB) ∧ Below wA.heap.size wA w'))
    (HRK : Hid (∀ wA, True → Calls Try.prog 12 #[.pointer none, .int .i64 r] wA fun e w' => ∃ vo, e = .returned (.tuple #[vo, .int .i64 c]) ∧ w'.ownsRow wA.heap.size 5 1 vo L.length (L.map encB) ∧ Below wA.heap.size wA w'))
    (HRD : Hid (∀ wA, True → Calls Try.prog 14 #[.pointer none] wA fun e w' => e = .returned (.int .i64 (0 : Int)) ∧ Below wA.heap.size wA w')) :
    Calls Try.prog 3 #[v, .int .i64 r] w fun e w' => e = .returned (.bool true) ∧ Below w.heap.size w w' := by
  have HAV := hidD alive_any
  have HSM : Hid (∀ wA u v, ByAt wA u L → ByAt wA v L → Calls Try.prog 13 #[u, v] wA fun e w' => e = .returned (.bool true) ∧ w' = wA) := fun wA u v hu hv => by
    have := same_any L L u v wA hu hv
    rw [decide_eq_true rfl] at this
    exact this
  have HLB := hidD hL
  have HSM2 := HSM
  generalize hLL : L.length = LL at *
  have HLL := hidD hLL
  clear hLL
  go_enter Try.func3, Try.ntmps3
  go_wp2_with (first
    | (go_at_call 9; refine HBO.out.mono ?_; rintro e w1 ⟨rfl, hb1⟩; have HB1 := hidD hb1; clear hb1)
    | (go_at_call 10; refine (HAV.out _).mono ?_; rintro e w2 ⟨rfl, hb2⟩; have HB2 : Hid (Below w.heap.size w w2) := Below.next HB1.out hb2; clear hb2 HB1)
    | (go_at_call 11; refine (HKY.out _ trivial).mono ?_; rintro e w3 ⟨va, rfl, hoa, hb3⟩; obtain ⟨aa, ca, hva⟩ := row_shape hoa; subst hva; have HO3 := hidD hoa; have HX3 := hidD hb3; have HB3 : Hid (Below w.heap.size w w3) := Below.next HB2.out hb3; clear hb3 hoa)
    | (go_at_call 12; refine (HRK.out _ trivial).mono ?_; rintro e w4 ⟨vb, rfl, hob, hb4⟩; obtain ⟨ab, cb, hvb⟩ := row_shape hob; subst hvb; have HP4 := hidD hob; have HO4 := hidD (row_below HO3.out hb4); have HX4 : Hid (Below w2.heap.size w2 w4) := Below.next HX3.out hb4; have HB4 : Hid (Below w.heap.size w w4) := Below.next HB3.out hb4; clear hb4 hob)
    | (go_at_call 13; refine (HSM.out _ _ _ (row_by (by rw [HLL.out]; exact HO4.out)) (row_by (by rw [HLL.out]; exact HP4.out))).mono ?_; rintro e w5 ⟨rfl, hw5⟩; subst hw5; clear HSM)
    | (go_at_call 14; refine (HRD.out _ trivial).mono ?_; rintro e w6 ⟨rfl, hb6⟩; have HO6 := hidD (row_below HO4.out hb6); have HP6 := hidD (row_below HP4.out hb6); have HX6 : Hid (Below w2.heap.size w2 w6) := Below.next HX4.out hb6; have HB6 : Hid (Below w.heap.size w w6) := Below.next HB4.out hb6; clear hb6))
  have HGA : Hid (∀ g, aa = some ⟨g, 0, none⟩ → g < w3.heap.size) := fun g h => by
    rcases HO3.out.2 with ⟨h0, _⟩ | ⟨g', cap', cur, he, hb, hg, _⟩
    · cases h0; cases h
    · cases he
      cases h
      exact row_lt hg
  have HSX : Hid (w.heap.size ≤ w2.heap.size) := HB2.out.size
  go_loopw [13] (fun i wr => ∃ (k : Nat) (M : List UInt8), k ≤ LL ∧ M.length = LL ∧ i = .int .i64 k ∧ wr.ownsRow w2.heap.size 5 1 (.slice aa LL ca) LL (M.map encB) ∧ wr.ownsRow w3.heap.size 5 1 (.slice ab LL cb) LL (L.map encB) ∧ Below w2.heap.size w2 wr) (fun i _ => LL - (intOf i).toNat)
  case atStart => exact ⟨0, L, Nat.zero_le _, HLL.out, rfl, HO6.out, HP6.out, HX6.out⟩
  case round =>
    obtain ⟨k, M, hk, hM, rfl, hrow, hrb, hbel⟩ := hrel
    have HRW := hidD hrow
    have HRB := hidD hrb
    have HBL := hidD hbel
    by_cases hlt : k < LL
    · have hlti : (k : Int) < (LL : Int) := by omega
      obtain ⟨ga, ca', hve, hge, hgl, hcap⟩ := row_shapeC hrow (by omega)
      cases hve
      have hg3 := HGA.out ga rfl
      have hc := own_cell hrow hlt
      have hcv : wr.cell? ⟨ga, k, none⟩ = some (.int .u8 ((M.getD k 0).toNat : Int)) := by
        rw [hc.1, List.getElem?_map, List.getElem?_eq_getElem (by omega), List.getD_eq_getElem?_getD, List.getElem?_eq_getElem (by omega)]; rfl
      have hfv := hc.2.1
      have hx : bits .xor .u8 ((M.getD k 0).toNat : Int) 85 = ((M.getD k 0 ^^^ 85).toNat : Int) := by rw [UInt8.toNat_xor]; exact u8_xor_nat _ 85 (u8_lt _) (by omega)
      have HOS : Hid ((wr.setCell ⟨ga, k, none⟩ (.int .u8 ((M.getD k 0 ^^^ 85).toNat : Int))).ownsRow w2.heap.size 5 1 (.slice (some ⟨ga, 0, none⟩) LL ca) LL ((M.set k (M.getD k 0 ^^^ 85)).map encB)) := by
        have := own_set hrow hlt (.int .u8 ((M.getD k 0 ^^^ 85).toNat : Int))
        rw [List.map_set]; exact this
      have HPS : Hid (∀ u, (wr.setCell ⟨ga, k, none⟩ u).ownsRow w3.heap.size 5 1 (.slice ab LL cb) LL (L.map encB)) := fun u => own_away hrb hg3
      have HBS : Hid (∀ u, Below w2.heap.size w2 (wr.setCell ⟨ga, k, none⟩ u)) := fun u => below_setCell hbel hge _ u
      have HLS : Hid ((M.set k (M.getD k 0 ^^^ 85)).length = LL) := by show _ = _; rw [List.length_set]; exact hM
      clear hrow hbel hc hge hgl hcap hM hrb hg3 HRW
      generalize M.set k (M.getD k 0 ^^^ 85) = M' at *
      generalize ((M.getD k 0 ^^^ 85).toNat : Int) = Z at *
      generalize (M.getD k 0).toNat = X at *
      go_wp2_with fail
      go_roundw
      case rel => exact ⟨k + 1, M', by omega, HLS.out, by go_num, HOS.out, HPS.out _, HBS.out _⟩
      case measure => simp [intOf]; omega
    · have hkl : k = LL := by omega
      have hlti : ¬ (k : Int) < (LL : Int) := by omega
      
      have HBW : Hid (Below w.heap.size w wr) := HB2.out.trans (hbel.mono HSX.out)
      clear hrow hbel hM hrb
      go_wp2_with (first
        | (go_at_call 11; refine (HKY.out _ trivial).mono ?_; rintro e w7 ⟨vz, rfl, hoz, hb7⟩; obtain ⟨az, cz, hvz⟩ := row_shape hoz; subst hvz; have HO7 := hidD hoz; have HP7 := hidD (row_below HRB.out hb7); have HB7 : Hid (Below w.heap.size w w7) := Below.next HBW.out hb7; clear hb7 hoz)
        | (go_at_call 13; refine (HSM2.out _ _ _ (row_by (by rw [HLL.out]; exact HO7.out)) (row_by (by rw [HLL.out]; exact HP7.out))).mono ?_; rintro e w8 ⟨rfl, hw8⟩; subst hw8))
      go_ret
      exact ⟨rfl, HB7.out⟩
set_option maxRecDepth 100000 in
set_option maxHeartbeats 1600000 in
theorem keys_gen (L : List UInt8) (hL : L.length ≤ 16) (c : Int) (r : Int) (N : Nat) (n : Nat) (key : Nat → UInt8) (hN : N = n + 6) (v : Value) (w : World)
    (HBO : Hid (Calls Try.prog 9 #[v] w fun e w' => ∃ p b, e = .returned (.tuple #[.pointer (some ⟨p, 0, none⟩), .pointer (some ⟨b, 0, none⟩), .bool true]) ∧ (∃ B, AcAt w' B p n key) ∧ RcAt w' b n key ∧ Below w.heap.size w w'))
    (HKY : Hid (∀ (p : Nat) wA, (∃ B, AcAt wA B p n key) → Calls Try.prog 11 #[.pointer (some ⟨p, 0, none⟩), .int .i64 r] wA fun e w' => ∃ vo, e = .returned (.tuple #[vo, .int .i64 c]) ∧ w'.ownsRow wA.heap.size 5 1 vo L.length (L.map encB) ∧ Below wA.heap.size wA w'))
    (HRK : Hid (∀ (b : Nat) wA, RcAt wA b n key → Calls Try.prog 12 #[.pointer (some ⟨b, 0, none⟩), .int .i64 r] wA fun e w' => ∃ vo, e = .returned (.tuple #[vo, .int .i64 c]) ∧ w'.ownsRow wA.heap.size 5 1 vo L.length (L.map encB) ∧ Below wA.heap.size wA w'))
    (HRD : Hid (∀ (p : Nat) wA, (∃ B, AcAt wA B p n key) → Calls Try.prog 14 #[.pointer (some ⟨p, 0, none⟩)] wA fun e w' => e = .returned (.int .i64 ((N : Nat) : Int)) ∧ Below wA.heap.size wA w')) :
    Calls Try.prog 3 #[v, .int .i64 r] w fun e w' => e = .returned (.bool true) ∧ Below w.heap.size w w' := by
  have HAV := hidD alive_any
  have HNN := hidD hN
  clear hN
  have HSM : Hid (∀ wA u v, ByAt wA u L → ByAt wA v L → Calls Try.prog 13 #[u, v] wA fun e w' => e = .returned (.bool true) ∧ w' = wA) := fun wA u v hu hv => by
    have := same_any L L u v wA hu hv
    rw [decide_eq_true rfl] at this
    exact this
  have HLB := hidD hL
  have HSM2 := HSM
  generalize hLL : L.length = LL at *
  have HLL := hidD hLL
  clear hLL
  go_enter Try.func3, Try.ntmps3
  go_wp2_with (first
    | (go_at_call 9; refine HBO.out.mono ?_; rintro e w1 ⟨p, b, rfl, ha1, hr1, hb1⟩; have HB1 := hidD hb1; have HA1 := hidD ha1; have HR1 := hidD hr1; clear hb1 ha1 hr1)
    | (go_at_call 10; refine (HAV.out _).mono ?_; rintro e w2 ⟨rfl, hb2⟩; have HA2 : Hid (∃ B, AcAt w2 B p n key) := by { obtain ⟨B, hB⟩ := HA1.out; exact ⟨B, hB.next hb2⟩ }; have HR2 := hidD (HR1.out.next hb2); have HB2 : Hid (Below w.heap.size w w2) := Below.next HB1.out hb2; clear hb2 HB1)
    | (go_at_call 11; refine (HKY.out _ _ HA2.out).mono ?_; rintro e w3 ⟨va, rfl, hoa, hb3⟩; obtain ⟨aa, ca, hva⟩ := row_shape hoa; subst hva; have HO3 := hidD hoa; have HA3 : Hid (∃ B, AcAt w3 B p n key) := by { obtain ⟨B, hB⟩ := HA2.out; exact ⟨B, hB.next hb3⟩ }; have HR3 := hidD (HR2.out.next hb3); have HX3 := hidD hb3; have HB3 : Hid (Below w.heap.size w w3) := Below.next HB2.out hb3; clear hb3 hoa)
    | (go_at_call 12; refine (HRK.out _ _ HR3.out).mono ?_; rintro e w4 ⟨vb, rfl, hob, hb4⟩; obtain ⟨ab, cb, hvb⟩ := row_shape hob; subst hvb; have HP4 := hidD hob; have HO4 := hidD (row_below HO3.out hb4); have HA4 : Hid (∃ B, AcAt w4 B p n key) := by { obtain ⟨B, hB⟩ := HA3.out; exact ⟨B, hB.next hb4⟩ }; have hcr : w4.cell? ⟨b, 1, none⟩ = some (.int .i64 (N : Int)) := by { rw [HNN.out]; exact (HR3.out.next hb4).r }; have HX4 : Hid (Below w2.heap.size w2 w4) := Below.next HX3.out hb4; have HB4 : Hid (Below w.heap.size w w4) := Below.next HB3.out hb4; clear hb4 hob)
    | (go_at_call 13; refine (HSM.out _ _ _ (row_by (by rw [HLL.out]; exact HO4.out)) (row_by (by rw [HLL.out]; exact HP4.out))).mono ?_; rintro e w5 ⟨rfl, hw5⟩; subst hw5; clear HSM)
    | (go_at_call 14; refine (HRD.out _ _ HA4.out).mono ?_; rintro e w6 ⟨rfl, hb6⟩; have HO6 := hidD (row_below HO4.out hb6); have HP6 := hidD (row_below HP4.out hb6); have HX6 : Hid (Below w2.heap.size w2 w6) := Below.next HX4.out hb6; have HB6 : Hid (Below w.heap.size w w6) := Below.next HB4.out hb6; clear hb6))
  have HGA : Hid (∀ g, aa = some ⟨g, 0, none⟩ → g < w3.heap.size) := fun g h => by
    rcases HO3.out.2 with ⟨h0, _⟩ | ⟨g', cap', cur, he, hb, hg, _⟩
    · cases h0; cases h
    · cases he
      cases h
      exact row_lt hg
  have HSX : Hid (w.heap.size ≤ w2.heap.size) := HB2.out.size
  go_loopw [13] (fun i wr => ∃ (k : Nat) (M : List UInt8), k ≤ LL ∧ M.length = LL ∧ i = .int .i64 k ∧ wr.ownsRow w2.heap.size 5 1 (.slice aa LL ca) LL (M.map encB) ∧ wr.ownsRow w3.heap.size 5 1 (.slice ab LL cb) LL (L.map encB) ∧ Below w2.heap.size w2 wr) (fun i _ => LL - (intOf i).toNat)
  case atStart => exact ⟨0, L, Nat.zero_le _, HLL.out, rfl, HO6.out, HP6.out, HX6.out⟩
  case round =>
    obtain ⟨k, M, hk, hM, rfl, hrow, hrb, hbel⟩ := hrel
    have HRW := hidD hrow
    have HRB := hidD hrb
    have HBL := hidD hbel
    by_cases hlt : k < LL
    · have hlti : (k : Int) < (LL : Int) := by omega
      obtain ⟨ga, ca', hve, hge, hgl, hcap⟩ := row_shapeC hrow (by omega)
      cases hve
      have hg3 := HGA.out ga rfl
      have hc := own_cell hrow hlt
      have hcv : wr.cell? ⟨ga, k, none⟩ = some (.int .u8 ((M.getD k 0).toNat : Int)) := by
        rw [hc.1, List.getElem?_map, List.getElem?_eq_getElem (by omega), List.getD_eq_getElem?_getD, List.getElem?_eq_getElem (by omega)]; rfl
      have hfv := hc.2.1
      have hx : bits .xor .u8 ((M.getD k 0).toNat : Int) 85 = ((M.getD k 0 ^^^ 85).toNat : Int) := by rw [UInt8.toNat_xor]; exact u8_xor_nat _ 85 (u8_lt _) (by omega)
      have HOS : Hid ((wr.setCell ⟨ga, k, none⟩ (.int .u8 ((M.getD k 0 ^^^ 85).toNat : Int))).ownsRow w2.heap.size 5 1 (.slice (some ⟨ga, 0, none⟩) LL ca) LL ((M.set k (M.getD k 0 ^^^ 85)).map encB)) := by
        have := own_set hrow hlt (.int .u8 ((M.getD k 0 ^^^ 85).toNat : Int))
        rw [List.map_set]; exact this
      have HPS : Hid (∀ u, (wr.setCell ⟨ga, k, none⟩ u).ownsRow w3.heap.size 5 1 (.slice ab LL cb) LL (L.map encB)) := fun u => own_away hrb hg3
      have HBS : Hid (∀ u, Below w2.heap.size w2 (wr.setCell ⟨ga, k, none⟩ u)) := fun u => below_setCell hbel hge _ u
      have HLS : Hid ((M.set k (M.getD k 0 ^^^ 85)).length = LL) := by show _ = _; rw [List.length_set]; exact hM
      clear hrow hbel hc hge hgl hcap hM hrb hg3 HRW
      generalize M.set k (M.getD k 0 ^^^ 85) = M' at *
      generalize ((M.getD k 0 ^^^ 85).toNat : Int) = Z at *
      generalize (M.getD k 0).toNat = X at *
      go_wp2_with fail
      go_roundw
      case rel => exact ⟨k + 1, M', by omega, HLS.out, by go_num, HOS.out, HPS.out _, HBS.out _⟩
      case measure => simp [intOf]; omega
    · have hkl : k = LL := by omega
      have hlti : ¬ (k : Int) < (LL : Int) := by omega
      have HAW : Hid (∃ B, AcAt wr B p n key) := by { obtain ⟨B, hB⟩ := HA2.out; exact ⟨B, hB.next hbel⟩ }
      have HBW : Hid (Below w.heap.size w wr) := HB2.out.trans (hbel.mono HSX.out)
      clear hrow hbel hM hrb
      go_wp2_with (first
        | (go_at_call 11; refine (HKY.out _ _ HAW.out).mono ?_; rintro e w7 ⟨vz, rfl, hoz, hb7⟩; obtain ⟨az, cz, hvz⟩ := row_shape hoz; subst hvz; have HO7 := hidD hoz; have HP7 := hidD (row_below HRB.out hb7); have HB7 : Hid (Below w.heap.size w w7) := Below.next HBW.out hb7; clear hb7 hoz)
        | (go_at_call 13; refine (HSM2.out _ _ _ (row_by (by rw [HLL.out]; exact HO7.out)) (row_by (by rw [HLL.out]; exact HP7.out))).mono ?_; rintro e w8 ⟨rfl, hw8⟩; subst hw8))
      go_ret
      exact ⟨rfl, HB7.out⟩
theorem aesKeys_any (l : List UInt8) (hl : l.length ≤ 140737488355200) (r : Int) (v : Value) (w : World) (hv : ByAt w v l) : Calls Try.prog 3 #[v, .int .i64 r] w fun e w' => e = .returned (.bool true) ∧ Below w.heap.size w w' := by
  by_cases hk : l.length = 16 ∨ l.length = 24 ∨ l.length = 32
  · obtain ⟨n, hn, hn4⟩ : ∃ n, (n = 4 ∨ n = 6 ∨ n = 8) ∧ l.length = 4 * n := ⟨l.length / 4, by omega, by omega⟩
    by_cases hr : r < 0 ∨ ((n + 6 : Nat) : Int) < r
    · refine keys_gen [] (by simp) 1 r (n + 6) n (blk l) rfl v w (both_any l n hn hn4 v w hv) ?_ ?_ ?_
      · rintro p wA ⟨B, hB⟩
        exact pKey_arg n B p (by omega) (blk l) r hr wA hB
      · intro b wA hR
        refine (refKey_arg n (by omega) (blk l) r hr b wA hR).mono ?_
        rintro e w' ⟨rfl, rfl⟩
        exact ⟨_, rfl, World.ownsRow_nil _ _ _ _, Below.refl _ _⟩
      · rintro p wA ⟨B, hB⟩
        exact pRounds_any n B p (blk l) wA hB
    · obtain ⟨k, rfl⟩ : ∃ k : Nat, r = k := ⟨r.toNat, by omega⟩
      have hk6 : k ≤ n + 6 := by omega
      refine keys_gen (toL (rkS n (blk l) k)) (by rw [toL_len]; omega) 0 k (n + 6) n (blk l) rfl v w (both_any l n hn hn4 v w hv) ?_ ?_ ?_
      · rintro p wA ⟨B, hB⟩
        rw [toL_len]
        exact pKey_any n B p (by omega) (blk l) k hk6 wA hB
      · intro b wA hR
        rw [toL_len]
        exact refKey_any n (by omega) (blk l) k hk6 b wA hR
      · rintro p wA ⟨B, hB⟩
        exact pRounds_any n B p (blk l) wA hB
  · refine keys_nil [] (by simp) 2 r 0 v w (both_no l hl (by omega) (by omega) (by omega) v w hv) ?_ ?_ ?_
    · intro wA _
      exact pKey_nil r wA
    · intro wA _
      refine (refKey_nil r wA).mono ?_
      rintro e w' ⟨rfl, rfl⟩
      exact ⟨_, rfl, World.ownsRow_nil _ _ _ _, Below.refl _ _⟩
    · intro wA _
      exact pRounds_nil wA
end Go.Proofs.Ytgefampdfhbmbaa
