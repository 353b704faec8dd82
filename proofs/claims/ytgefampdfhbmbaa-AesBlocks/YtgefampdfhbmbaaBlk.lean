/- AesBlocks: the walk. -/
import Derived.Test.YtgefampdfhbmbaaLw3
namespace Go.Proofs.Ytgefampdfhbmbaa
open Go.RowKit
set_option linter.unusedVariables false

/-- A slice of slices of bytes, or an empty one. -/
def RowsE (w : World) (v : Value) (L : List (List UInt8)) : Prop := ∃ a cap, v = .slice a L.length cap ∧ ∀ j, j < L.length → ∃ g off u, a = some ⟨g, off, none⟩ ∧ g < w.heap.size ∧ w.cell? ⟨g, off + j, none⟩ = some u ∧ ByAt w u (L.getD j [])
theorem RowsE.next {w w' : World} {v : Value} {L : List (List UInt8)} (h : RowsE w v L) (hb : Below w.heap.size w w') : RowsE w' v L := by
  obtain ⟨a, cap, h1, h3⟩ := h
  refine ⟨a, cap, h1, fun j hj => ?_⟩
  obtain ⟨g, off, u, h4, h5, h6, h7⟩ := h3 j hj
  exact ⟨g, off, u, h4, Nat.lt_of_lt_of_le h5 hb.size, (hb.cell (p := ⟨g, off + j, none⟩) h5).trans h6, h7.next hb⟩
theorem RowsBy.e {w : World} {v : Value} {L : List (List UInt8)} (h : RowsBy w v L) : RowsE w v L := by
  obtain ⟨g, off, cap, h1, h2, h3⟩ := h
  refine ⟨some ⟨g, off, none⟩, cap, h1, fun j hj => ?_⟩
  obtain ⟨u, h4, h5⟩ := h3 j hj
  exact ⟨g, off, u, rfl, h2, h4, h5⟩
theorem row_byD {w : World} {base : Nat} {v : Value} {l : List UInt8} {n : Nat} (h : w.ownsRow base 5 1 v n (l.map encB)) : ByAt w v l := row_by (by have := h.1; rw [List.length_map, Nat.mul_one] at this; rw [this]; exact h)
theorem rowsE_nil (w : World) (a : Option Addr) (c : Nat) : RowsE w (.slice a 0 c) [] := ⟨a, c, rfl, fun j hj => absurd hj (by simp)⟩
set_option maxRecDepth 100000 in
set_option maxHeartbeats 1600000 in
theorem blocks_gen (d X U : List UInt8) (hd : d.length ≤ 140737488355200) (Ls : List (List UInt8)) (hLs : Ls.length ≤ 100) (c : Int) (v u : Value) (w : World) (hu : ByAt w u d) (K : Option Addr → Option Addr → World → Prop) (hK : ∀ P Q w w', K P Q w → Below w.heap.size w w' → K P Q w')
    (HBO : Hid (Calls Try.prog 9 #[v] w fun e w' => ∃ P Q, e = .returned (.tuple #[.pointer P, .pointer Q, .bool true]) ∧ K P Q w' ∧ Below w.heap.size w w'))
    (HE : Hid (∀ P Q wA vA, K P Q wA → ByAt wA vA d → Calls Try.prog 16 #[.pointer P, vA] wA fun e w' => ∃ vo, e = .returned (.tuple #[vo, .int .i64 c]) ∧ ByAt w' vo X ∧ Below wA.heap.size wA w'))
    (HRE : Hid (∀ P Q wA vA, K P Q wA → ByAt wA vA d → Calls Try.prog 17 #[.pointer Q, vA] wA fun e w' => ∃ vo, e = .returned (.tuple #[vo, .int .i64 c]) ∧ ByAt w' vo X ∧ Below wA.heap.size wA w'))
    (HD : Hid (∀ P Q wA vA, K P Q wA → ByAt wA vA d → Calls Try.prog 18 #[.pointer P, vA] wA fun e w' => ∃ vo, e = .returned (.tuple #[vo, .int .i64 c]) ∧ ByAt w' vo U ∧ Below wA.heap.size wA w'))
    (HRD : Hid (∀ P Q wA vA, K P Q wA → ByAt wA vA d → Calls Try.prog 19 #[.pointer Q, vA] wA fun e w' => ∃ vo, e = .returned (.tuple #[vo, .int .i64 c]) ∧ ByAt w' vo U ∧ Below wA.heap.size wA w'))
    (HS : Hid (∀ P Q wA vA, K P Q wA → ByAt wA vA d → Calls Try.prog 20 #[.pointer P, vA] wA fun e w' => ∃ vo, e = .returned (.tuple #[vo, .int .i64 c]) ∧ RowsE w' vo Ls ∧ Below wA.heap.size wA w'))
    (HRS : Hid (∀ P Q wA vA, K P Q wA → ByAt wA vA d → Calls Try.prog 21 #[.pointer Q, vA] wA fun e w' => ∃ vo, e = .returned (.tuple #[vo, .int .i64 c]) ∧ RowsE w' vo Ls ∧ Below wA.heap.size wA w')) :
    Calls Try.prog 4 #[v, u] w fun e w' => e = .returned (.bool true) ∧ Below w.heap.size w w' := by
  have HAV := hidD alive_any
  have HKK := hidD hK
  have HUU : Hid (∀ wA, Below w.heap.size w wA → ByAt wA u d) := fun wA hb => hu.next hb
  have HSM : ∀ L : List UInt8, Hid (∀ wA u v, ByAt wA u L → ByAt wA v L → Calls Try.prog 13 #[u, v] wA fun e w' => e = .returned (.bool true) ∧ w' = wA) := fun L wA u v hu hv => by
    have := same_any L L u v wA hu hv
    rw [decide_eq_true rfl] at this
    exact this
  have HSX := HSM X
  have HSU := HSM U
  have HSD := HSM d
  have HSL : Hid (∀ (L : List UInt8) wA u v, ByAt wA u L → ByAt wA v L → Calls Try.prog 13 #[u, v] wA fun e w' => e = .returned (.bool true) ∧ Below wA.heap.size wA w') := fun L wA u v hu hv => ((HSM L).out wA u v hu hv).mono fun e w' h => ⟨h.1, by rw [h.2]; exact Below.refl _ _⟩
  clear HSM hK
  have HOW : Hid (∀ wA, Below w.heap.size w wA → Calls Try.prog 15 #[u] wA fun e w' => ∃ vo, e = .returned vo ∧ w'.ownsRow wA.heap.size 5 1 vo d.length (d.map encB) ∧ Below wA.heap.size wA w') := fun wA hb => own_any d hd u wA (hu.next hb)
  obtain ⟨au, cu, rfl, hsh⟩ := hu.shape
  clear hsh hu
  generalize d.length = DL at *
  generalize hLL : Ls.length = LL at *
  have HLL := hidD hLL
  clear hLL
  go_enter Try.func4, Try.ntmps4
  go_wp2_with (first
    | (go_at_call 9; refine HBO.out.mono ?_; rintro e w1 ⟨P, Q, rfl, hk1, hb1⟩; have HB1 := hidD hb1; have HK1 := hidD hk1; clear hb1 hk1)
    | (go_at_call 10; refine (HAV.out _).mono ?_; rintro e w2 ⟨rfl, hb2⟩; have HK2 := hidD (HKK.out _ _ _ _ HK1.out hb2); have HB2 : Hid (Below w.heap.size w w2) := Below.next HB1.out hb2; clear hb2 HB1 HK1)
    | (go_at_call 15; refine (HOW.out _ HB2.out).mono ?_; rintro e w3 ⟨vm, rfl, hom, hb3⟩; obtain ⟨am, cm, hvm⟩ := row_shape hom; subst hvm; have HM3 : Hid (ByAt w3 (.slice am DL cm) d) := row_byD hom; have HK3 := hidD (HKK.out _ _ _ _ HK2.out hb3); have HB3 : Hid (Below w.heap.size w w3) := Below.next HB2.out hb3; clear hb3 hom HB2 HK2)
    | (go_at_call 16; refine (HE.out _ _ _ _ HK3.out HM3.out).mono ?_; rintro e w4 ⟨vo, rfl, hx4, hb4⟩; obtain ⟨a4, c4, hv4, _⟩ := hx4.shape; subst hv4; have HX4 := hidD hx4; have HM4 := hidD (HM3.out.next hb4); have HK4 := hidD (HKK.out _ _ _ _ HK3.out hb4); have HB4 : Hid (Below w.heap.size w w4) := Below.next HB3.out hb4; clear hb4 hx4 HB3 HK3 HM3)
    | (go_at_call 17; refine (HRE.out _ _ _ _ HK4.out (HUU.out _ HB4.out)).mono ?_; rintro e w5 ⟨vo, rfl, hx5, hb5⟩; obtain ⟨a5, c5, hv5, _⟩ := hx5.shape; subst hv5; have HX5 := hidD hx5; have HY5 := hidD (HX4.out.next hb5); have HM5 := hidD (HM4.out.next hb5); have HK5 := hidD (HKK.out _ _ _ _ HK4.out hb5); have HB5 : Hid (Below w.heap.size w w5) := Below.next HB4.out hb5; clear hb5 hx5 HB4 HK4 HM4 HX4)
    | (go_at_call 18; refine (HD.out _ _ _ _ HK5.out HM5.out).mono ?_; rintro e w6 ⟨vo, rfl, hx6, hb6⟩; obtain ⟨a6, c6, hv6, _⟩ := hx6.shape; subst hv6; have HU6 := hidD hx6; have HX6 := hidD (HX5.out.next hb6); have HY6 := hidD (HY5.out.next hb6); have HM6 := hidD (HM5.out.next hb6); have HK6 := hidD (HKK.out _ _ _ _ HK5.out hb6); have HB6 : Hid (Below w.heap.size w w6) := Below.next HB5.out hb6; clear hb6 hx6 HB5 HK5 HM5 HX5 HY5)
    | (go_at_call 19; refine (HRD.out _ _ _ _ HK6.out (HUU.out _ HB6.out)).mono ?_; rintro e w7 ⟨vo, rfl, hx7, hb7⟩; obtain ⟨a7, c7, hv7, _⟩ := hx7.shape; subst hv7; have HV7 := hidD hx7; have HU7 := hidD (HU6.out.next hb7); have HX7 := hidD (HX6.out.next hb7); have HY7 := hidD (HY6.out.next hb7); have HM7 := hidD (HM6.out.next hb7); have HK7 := hidD (HKK.out _ _ _ _ HK6.out hb7); have HB7 : Hid (Below w.heap.size w w7) := Below.next HB6.out hb7; clear hb7 hx7 HB6 HK6 HM6 HX6 HY6 HU6)
    | (go_at_call 20; refine (HS.out _ _ _ _ HK7.out HM7.out).mono ?_; rintro e w8 ⟨vo, rfl, hx8, hb8⟩; have HL8 := hidD hx8; obtain ⟨a8, c8, hv8, _⟩ := hx8; rw [HLL.out] at hv8; subst hv8; have HV8 := hidD (HV7.out.next hb8); have HU8 := hidD (HU7.out.next hb8); have HX8 := hidD (HX7.out.next hb8); have HY8 := hidD (HY7.out.next hb8); have HM8 := hidD (HM7.out.next hb8); have HK8 := hidD (HKK.out _ _ _ _ HK7.out hb8); have HB8 : Hid (Below w.heap.size w w8) := Below.next HB7.out hb8; clear hb8 HB7 HK7 HM7 HX7 HY7 HU7 HV7)
    | (go_at_call 21; refine (HRS.out _ _ _ _ HK8.out (HUU.out _ HB8.out)).mono ?_; rintro e w9 ⟨vo, rfl, hx9, hb9⟩; have HP9 := hidD hx9; obtain ⟨a9, c9, hv9, _⟩ := hx9; rw [HLL.out] at hv9; subst hv9; have HL9 := hidD (HL8.out.next hb9); have HV9 := hidD (HV8.out.next hb9); have HU9 := hidD (HU8.out.next hb9); have HX9 := hidD (HX8.out.next hb9); have HY9 := hidD (HY8.out.next hb9); have HM9 := hidD (HM8.out.next hb9); have HB9 : Hid (Below w.heap.size w w9) := Below.next HB8.out hb9; clear hb9 HB8 HK8 HM8 HX8 HY8 HU8 HV8 HL8)
    | (go_at_call 13; refine (HSX.out _ _ _ HY9.out HX9.out).mono ?_; rintro e w10 ⟨rfl, hw10⟩; subst hw10; clear HSX)
    | (go_at_call 13; refine (HSU.out _ _ _ HU9.out HV9.out).mono ?_; rintro e w11 ⟨rfl, hw11⟩; subst hw11; clear HSU)
    | (go_at_call 13; refine (HSD.out _ _ _ HM9.out (HUU.out _ HB9.out)).mono ?_; rintro e w12 ⟨rfl, hw12⟩; subst hw12; clear HSD))
  go_loopw [21] (fun i wr => ∃ k : Nat, k ≤ LL ∧ i = .int .i64 k ∧ RowsE wr (.slice a8 LL c8) Ls ∧ RowsE wr (.slice a9 LL c9) Ls ∧ Below w.heap.size w wr) (fun i _ => LL - (intOf i).toNat)
  case atStart => exact ⟨0, Nat.zero_le _, rfl, HL9.out, HP9.out, HB9.out⟩
  case round =>
    obtain ⟨k, hk, rfl, hl, hp, hbel⟩ := hrel
    have HL := hidD hl
    have HP := hidD hp
    have HBL := hidD hbel
    by_cases hlt : k < LL
    · have hlti : (k : Int) < (LL : Int) := by omega
      obtain ⟨al, cl, hel, hcl⟩ := hl
      rw [HLL.out] at hel
      cases hel
      obtain ⟨g1, o1, u1, h11, h12, h13, h14⟩ := hcl k (by rw [HLL.out]; exact hlt)
      subst h11
      obtain ⟨ap, cp, hep, hcp⟩ := hp
      rw [HLL.out] at hep
      cases hep
      obtain ⟨g2, o2, u2, h21, h22, h23, h24⟩ := hcp k (by rw [HLL.out]; exact hlt)
      subst h21
      have HSQ : Hid (∀ i : BW wr, Calls Try.prog 13 #[u1, u2] i.v fun e w' => e = .returned (.bool true) ∧ Below i.v.heap.size i.v w') := fun i => HSL.out _ _ _ _ (h14.next i.below) (h24.next i.below)
      have hq1 : ∀ i : BW wr, i.v.cell? ⟨g1, o1 + k, none⟩ = some u1 := fun i => (i.below.cell (p := ⟨g1, o1 + k, none⟩) h12).trans h13
      have hq2 : ∀ i : BW wr, i.v.cell? ⟨g2, o2 + k, none⟩ = some u2 := fun i => (i.below.cell (p := ⟨g2, o2 + k, none⟩) h22).trans h23
      have HLN : Hid (∀ i : BW wr, RowsE i.v (.slice (some ⟨g1, o1, none⟩) LL c8) Ls ∧ RowsE i.v (.slice (some ⟨g2, o2, none⟩) LL c9) Ls ∧ Below w.heap.size w i.v) := fun i => ⟨HL.out.next i.below, HP.out.next i.below, Below.next HBL.out i.below⟩
      obtain ⟨b1, d1, hv1, _⟩ := h14.shape
      obtain ⟨b2, d2, hv2, _⟩ := h24.shape
      subst hv1 hv2
      clear hcl hcp hbel h12 h13 h14 h22 h23 h24
      generalize (Ls.getD k []).length = m1 at *
      go_wp2_with fail
      refine wp_region_below (by kernel_rfl) (by kernel_rfl) ?_
      repeat (go_big_quiet_step ((go_at_call 13; exact Calls.below_of (HSQ.out _))))
      refine wpQuiet_nil ?_
      intro i
      obtain ⟨HN1, HN2, HN3⟩ := HLN.out i
      have HN1 := hidD HN1
      have HN2 := hidD HN2
      have HN3 := hidD HN3
      go_wp2_with fail
      go_roundw
      case rel => exact ⟨k + 1, by omega, by go_num, HN1.out, HN2.out, HN3.out⟩
      case measure => simp [intOf]; omega
    · obtain rfl : k = LL := by omega
      clear hl hp hbel
      go_wp2_with fail
      go_ret
      exact ⟨rfl, HBL.out⟩
end Go.Proofs.Ytgefampdfhbmbaa
