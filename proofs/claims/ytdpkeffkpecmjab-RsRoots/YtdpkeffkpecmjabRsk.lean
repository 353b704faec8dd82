/- What slopesOf and arePlaces (of no place) answer. -/
import Derived.Test.YtdpkeffkpecmjabRsj
namespace Go.Proofs.Ytdpkeffkpecmjab
open Go.RowKit
set_option linter.unusedVariables false

/-- The derivative, of which k coefficients are there. -/
def slTo (l : List UInt8) (k : Nat) : List UInt8 := (List.range l.length).map fun i => if i % 2 = 0 ∧ i + 1 < l.length ∧ i < 2 * k then cf l (i + 1) else 0
/-- The derivative. -/
def slopeS (l : List UInt8) : List UInt8 := (List.range l.length).map fun i => if i % 2 = 0 ∧ i + 1 < l.length then cf l (i + 1) else 0
theorem slTo_length (l : List UInt8) (k : Nat) : (slTo l k).length = l.length := by simp [slTo]
theorem slTo_zero (l : List UInt8) : slTo l 0 = List.replicate l.length 0 := cf_ext (by simp [slTo]) fun i hi => by
  rw [cf_zeros, slTo, cf_map]; simp
theorem slTo_all (l : List UInt8) (k : Nat) (h : l.length ≤ 1 + 2 * k) : slTo l k = slopeS l := cf_ext (by simp [slTo, slopeS]) fun i hi => by
  rw [slTo_length] at hi
  rw [slTo, slopeS, cf_map, cf_map, if_pos hi, if_pos hi]
  by_cases h1 : i % 2 = 0 ∧ i + 1 < l.length
  · rw [if_pos h1, if_pos ⟨h1.1, h1.2, by omega⟩]
  · rw [if_neg h1, if_neg (fun h2 => h1 ⟨h2.1, h2.2.1⟩)]
theorem slTo_set (l : List UInt8) (k : Nat) (hk : 1 + 2 * k < l.length) : (slTo l k).set (2 * k) (cf l (1 + 2 * k)) = slTo l (k + 1) := cf_ext (by simp [slTo]) fun i hi => by
  rw [List.length_set, slTo_length] at hi
  rw [cf_set _ _ _ _ (by rw [slTo_length]; omega), slTo, slTo, cf_map, cf_map, if_pos hi, if_pos hi]
  by_cases h1 : i = 2 * k
  · rw [if_pos h1, if_pos ⟨by omega, by omega, by omega⟩, h1, Nat.add_comm 1]
  · rw [if_neg h1]
    by_cases h2 : i % 2 = 0 ∧ i + 1 < l.length ∧ i < 2 * k
    · rw [if_pos h2, if_pos ⟨h2.1, h2.2.1, by omega⟩]
    · rw [if_neg h2, if_neg (fun h3 => h2 ⟨h3.1, h3.2.1, by omega⟩)]

set_option maxRecDepth 100000 in
set_option maxHeartbeats 1600000 in
theorem slopesOf_any (p : List UInt8) (hp : p.length ≤ 281474976710656) (v : Value) (w : World) (hv : SlAt w v p) :
    Calls Try.prog 45 #[v] w fun e w' => e = .returned (.slice (some ⟨w.heap.size, 0, none⟩) p.length p.length) ∧ RowAt w' w.heap.size (slopeS p) ∧ Below w.heap.size w w' := by
  obtain ⟨⟨a, ca, rfl, hca1, hca2⟩, hpb⟩ := hv
  have HSH := hidD hpb.shape'.2
  have HLN := hidD (slTo_length p)
  have HZ := hidD (slTo_zero p)
  have HAL := hidD (slTo_all p)
  have HST := hidD (slTo_set p)
  clear hpb
  generalize p.length = l at *
  obtain ⟨i0, hi, hz0, hz1, hz2⟩ := info_parts Try.info5
  go_enter Try.func45, Try.ntmps45
  go_wp2_with (at_make; refine wpList_make_full _ rfl _ _ 22 rfl w.heap.size 5 i0 (.int .u8 0) 1 Try.underlying22 hi hz0 hz1 _ _ _ _ l rfl rfl (by omega) (by omega) (by rw [hz2]; omega) (by unfold maxLen; omega) (Nat.le_refl _) ?_; intro w3 hown3 hg3; have HR3 := hidD (row_of_made hown3); have HB3 : Hid (Below w.heap.size w w3) := ((Below.refl w.heap.size w).grown hg3 (Nat.le_refl _) (fun k hk => by cases hk)); clear hown3 hg3)
  all_goals
    rw [← HZ.out] at HR3
    go_loopw [4] (fun i wr => ∃ k : Nat, 2 * k ≤ l + 1 ∧ i = .int .i64 (1 + 2 * (k : Int)) ∧ RowAt wr w.heap.size (slTo p k) ∧ Below w.heap.size w wr) (fun i _ => l + 2 - (intOf i).toNat)
    case atStart => exact ⟨0, by omega, rfl, HR3.out, HB3.out⟩
    case round =>
      obtain ⟨k, hk, rfl, hrow, hbel⟩ := hrel
      have HBW := hidD hbel
      have HRW := hidD hrow
      have hpo : 1 + 2 * (k : Int) = ((1 + 2 * k : Nat) : Int) := by omega
      by_cases hlt : 1 + 2 * k < l
      · have hlti : ((1 + 2 * k : Nat) : Int) < l := by omega
        obtain ⟨gl, ol, rfl, hgl, hcl⟩ := HSH.out (1 + 2 * k) hlt
        have hcx : wr.cell? ⟨gl, ol + (1 + 2 * k), none⟩ = some (.int .u8 ((cf p (1 + 2 * k)).toNat : Int)) := (hbel.cell (p := ⟨gl, _, none⟩) hgl).trans hcl
        obtain ⟨u6, k6⟩ : ∃ u, wr.cell? ⟨w.heap.size, 2 * k, none⟩ = some u := ⟨_, hrow.cell (by rw [HLN.out]; omega)⟩
        have l6 := hrow.frozen (2 * k)
        have HN6 := hidD (hrow.set (2 * k) (cf p (1 + 2 * k)))
        rw [HST.out k hlt] at HN6
        have hx1 : ((1 + 2 * k : Nat) : Int) - 1 = ((2 * k : Nat) : Int) := by omega
        have hx2 : ((2 * k : Nat) : Int) < l := by omega
        have HX3 : Hid (((1 + 2 * k : Nat) : Int) + 2 = 1 + 2 * ((k + 1 : Nat) : Int)) := by show _ = _; omega
        have hml : 1 + 2 * k ≤ 281474976710656 := by omega
        rw [hpo]
        clear hpo
        generalize (cf p (1 + 2 * k)).toNat = x at *
        generalize hq1 : 1 + 2 * k = q1 at *
        generalize hq2 : 2 * k = q2 at *
        clear hrow hbel hcl
        go_wp2_with fail
        refine ⟨⟨k + 1, by omega, by rw [HX3.out], HN6.out, HBW.out.setCell (p := ⟨w.heap.size, q2, none⟩) (Nat.le_refl _) _⟩, ?_⟩
        simp only [intOf]
        omega
      · have hlti : ¬ ((1 + 2 * k : Nat) : Int) < l := by omega
        rw [HAL.out k (by omega)] at HRW
        rw [hpo]
        generalize 1 + 2 * k = q1 at *
        clear hrow hbel
        go_wp2_with fail
        go_ret
        exact ⟨rfl, HRW.out, HBW.out⟩
end Go.Proofs.Ytdpkeffkpecmjab
