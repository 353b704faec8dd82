/- Texts of one proof, one behind the other. -/
import Derived.Test.YtdpkeffkpecmjaaRsi
/- What powersOf and slopesOf answer. -/
namespace Go.Proofs.Ytdpkeffkpecmjaa
open Go.RowKit
set_option linter.unusedVariables false

/-- A block holds these numbers. -/
def RowI (w : World) (g : Nat) (L : List Int) : Prop := w.heap[g]? = some (.cells (L.map encI).toArray (3 : TypeId) (0, 0))
theorem RowI.lt {w : World} {g : Nat} {L : List Int} (h : RowI w g L) : g < w.heap.size := row_lt h
theorem RowI.cell {w : World} {g : Nat} {L : List Int} (h : RowI w g L) {k : Nat} (hk : k < L.length) : w.cell? ⟨g, k, none⟩ = some (.int .i64 (L.getD k 0)) := by
  rw [cell_of_row _ _ _ _ _ _ h, List.getElem?_toArray, List.getElem?_map, List.getElem?_eq_getElem hk, List.getD_eq_getElem?_getD, List.getElem?_eq_getElem hk]; rfl
theorem RowI.frozen {w : World} {g : Nat} {L : List Int} (h : RowI w g L) (k : Nat) : w.frozen? ⟨g, k, none⟩ = false := frozen_of_row _ _ _ _ _ h
theorem RowI.set {w : World} {g : Nat} {L : List Int} (h : RowI w g L) (k : Nat) (v : Int) : RowI (w.setCell ⟨g, k, none⟩ (.int .i64 v)) g (L.set k v) := by
  unfold RowI
  rw [heap_setCell_same w g k _ _ _ h]
  congr 2
  apply Array.toList_inj.1
  simp [encI, List.map_set]
theorem RowI.below {w w' : World} {g n : Nat} {L : List Int} (h : RowI w g L) (hb : Below n w w') (hn : g < n) : RowI w' g L := (hb.block g hn).trans h
theorem RowI.next {w w' : World} {g : Nat} {L : List Int} (h : RowI w g L) (hb : Below w.heap.size w w') : RowI w' g L := h.below hb h.lt
theorem RowI.il {w : World} {g : Nat} {L : List Int} (h : RowI w g L) (hm : L.length ≤ 9223372036854775807) : IlAt w (.slice (some ⟨g, 0, none⟩) L.length L.length) L :=
  ⟨_, _, rfl, Nat.le_refl _, hm, fun k hk => ⟨g, 0, rfl, h.lt, by rw [Nat.zero_add]; exact h.cell hk⟩⟩
theorem rowI_of_made {w : World} {base g n : Nat} (h : w.ownsRow base 3 1 (.slice (some ⟨g, 0, none⟩) n n) n (madeCells (Value.cells (.int .i64 0)) (n * 1)).toList) : RowI w g (List.replicate n 0) := by
  have := row_full h
  rw [Nat.mul_one, show Value.cells (.int .i64 0) = #[.int .i64 0] from rfl, toList_madeCells_one] at this
  unfold RowI
  rw [this, List.map_replicate]; rfl
/-- The powers, of which k are there. -/
def powTo (L : List Int) (n k : Nat) : List Int := (List.range L.length).map fun i => if i < k then (n : Int) - 1 - L.getD i 0 else 0
/-- The powers that places of a word of n bytes belong to. -/
def powS (L : List Int) (n : Nat) : List Int := L.map fun x => (n : Int) - 1 - x
theorem powTo_length (L : List Int) (n k : Nat) : (powTo L n k).length = L.length := by simp [powTo]
theorem powTo_zero (L : List Int) (n : Nat) : powTo L n 0 = List.replicate L.length 0 := by
  apply List.ext_getElem (by simp [powTo])
  intro i h1 h2
  simp [powTo]
theorem powTo_all (L : List Int) (n : Nat) : powTo L n L.length = powS L n := by
  apply List.ext_getElem (by simp [powTo, powS])
  intro i h1 h2
  rw [powTo_length] at h1
  simp [powTo, powS, h1]
theorem powTo_set (L : List Int) (n k : Nat) (hk : k < L.length) : (powTo L n k).set k ((n : Int) - 1 - L.getD k 0) = powTo L n (k + 1) := by
  apply List.ext_getElem (by simp [powTo])
  intro i h1 h2
  rw [List.length_set, powTo_length] at h1
  rw [List.getElem_set]
  by_cases h : k = i
  · subst h; simp [powTo]
  · rw [if_neg h]
    simp only [powTo, List.getElem_map, List.getElem_range]
    by_cases h3 : i < k
    · rw [if_pos h3, if_pos (by omega)]
    · rw [if_neg h3, if_neg (by omega)]

set_option maxRecDepth 100000 in
set_option maxHeartbeats 1600000 in
theorem powersOf_any (L : List Int) (hL : L.length ≤ 65536) (hr : ∀ k, k < L.length → 0 ≤ L.getD k 0 ∧ L.getD k 0 ≤ 65536) (n : Nat) (hn : n ≤ 255) (v : Value) (w : World) (hv : IlAt w v L) :
    Calls Try.prog 62 #[v, .int .i64 n] w fun e w' => e = .returned (.slice (some ⟨w.heap.size, 0, none⟩) L.length L.length) ∧ RowI w' w.heap.size (powS L n) ∧ Below w.heap.size w w' := by
  obtain ⟨a, ca, rfl, hca1, hca2, hcell⟩ := hv
  have HCE := hidD hcell
  have HRG := hidD hr
  have HLN := hidD (powTo_length L n)
  have HZ := hidD (powTo_zero L n)
  have HAL := hidD (powTo_all L n)
  have HST := hidD (powTo_set L n)
  clear hcell hr
  generalize L.length = l at *
  obtain ⟨i0, hi, hz0, hz1, hz2⟩ := info_parts Try.info3
  go_enter Try.func62, Try.ntmps62
  go_wp2_with (at_make; refine wpList_make_full _ rfl _ _ 38 rfl w.heap.size 3 i0 (.int .i64 0) 1 Try.underlying38 hi hz0 hz1 _ _ _ _ l rfl rfl (by omega) (by omega) (by rw [hz2]; omega) (by unfold maxLen; omega) (Nat.le_refl _) ?_; intro w3 hown3 hg3; have HR3 := hidD (rowI_of_made hown3); have HB3 : Hid (Below w.heap.size w w3) := ((Below.refl w.heap.size w).grown hg3 (Nat.le_refl _) (fun k hk => by cases hk)); clear hown3 hg3)
  all_goals
    rw [← HZ.out] at HR3
    go_loopw [6, 7, 13] (fun _ _ i wr => ∃ k : Nat, k ≤ l ∧ i = .int .i64 k ∧ RowI wr w.heap.size (powTo L n k) ∧ Below w.heap.size w wr) (fun _ _ i _ => l - (intOf i).toNat)
    case atStart => exact ⟨0, Nat.zero_le _, rfl, HR3.out, HB3.out⟩
    case round =>
      obtain ⟨k, hk, rfl, hrow, hbel⟩ := hrel
      have HBW := hidD hbel
      have HRW := hidD hrow
      by_cases hlt : k < l
      · have hlti : (k : Int) < l := by omega
        obtain ⟨gl, ol, rfl, hgl, hcl⟩ := HCE.out k hlt
        have hcx : wr.cell? ⟨gl, ol + k, none⟩ = some (.int .i64 (L.getD k 0)) := (hbel.cell (p := ⟨gl, _, none⟩) hgl).trans hcl
        have hxr := HRG.out k hlt
        obtain ⟨u6, k6⟩ : ∃ u, wr.cell? ⟨w.heap.size, k, none⟩ = some u := ⟨_, hrow.cell (by rw [HLN.out]; omega)⟩
        have l6 := hrow.frozen k
        have HN6 := hidD (hrow.set k ((n : Int) - 1 - L.getD k 0))
        rw [HST.out k hlt] at HN6
        generalize L.getD k 0 = x at *
        clear hrow hbel hcl
        go_wp2_with fail
        go_roundw
        case rel => exact ⟨k + 1, by omega, by go_num, HN6.out, HBW.out.setCell (p := ⟨w.heap.size, k, none⟩) (Nat.le_refl _) _⟩
        case measure => simp [intOf]; omega
      · obtain rfl : k = l := by omega
        rw [HAL.out] at HRW
        clear hrow hbel
        go_wp2_with fail
        go_ret
        exact ⟨rfl, HRW.out, HBW.out⟩
end Go.Proofs.Ytdpkeffkpecmjaa
/- What slopesOf and arePlaces (of no place) answer. -/
namespace Go.Proofs.Ytdpkeffkpecmjaa
open Go.RowKit
set_option linter.unusedVariables false

/-- The derivative, of which k coefficients are there. -/
def slTo (l : List UInt8) (k : Nat) : List UInt8 := (List.range l.length).map fun i => if i % 2 = 0 ∧ i + 1 < l.length ∧ i < 2 * k then cf l (i + 1) else 0
/-- The derivative. -/
def slopeS (l : List UInt8) : List UInt8 := (List.range l.length).map fun i => if i % 2 = 0 ∧ i + 1 < l.length then cf l (i + 1) else 0
theorem slTo_length (l : List UInt8) (k : Nat) : (slTo l k).length = l.length := by simp [slTo]
theorem slTo_zero (l : List UInt8) : slTo l 0 = List.replicate l.length 0 := cf_ext (by simp [slTo]) fun i hi => by
  rw [cf_zeros, slTo, cf_map]; simp
theorem slTo_all (l : List UInt8) (k : Nat) (h : l.length ≤ 1 + 2 * k) : slTo l k = slopeS l := cf_ext (by simp [slTo, slopeS]) fun i hi => by
  rw [slTo_length] at hi
  rw [slTo, slopeS, cf_map, cf_map, if_pos hi, if_pos hi]
  by_cases h1 : i % 2 = 0 ∧ i + 1 < l.length
  · rw [if_pos h1, if_pos ⟨h1.1, h1.2, by omega⟩]
  · rw [if_neg h1, if_neg (fun h2 => h1 ⟨h2.1, h2.2.1⟩)]
theorem slTo_set (l : List UInt8) (k : Nat) (hk : 1 + 2 * k < l.length) : (slTo l k).set (2 * k) (cf l (1 + 2 * k)) = slTo l (k + 1) := cf_ext (by simp [slTo]) fun i hi => by
  rw [List.length_set, slTo_length] at hi
  rw [cf_set _ _ _ _ (by rw [slTo_length]; omega), slTo, slTo, cf_map, cf_map, if_pos hi, if_pos hi]
  by_cases h1 : i = 2 * k
  · rw [if_pos h1, if_pos ⟨by omega, by omega, by omega⟩, h1, Nat.add_comm 1]
  · rw [if_neg h1]
    by_cases h2 : i % 2 = 0 ∧ i + 1 < l.length ∧ i < 2 * k
    · rw [if_pos h2, if_pos ⟨h2.1, h2.2.1, by omega⟩]
    · rw [if_neg h2, if_neg (fun h3 => h2 ⟨h3.1, h3.2.1, by omega⟩)]

set_option maxRecDepth 100000 in
set_option maxHeartbeats 1600000 in
theorem slopesOf_any (p : List UInt8) (hp : p.length ≤ 281474976710656) (v : Value) (w : World) (hv : SlAt w v p) :
    Calls Try.prog 76 #[v] w fun e w' => e = .returned (.slice (some ⟨w.heap.size, 0, none⟩) p.length p.length) ∧ RowAt w' w.heap.size (slopeS p) ∧ Below w.heap.size w w' := by
  obtain ⟨⟨a, ca, rfl, hca1, hca2⟩, hpb⟩ := hv
  have HSH := hidD hpb.shape'.2
  have HLN := hidD (slTo_length p)
  have HZ := hidD (slTo_zero p)
  have HAL := hidD (slTo_all p)
  have HST := hidD (slTo_set p)
  clear hpb
  generalize p.length = l at *
  obtain ⟨i0, hi, hz0, hz1, hz2⟩ := info_parts Try.info5
  go_enter Try.func76, Try.ntmps76
  go_wp2_with (at_make; refine wpList_make_full _ rfl _ _ 22 rfl w.heap.size 5 i0 (.int .u8 0) 1 Try.underlying22 hi hz0 hz1 _ _ _ _ l rfl rfl (by omega) (by omega) (by rw [hz2]; omega) (by unfold maxLen; omega) (Nat.le_refl _) ?_; intro w3 hown3 hg3; have HR3 := hidD (row_of_made hown3); have HB3 : Hid (Below w.heap.size w w3) := ((Below.refl w.heap.size w).grown hg3 (Nat.le_refl _) (fun k hk => by cases hk)); clear hown3 hg3)
  all_goals
    rw [← HZ.out] at HR3
    go_loopw [4] (fun i wr => ∃ k : Nat, 2 * k ≤ l + 1 ∧ i = .int .i64 (1 + 2 * (k : Int)) ∧ RowAt wr w.heap.size (slTo p k) ∧ Below w.heap.size w wr) (fun i _ => l + 2 - (intOf i).toNat)
    case atStart => exact ⟨0, by omega, rfl, HR3.out, HB3.out⟩
    case round =>
      obtain ⟨k, hk, rfl, hrow, hbel⟩ := hrel
      have HBW := hidD hbel
      have HRW := hidD hrow
      have hpo : 1 + 2 * (k : Int) = ((1 + 2 * k : Nat) : Int) := by omega
      by_cases hlt : 1 + 2 * k < l
      · have hlti : ((1 + 2 * k : Nat) : Int) < l := by omega
        obtain ⟨gl, ol, rfl, hgl, hcl⟩ := HSH.out (1 + 2 * k) hlt
        have hcx : wr.cell? ⟨gl, ol + (1 + 2 * k), none⟩ = some (.int .u8 ((cf p (1 + 2 * k)).toNat : Int)) := (hbel.cell (p := ⟨gl, _, none⟩) hgl).trans hcl
        obtain ⟨u6, k6⟩ : ∃ u, wr.cell? ⟨w.heap.size, 2 * k, none⟩ = some u := ⟨_, hrow.cell (by rw [HLN.out]; omega)⟩
        have l6 := hrow.frozen (2 * k)
        have HN6 := hidD (hrow.set (2 * k) (cf p (1 + 2 * k)))
        rw [HST.out k hlt] at HN6
        have hx1 : ((1 + 2 * k : Nat) : Int) - 1 = ((2 * k : Nat) : Int) := by omega
        have hx2 : ((2 * k : Nat) : Int) < l := by omega
        have HX3 : Hid (((1 + 2 * k : Nat) : Int) + 2 = 1 + 2 * ((k + 1 : Nat) : Int)) := by show _ = _; omega
        have hml : 1 + 2 * k ≤ 281474976710656 := by omega
        rw [hpo]
        clear hpo
        generalize (cf p (1 + 2 * k)).toNat = x at *
        generalize hq1 : 1 + 2 * k = q1 at *
        generalize hq2 : 2 * k = q2 at *
        clear hrow hbel hcl
        go_wp2_with fail
        refine ⟨⟨k + 1, by omega, by rw [HX3.out], HN6.out, HBW.out.setCell (p := ⟨w.heap.size, q2, none⟩) (Nat.le_refl _) _⟩, ?_⟩
        simp only [intOf]
        omega
      · have hlti : ¬ ((1 + 2 * k : Nat) : Int) < l := by omega
        rw [HAL.out k (by omega)] at HRW
        rw [hpo]
        generalize 1 + 2 * k = q1 at *
        clear hrow hbel
        go_wp2_with fail
        go_ret
        exact ⟨rfl, HRW.out, HBW.out⟩
end Go.Proofs.Ytdpkeffkpecmjaa
