/- HexfileTurned: a record with one digit turned is refused: the walk. -/
import Derived.Test.YtpemajghaceegabGreatDoorHyc
namespace Go.Proofs.YtpemajghaceegabGreatDoor
open Go.RowKit
set_option linter.unusedVariables false

/- the bytes of a text, in a row of their own -/
def RowF (w : World) (g : Nat) (L : List UInt8) : Prop := ∃ cs lo hi, w.heap[g]? = some (.cells (L.map encB ++ cs).toArray (5 : TypeId) (lo, hi)) ∧ L.length ≤ lo
theorem RowF.lt {w : World} {g : Nat} {L : List UInt8} (h : RowF w g L) : g < w.heap.size := by obtain ⟨cs, lo, hi, h, _⟩ := h; exact row_lt h
theorem RowF.cell {w : World} {g : Nat} {L : List UInt8} (h : RowF w g L) {k : Nat} (hk : k < L.length) : w.cell? ⟨g, k, none⟩ = some (.int .u8 ((L.getD k 0).toNat : Int)) := by
  obtain ⟨cs, lo, hi, h, _⟩ := h
  rw [cell_of_row _ _ _ _ _ _ h, List.getElem?_toArray, List.getElem?_append_left (by simpa using hk), List.getElem?_map, List.getElem?_eq_getElem hk]
  rw [List.getD_eq_getElem?_getD, List.getElem?_eq_getElem hk]; rfl
theorem RowF.frozen {w : World} {g : Nat} {L : List UInt8} (h : RowF w g L) {k : Nat} (hk : k < L.length) : w.frozen? ⟨g, k, none⟩ = false := by
  obtain ⟨cs, lo, hi, h, hl⟩ := h
  unfold World.frozen?
  rw [h]
  simp
  omega
theorem RowF.set {w : World} {g : Nat} {L : List UInt8} (h : RowF w g L) {k : Nat} (hk : k < L.length) (v : UInt8) : RowF (w.setCell ⟨g, k, none⟩ (.int .u8 (v.toNat : Int))) g (L.set k v) := by
  obtain ⟨cs, lo, hi, h, hl⟩ := h
  refine ⟨cs, lo, hi, ?_, by rw [List.length_set]; exact hl⟩
  rw [show (w.setCell ⟨g, k, none⟩ (.int .u8 (v.toNat : Int))).heap[g]? = some (.cells ((L.map encB ++ cs).toArray.setIfInBounds k (.int .u8 (v.toNat : Int))) (5 : TypeId) (lo, hi)) from by simp [World.setCell, Array.getElem?_modify, h]]
  congr 2
  apply Array.toList_inj.1
  rw [Array.toList_setIfInBounds, List.map_set]
  simp [hk, encB]
theorem RowF.next {w w' : World} {g : Nat} {L : List UInt8} (h : RowF w g L) (hb : Below w.heap.size w w') : RowF w' g L := by
  obtain ⟨cs, lo, hi, h, hl⟩ := h
  exact ⟨cs, lo, hi, (hb.block _ (row_lt h)).trans h, hl⟩
theorem RowF.text {w : World} {g : Nat} {L : List UInt8} (h : RowF w g L) (cap : Nat) : (convert (22 : TypeId) (9 : TypeId) (.slice (some ⟨g, 0, none⟩) L.length cap)).run Tryz.prog w = .ok (.string (bA L)) w := by
  refine run_convert_bytes_back _ (22 : TypeId) (9 : TypeId) (5 : TypeId) ⟨g, 0, none⟩ cap L Tryz.underBy Tryz.under5 Tryz.under9 (fun j hj => ?_)
  rw [Go.WideShapes.add_plain, Nat.zero_add, h.cell hj]
  rw [List.getD_eq_getElem?_getD, List.getElem?_eq_getElem hj]; rfl
theorem bytes_new (w : World) (L : List UInt8) : ∃ cap w', (convert (9 : TypeId) (22 : TypeId) (.string (bA L))).run Tryz.prog w = .ok (.slice (some ⟨w.heap.size, 0, none⟩) L.length cap) w' ∧ RowF w' w.heap.size L ∧ Below w.heap.size w w' := by
  have h := run_bytes_of_string (P := Tryz.prog) w (9 : TypeId) (22 : TypeId) (5 : TypeId) (bA L) Tryz.under9 Tryz.underBy Tryz.under5
  rw [ba_size] at h
  refine ⟨_, _, h, ?_, ((Below.refl w.heap.size w).drew).alloc (Nat.le_refl _) _⟩
  have hb : bytesRow (bA L) (grownCap w L.length 0 5) = (L.map encB ++ (List.replicate (grownCap w L.length 0 5 - L.length) (Value.int .u8 0))).toArray := by
    apply Array.toList_inj.1
    simp [bytesRow]
    rw [ba_size]
    rfl
  refine ⟨List.replicate (grownCap w L.length 0 5 - L.length) (Value.int .u8 0), (bytesRow (bA L) (grownCap w L.length 0 5)).size, (bytesRow (bA L) (grownCap w L.length 0 5)).size + 1, ?_, ?_⟩
  · have e : (w.drew.alloc (.cells (bytesRow (bA L) (grownCap w L.length 0 5)) (5 : TypeId) ((bytesRow (bA L) (grownCap w L.length 0 5)).size, (bytesRow (bA L) (grownCap w L.length 0 5)).size + 1))).heap[w.drew.heap.size]? = _ := heap_alloc_last _ _
    refine e.trans ?_
    rw [hb]
  · rw [hb]; simp
/- the place that a number means -/
def plT (n : Nat) (a : Int) : Nat := ((a.tmod n + n).tmod n).toNat
theorem pl_is (n : Nat) (hn : 0 < n) (a : Int) : -(n : Int) < a.tmod n ∧ a.tmod n < n ∧ (a.tmod n + n).tmod n = (plT n a : Int) ∧ plT n a < n := by
  have h1 : -(n : Int) < a.tmod n := by
    have e := Int.natAbs_tmod a n
    have h := Nat.mod_lt a.natAbs (show 0 < (n : Int).natAbs by omega)
    rw [← e] at h
    omega
  have h2 : a.tmod n < n := Int.tmod_lt_of_pos a (by omega)
  have h3 : 0 ≤ (a.tmod n + n).tmod n := Int.tmod_nonneg _ (by omega)
  have h4 : (a.tmod n + n).tmod n < n := Int.tmod_lt_of_pos _ (by omega)
  exact ⟨h1, h2, by unfold plT; omega, by unfold plT; omega⟩
set_option maxRecDepth 100000 in
set_option maxHeartbeats 3200000 in
theorem turnedNo (f k a : Int) (v : Value) (d : List UInt8) (hd : d.length ≤ 9223372036854775807) (hmay : mayS f k a d = false) (place : Int) (tz : Int) (m : Int) (w : World) (h : ByAt w v d) (hm : w.cell? ⟨0, 0, none⟩ = some (.int .i64 m)) :
    Calls Tryz.prog 3 #[.int .i64 f, .int .i64 k, .int .i64 a, v, .int .i64 place, .int .u8 tz] w fun e w' => e = .returned (.bool true) ∧ Below w.heap.size w w' := by
  have HAL := hidD (alive_any m w hm)
  have HRE := hidD (fun w h => Record_any f k a v d hd w h)
  have HMY := hidD hmay
  have HBY := hidD h
  clear hm h hmay
  go_enter Tryz.func3, Tryz.ntmps3
  go_wp2_with fail
  go_at_call 4
  refine HAL.out.mono ?_
  rintro e w1 ⟨rfl, hb⟩
  have HB1 := hidD hb
  clear hb
  go_wp2_with fail
  go_at_call 5
  refine (HRE.out _ (HBY.out.next HB1.out)).mono ?_
  rintro e w2 ⟨hb, _, h2⟩
  obtain rfl := h2 HMY.out
  have HB2 := hidD (Below.next HB1.out hb)
  clear hb h2
  go_wp2_with fail
  go_ret
  exact ⟨by show Ending.returned (.bool (bA []).toList.isEmpty) = _; rw [ba_list]; rfl, HB2.out⟩
theorem and15 : ∀ n < 256, bits BinOp.and IntKind.u8 ((n : Nat) : Int) 15 = ((n % 16 : Nat) : Int) := by decide +kernel
theorem dig_all : ∀ n : Nat, (h : n < 16) → (⟨#[48, 49, 50, 51, 52, 53, 54, 55, 56, 57, 65, 66, 67, 68, 69, 70]⟩ : ByteArray)[n]'h = dgS (UInt8.ofNat n) := by decide +kernel
theorem rec_big {F K A : Nat} {d : List UInt8} (h : mayS F K A d = true) : fromS F < (recS F K A d).length ∧ (recS F K A d).length ≤ 1000 := by
  obtain ⟨F', K', A', e1, e2, e3, hf, ha, hd, h1, h2, h3⟩ := may_num h
  obtain rfl : F = F' := by omega
  rw [rec_head, List.length_append, hex_len]
  have hh : (headS F K).length = fromS F := by
    unfold headS fromS
    rcases hf with rfl | rfl | rfl <;> rfl
  rw [hh]
  have hr : 0 < (recB F K A d).length ∧ (recB F K A d).length ≤ 400 := by
    unfold recB
    rcases hf with rfl | rfl | rfl
    · show 0 < (intB K A d).length ∧ (intB K A d).length ≤ 400; rw [int_len]; omega
    · show 0 < (motB A d).length ∧ (motB A d).length ≤ 400; rw [mot_len]; omega
    · show 0 < (mosB A d).length ∧ (mosB A d).length ≤ 400; rw [mos_len]; omega
  have hfr : fromS F ≤ 2 := by unfold fromS; split <;> omega
  omega
set_option maxRecDepth 100000 in
set_option maxHeartbeats 3200000 in
theorem turnedTwo (K A : Nat) (v : Value) (d : List UInt8) (hd : d.length ≤ 9223372036854775807) (hmay : mayS 2 K A d = true) (place : Int) (hp : -9223372036854775808 ≤ place ∧ place ≤ 9223372036854775807) (tz : UInt8) (m : Int) (w : World) (h : ByAt w v d) (hm : w.cell? ⟨0, 0, none⟩ = some (.int .i64 m)) :
    Calls Tryz.prog 3 #[.int .i64 2, .int .i64 K, .int .i64 A, v, .int .i64 place, .int .u8 (tz.toNat : Int)] w fun e w' => e = .returned (.bool true) ∧ Below w.heap.size w w' := by
  have HAL := hidD (alive_any m w hm)
  have HRE := hidD (fun w h => Record_any 2 K A v d hd w h)
  have HMY := hidD hmay
  have HBY := hidD h
  have hn := rec_big (F := 2) hmay
  have HTU := hidD (fun (j : Nat) (u : UInt8) (hu : u < 16) (h1 : fromS 2 ≤ j) (h2 : j < (recS 2 K A d).length) (h3 : (recS 2 K A d).set j (dgS u) ≠ recS 2 K A d) => line_turn (F := 2) hmay hu h1 h2 h3)
  obtain ⟨L, HL⟩ : ∃ L, Hid (recS 2 K A d = L) := ⟨_, rfl⟩
  rw [HL.out] at hn HTU
  change 2 < _ ∧ _ at hn
  obtain ⟨hn1, hn2⟩ := hn
  have HBN := hidD (fun w => bytes_new w L)
  have hsz := ba_size L
  have HTX := hidD (fun (w : World) (g : Nat) (M : List UInt8) (h : RowF w g M) (cap : Nat) => h.text cap)
  have HSP := hidD (fun (M : List UInt8) (hl : M.length ≤ 140737488355000) (w : World) => Split_any M hl w)
  rw [← hsz] at hn1 hn2
  have HSZ := hidD hsz
  obtain ⟨sL, HBL⟩ : ∃ sL, Hid (bA L = sL) := ⟨_, rfl⟩
  have HBA := hidD (fun (M : List UInt8) => (ba_inj (l := M) (m := L)))
  clear hsz h hm hmay
  rw [HBL.out] at HBN HSZ hn1 hn2
  generalize sL = s at *
  have b1 : (2 : Int) < s.size := by omega
  have b2 : (s.size : Int) ≤ 1000 := by omega
  have b3 : ¬ (s.size : Int) ≤ 2 := by omega
  obtain ⟨q1, q2, q3, q4⟩ := pl_is (s.size - 2) (by omega) place
  have hc : ((s.size - 2 : Nat) : Int) = (s.size : Int) - 2 := by omega
  rw [hc] at q1 q2 q3
  have hq : place.tmod ((s.size : Int) - 2) + ((s.size : Int) - 2) = place.tmod ((s.size : Int) - 2) + s.size - 2 := by omega
  rw [hq] at q3
  have b4 : ¬ ((s.size : Int) - 2 = 0) := by omega
  obtain ⟨pl, HPL⟩ : ∃ pl, Hid (plT (s.size - 2) place = pl) := ⟨_, rfl⟩
  rw [HPL.out] at q3 q4
  have q5 : (pl : Int) < (s.size : Int) - 2 := by omega
  clear hc hq HPL
  go_enter Tryz.func3, Tryz.ntmps3
  go_wp2_with fail
  go_at_call 4
  refine HAL.out.mono ?_
  rintro e w1 ⟨rfl, hb⟩
  have HB1 := hidD hb
  clear hb
  go_wp2_with fail
  go_at_call 5
  refine (HRE.out _ (HBY.out.next HB1.out)).mono ?_
  rintro e w2 ⟨hb, h1, _⟩
  obtain ⟨F', K', A', e1, e2, e3, rfl⟩ := h1 HMY.out
  obtain rfl : F' = 2 := by omega
  obtain rfl : K' = K := by omega
  obtain rfl : A' = A := by omega
  rw [HL.out, HBL.out]
  have HB2 := hidD (Below.next HB1.out hb)
  obtain ⟨cap, w3, hcv, hrow, hb3⟩ := HBN.out w2
  have HB3 := hidD (Below.next HB2.out hb3)
  have HRW := hidD hrow
  clear hb h1 e1 e2 e3 HRE HAL hb3
  have hk : 2 + pl < L.length := by have := HSZ.out; omega
  have hkc := hrow.cell hk
  have hkf := hrow.frozen hk
  have HST : Hid (∀ u : UInt8, RowF (w3.setCell ⟨w2.heap.size, 2 + pl, none⟩ (.int .u8 (u.toNat : Int))) w2.heap.size (L.set (2 + pl) u)) := fun u => hrow.set hk u
  have hct : ∀ u : UInt8, (convert (22 : TypeId) (9 : TypeId) (.slice (some ⟨w2.heap.size, 0, none⟩) L.length cap)).run Tryz.prog (w3.setCell ⟨w2.heap.size, 2 + pl, none⟩ (.int .u8 (u.toNat : Int))) = .ok (.string (bA (L.set (2 + pl) u))) (w3.setCell ⟨w2.heap.size, 2 + pl, none⟩ (.int .u8 (u.toNat : Int))) := fun u => by
    have := HTX.out _ _ _ (HST.out u) cap
    rwa [List.length_set] at this
  have hand := and15 tz.toNat tz.toNat_lt
  obtain ⟨x, HX⟩ : ∃ x, Hid (tz.toNat % 16 = x) := ⟨_, rfl⟩
  rw [HX.out] at hand
  have hx : x < 16 := by have := HX.out; omega
  have hdg := dig_all x hx
  have HLU : Hid (UInt8.ofNat x < 16) := by
    show _ < _
    rw [UInt8.lt_iff_toNat_lt, of_nat]
    show x % 256 < 16
    omega
  obtain ⟨u, HU⟩ : ∃ u, Hid (UInt8.ofNat x = u) := ⟨_, rfl⟩
  rw [HU.out] at hdg HLU
  obtain ⟨y, HY⟩ : ∃ y, Hid (dgS u = y) := ⟨_, rfl⟩
  rw [HY.out] at hdg
  clear hrow HBN HTX
  have HB4 := hidD (HB3.out.setCell (p := ⟨w2.heap.size, 2 + pl, none⟩) HB2.out.size (.int .u8 (y.toNat : Int)))
  by_cases hE : L.set (2 + pl) y = L
  · have hEb : ((bA (L.set (2 + pl) y)).toList == s.toList) = true := by rw [ba_list, ← HBL.out, ba_list, hE]; simp
    clear hE HTU HSP
    go_wp2_with fail
    go_ret
    exact ⟨rfl, HB4.out⟩
  · have hEb : ((bA (L.set (2 + pl) y)).toList == s.toList) = false := by rw [ba_list, ← HBL.out, ba_list]; simpa using hE
    obtain ⟨er, hls, her⟩ := HTU.out (2 + pl) u HLU.out (show 2 ≤ 2 + pl by omega) hk (by rw [HY.out]; exact hE)
    rw [HY.out] at hls
    have HS1 := hidD (fun w => HSP.out (L.set (2 + pl) y) (by rw [List.length_set]; have := HSZ.out; omega) w)
    rw [hls] at HS1
    clear hE HTU HSP hls
    go_wp2_with fail
    go_at_call 6
    refine (HS1.out _).mono ?_
    rintro e w5 ⟨hb5, rfl, _⟩
    have HB5 := hidD (Below.next HB4.out hb5)
    clear hb5 HS1
    rcases her with rfl | rfl
    · go_wp2_with fail
      go_ret
      exact ⟨rfl, HB5.out⟩
    · go_wp2_with fail
      go_ret
      exact ⟨rfl, HB5.out⟩
set_option maxRecDepth 100000 in
set_option maxHeartbeats 3200000 in
theorem turnedOne (K A : Nat) (v : Value) (d : List UInt8) (hd : d.length ≤ 9223372036854775807) (hmay : mayS 1 K A d = true) (place : Int) (hp : -9223372036854775808 ≤ place ∧ place ≤ 9223372036854775807) (tz : UInt8) (m : Int) (w : World) (h : ByAt w v d) (hm : w.cell? ⟨0, 0, none⟩ = some (.int .i64 m)) :
    Calls Tryz.prog 3 #[.int .i64 1, .int .i64 K, .int .i64 A, v, .int .i64 place, .int .u8 (tz.toNat : Int)] w fun e w' => e = .returned (.bool true) ∧ Below w.heap.size w w' := by
  have HAL := hidD (alive_any m w hm)
  have HRE := hidD (fun w h => Record_any 1 K A v d hd w h)
  have HMY := hidD hmay
  have HBY := hidD h
  have hn := rec_big (F := 1) hmay
  have HTU := hidD (fun (j : Nat) (u : UInt8) (hu : u < 16) (h1 : fromS 1 ≤ j) (h2 : j < (recS 1 K A d).length) (h3 : (recS 1 K A d).set j (dgS u) ≠ recS 1 K A d) => line_turn (F := 1) hmay hu h1 h2 h3)
  obtain ⟨L, HL⟩ : ∃ L, Hid (recS 1 K A d = L) := ⟨_, rfl⟩
  rw [HL.out] at hn HTU
  change 1 < _ ∧ _ at hn
  obtain ⟨hn1, hn2⟩ := hn
  have HBN := hidD (fun w => bytes_new w L)
  have hsz := ba_size L
  have HTX := hidD (fun (w : World) (g : Nat) (M : List UInt8) (h : RowF w g M) (cap : Nat) => h.text cap)
  have HSP := hidD (fun (M : List UInt8) (hl : M.length ≤ 140737488355000) (w : World) => Split_any M hl w)
  rw [← hsz] at hn1 hn2
  have HSZ := hidD hsz
  obtain ⟨sL, HBL⟩ : ∃ sL, Hid (bA L = sL) := ⟨_, rfl⟩
  have HBA := hidD (fun (M : List UInt8) => (ba_inj (l := M) (m := L)))
  clear hsz h hm hmay
  rw [HBL.out] at HBN HSZ hn1 hn2
  generalize sL = s at *
  have b1 : (1 : Int) < s.size := by omega
  have b2 : (s.size : Int) ≤ 1000 := by omega
  have b3 : ¬ (s.size : Int) ≤ 1 := by omega
  obtain ⟨q1, q2, q3, q4⟩ := pl_is (s.size - 1) (by omega) place
  have hc : ((s.size - 1 : Nat) : Int) = (s.size : Int) - 1 := by omega
  rw [hc] at q1 q2 q3
  have hq : place.tmod ((s.size : Int) - 1) + ((s.size : Int) - 1) = place.tmod ((s.size : Int) - 1) + s.size - 1 := by omega
  rw [hq] at q3
  have b4 : ¬ ((s.size : Int) - 1 = 0) := by omega
  obtain ⟨pl, HPL⟩ : ∃ pl, Hid (plT (s.size - 1) place = pl) := ⟨_, rfl⟩
  rw [HPL.out] at q3 q4
  have q5 : (pl : Int) < (s.size : Int) - 1 := by omega
  clear hc hq HPL
  go_enter Tryz.func3, Tryz.ntmps3
  go_wp2_with fail
  go_at_call 4
  refine HAL.out.mono ?_
  rintro e w1 ⟨rfl, hb⟩
  have HB1 := hidD hb
  clear hb
  go_wp2_with fail
  go_at_call 5
  refine (HRE.out _ (HBY.out.next HB1.out)).mono ?_
  rintro e w2 ⟨hb, h1, _⟩
  obtain ⟨F', K', A', e1, e2, e3, rfl⟩ := h1 HMY.out
  obtain rfl : F' = 1 := by omega
  obtain rfl : K' = K := by omega
  obtain rfl : A' = A := by omega
  rw [HL.out, HBL.out]
  have HB2 := hidD (Below.next HB1.out hb)
  obtain ⟨cap, w3, hcv, hrow, hb3⟩ := HBN.out w2
  have HB3 := hidD (Below.next HB2.out hb3)
  have HRW := hidD hrow
  clear hb h1 e1 e2 e3 HRE HAL hb3
  have hk : 1 + pl < L.length := by have := HSZ.out; omega
  have hkc := hrow.cell hk
  have hkf := hrow.frozen hk
  have HST : Hid (∀ u : UInt8, RowF (w3.setCell ⟨w2.heap.size, 1 + pl, none⟩ (.int .u8 (u.toNat : Int))) w2.heap.size (L.set (1 + pl) u)) := fun u => hrow.set hk u
  have hct : ∀ u : UInt8, (convert (22 : TypeId) (9 : TypeId) (.slice (some ⟨w2.heap.size, 0, none⟩) L.length cap)).run Tryz.prog (w3.setCell ⟨w2.heap.size, 1 + pl, none⟩ (.int .u8 (u.toNat : Int))) = .ok (.string (bA (L.set (1 + pl) u))) (w3.setCell ⟨w2.heap.size, 1 + pl, none⟩ (.int .u8 (u.toNat : Int))) := fun u => by
    have := HTX.out _ _ _ (HST.out u) cap
    rwa [List.length_set] at this
  have hand := and15 tz.toNat tz.toNat_lt
  obtain ⟨x, HX⟩ : ∃ x, Hid (tz.toNat % 16 = x) := ⟨_, rfl⟩
  rw [HX.out] at hand
  have hx : x < 16 := by have := HX.out; omega
  have hdg := dig_all x hx
  have HLU : Hid (UInt8.ofNat x < 16) := by
    show _ < _
    rw [UInt8.lt_iff_toNat_lt, of_nat]
    show x % 256 < 16
    omega
  obtain ⟨u, HU⟩ : ∃ u, Hid (UInt8.ofNat x = u) := ⟨_, rfl⟩
  rw [HU.out] at hdg HLU
  obtain ⟨y, HY⟩ : ∃ y, Hid (dgS u = y) := ⟨_, rfl⟩
  rw [HY.out] at hdg
  clear hrow HBN HTX
  have HB4 := hidD (HB3.out.setCell (p := ⟨w2.heap.size, 1 + pl, none⟩) HB2.out.size (.int .u8 (y.toNat : Int)))
  by_cases hE : L.set (1 + pl) y = L
  · have hEb : ((bA (L.set (1 + pl) y)).toList == s.toList) = true := by rw [ba_list, ← HBL.out, ba_list, hE]; simp
    clear hE HTU HSP
    go_wp2_with fail
    go_ret
    exact ⟨rfl, HB4.out⟩
  · have hEb : ((bA (L.set (1 + pl) y)).toList == s.toList) = false := by rw [ba_list, ← HBL.out, ba_list]; simpa using hE
    obtain ⟨er, hls, her⟩ := HTU.out (1 + pl) u HLU.out (show 1 ≤ 1 + pl by omega) hk (by rw [HY.out]; exact hE)
    rw [HY.out] at hls
    have HS1 := hidD (fun w => HSP.out (L.set (1 + pl) y) (by rw [List.length_set]; have := HSZ.out; omega) w)
    rw [hls] at HS1
    clear hE HTU HSP hls
    go_wp2_with fail
    go_at_call 6
    refine (HS1.out _).mono ?_
    rintro e w5 ⟨hb5, rfl, _⟩
    have HB5 := hidD (Below.next HB4.out hb5)
    clear hb5 HS1
    rcases her with rfl | rfl
    · go_wp2_with fail
      go_ret
      exact ⟨rfl, HB5.out⟩
    · go_wp2_with fail
      go_ret
      exact ⟨rfl, HB5.out⟩
set_option maxRecDepth 100000 in
set_option maxHeartbeats 3200000 in
theorem turnedThree (K A : Nat) (v : Value) (d : List UInt8) (hd : d.length ≤ 9223372036854775807) (hmay : mayS 3 K A d = true) (place : Int) (hp : -9223372036854775808 ≤ place ∧ place ≤ 9223372036854775807) (tz : UInt8) (m : Int) (w : World) (h : ByAt w v d) (hm : w.cell? ⟨0, 0, none⟩ = some (.int .i64 m)) :
    Calls Tryz.prog 3 #[.int .i64 3, .int .i64 K, .int .i64 A, v, .int .i64 place, .int .u8 (tz.toNat : Int)] w fun e w' => e = .returned (.bool true) ∧ Below w.heap.size w w' := by
  have HAL := hidD (alive_any m w hm)
  have HRE := hidD (fun w h => Record_any 3 K A v d hd w h)
  have HMY := hidD hmay
  have HBY := hidD h
  have hn := rec_big (F := 3) hmay
  have HTU := hidD (fun (j : Nat) (u : UInt8) (hu : u < 16) (h1 : fromS 3 ≤ j) (h2 : j < (recS 3 K A d).length) (h3 : (recS 3 K A d).set j (dgS u) ≠ recS 3 K A d) => line_turn (F := 3) hmay hu h1 h2 h3)
  obtain ⟨L, HL⟩ : ∃ L, Hid (recS 3 K A d = L) := ⟨_, rfl⟩
  rw [HL.out] at hn HTU
  change 1 < _ ∧ _ at hn
  obtain ⟨hn1, hn2⟩ := hn
  have HBN := hidD (fun w => bytes_new w L)
  have hsz := ba_size L
  have HTX := hidD (fun (w : World) (g : Nat) (M : List UInt8) (h : RowF w g M) (cap : Nat) => h.text cap)
  have HSP := hidD (fun (M : List UInt8) (hl : M.length ≤ 140737488355000) (w : World) => Split_any M hl w)
  rw [← hsz] at hn1 hn2
  have HSZ := hidD hsz
  obtain ⟨sL, HBL⟩ : ∃ sL, Hid (bA L = sL) := ⟨_, rfl⟩
  have HBA := hidD (fun (M : List UInt8) => (ba_inj (l := M) (m := L)))
  clear hsz h hm hmay
  rw [HBL.out] at HBN HSZ hn1 hn2
  generalize sL = s at *
  have b1 : (1 : Int) < s.size := by omega
  have b2 : (s.size : Int) ≤ 1000 := by omega
  have b3 : ¬ (s.size : Int) ≤ 1 := by omega
  obtain ⟨q1, q2, q3, q4⟩ := pl_is (s.size - 1) (by omega) place
  have hc : ((s.size - 1 : Nat) : Int) = (s.size : Int) - 1 := by omega
  rw [hc] at q1 q2 q3
  have hq : place.tmod ((s.size : Int) - 1) + ((s.size : Int) - 1) = place.tmod ((s.size : Int) - 1) + s.size - 1 := by omega
  rw [hq] at q3
  have b4 : ¬ ((s.size : Int) - 1 = 0) := by omega
  obtain ⟨pl, HPL⟩ : ∃ pl, Hid (plT (s.size - 1) place = pl) := ⟨_, rfl⟩
  rw [HPL.out] at q3 q4
  have q5 : (pl : Int) < (s.size : Int) - 1 := by omega
  clear hc hq HPL
  go_enter Tryz.func3, Tryz.ntmps3
  go_wp2_with fail
  go_at_call 4
  refine HAL.out.mono ?_
  rintro e w1 ⟨rfl, hb⟩
  have HB1 := hidD hb
  clear hb
  go_wp2_with fail
  go_at_call 5
  refine (HRE.out _ (HBY.out.next HB1.out)).mono ?_
  rintro e w2 ⟨hb, h1, _⟩
  obtain ⟨F', K', A', e1, e2, e3, rfl⟩ := h1 HMY.out
  obtain rfl : F' = 3 := by omega
  obtain rfl : K' = K := by omega
  obtain rfl : A' = A := by omega
  rw [HL.out, HBL.out]
  have HB2 := hidD (Below.next HB1.out hb)
  obtain ⟨cap, w3, hcv, hrow, hb3⟩ := HBN.out w2
  have HB3 := hidD (Below.next HB2.out hb3)
  have HRW := hidD hrow
  clear hb h1 e1 e2 e3 HRE HAL hb3
  have hk : 1 + pl < L.length := by have := HSZ.out; omega
  have hkc := hrow.cell hk
  have hkf := hrow.frozen hk
  have HST : Hid (∀ u : UInt8, RowF (w3.setCell ⟨w2.heap.size, 1 + pl, none⟩ (.int .u8 (u.toNat : Int))) w2.heap.size (L.set (1 + pl) u)) := fun u => hrow.set hk u
  have hct : ∀ u : UInt8, (convert (22 : TypeId) (9 : TypeId) (.slice (some ⟨w2.heap.size, 0, none⟩) L.length cap)).run Tryz.prog (w3.setCell ⟨w2.heap.size, 1 + pl, none⟩ (.int .u8 (u.toNat : Int))) = .ok (.string (bA (L.set (1 + pl) u))) (w3.setCell ⟨w2.heap.size, 1 + pl, none⟩ (.int .u8 (u.toNat : Int))) := fun u => by
    have := HTX.out _ _ _ (HST.out u) cap
    rwa [List.length_set] at this
  have hand := and15 tz.toNat tz.toNat_lt
  obtain ⟨x, HX⟩ : ∃ x, Hid (tz.toNat % 16 = x) := ⟨_, rfl⟩
  rw [HX.out] at hand
  have hx : x < 16 := by have := HX.out; omega
  have hdg := dig_all x hx
  have HLU : Hid (UInt8.ofNat x < 16) := by
    show _ < _
    rw [UInt8.lt_iff_toNat_lt, of_nat]
    show x % 256 < 16
    omega
  obtain ⟨u, HU⟩ : ∃ u, Hid (UInt8.ofNat x = u) := ⟨_, rfl⟩
  rw [HU.out] at hdg HLU
  obtain ⟨y, HY⟩ : ∃ y, Hid (dgS u = y) := ⟨_, rfl⟩
  rw [HY.out] at hdg
  clear hrow HBN HTX
  have HB4 := hidD (HB3.out.setCell (p := ⟨w2.heap.size, 1 + pl, none⟩) HB2.out.size (.int .u8 (y.toNat : Int)))
  by_cases hE : L.set (1 + pl) y = L
  · have hEb : ((bA (L.set (1 + pl) y)).toList == s.toList) = true := by rw [ba_list, ← HBL.out, ba_list, hE]; simp
    clear hE HTU HSP
    go_wp2_with fail
    go_ret
    exact ⟨rfl, HB4.out⟩
  · have hEb : ((bA (L.set (1 + pl) y)).toList == s.toList) = false := by rw [ba_list, ← HBL.out, ba_list]; simpa using hE
    obtain ⟨er, hls, her⟩ := HTU.out (1 + pl) u HLU.out (show 1 ≤ 1 + pl by omega) hk (by rw [HY.out]; exact hE)
    rw [HY.out] at hls
    have HS1 := hidD (fun w => HSP.out (L.set (1 + pl) y) (by rw [List.length_set]; have := HSZ.out; omega) w)
    rw [hls] at HS1
    clear hE HTU HSP hls
    go_wp2_with fail
    go_at_call 6
    refine (HS1.out _).mono ?_
    rintro e w5 ⟨hb5, rfl, _⟩
    have HB5 := hidD (Below.next HB4.out hb5)
    clear hb5 HS1
    rcases her with rfl | rfl
    · go_wp2_with fail
      go_ret
      exact ⟨rfl, HB5.out⟩
    · go_wp2_with fail
      go_ret
      exact ⟨rfl, HB5.out⟩
theorem turned_any (f k a : Int) (v : Value) (d : List UInt8) (hd : d.length ≤ 9223372036854775807) (place : Int) (hp : -9223372036854775808 ≤ place ∧ place ≤ 9223372036854775807) (tz : UInt8) (m : Int) (w : World) (h : ByAt w v d) (hm : w.cell? ⟨0, 0, none⟩ = some (.int .i64 m)) :
    Calls Tryz.prog 3 #[.int .i64 f, .int .i64 k, .int .i64 a, v, .int .i64 place, .int .u8 (tz.toNat : Int)] w fun e w' => e = .returned (.bool true) ∧ Below w.heap.size w w' := by
  cases hmay : mayS f k a d with
  | false => exact turnedNo f k a v d hd hmay place _ m w h hm
  | true =>
    obtain ⟨F, K, A, rfl, rfl, rfl, hf, _⟩ := may_num hmay
    rcases hf with rfl | rfl | rfl
    · exact turnedOne K A v d hd hmay place hp tz m w h hm
    · exact turnedTwo K A v d hd hmay place hp tz m w h hm
    · exact turnedThree K A v d hd hmay place hp tz m w h hm
end Go.Proofs.YtpemajghaceegabGreatDoor
