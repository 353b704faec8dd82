/- What round of the document's answer for layer 8 answers. -/
import Derived.Test.YtnldpofljeodiaaR8i
import Derived.Laws.OwnMore
namespace Go.Proofs.Ytnldpofljeodiaa
open Go.RowKit
set_option linter.unusedVariables false

theorem rangeC_at (kd : IntKind) (f : Nat → Nat) (n j : Nat) (h : j < n) : (rangeC kd f n)[j]? = some (.int kd (f j : Int)) := by simp [rangeC, h]
theorem load3 {w : World} {g o a b c : Nat} (h0 : w.cell? ⟨g, o, none⟩ = some (.int .i64 (a : Int))) (h1 : w.cell? ⟨g, o + 1, none⟩ = some (.int .i64 (b : Int))) (h2 : w.cell? ⟨g, o + 2, none⟩ = some (.int .i64 (c : Int))) : w.rangeAt g o [.int .i64 (a : Int), .int .i64 (b : Int), .int .i64 (c : Int)] := fun j v hv => by
  rcases j with _ | _ | _ | j
  · simp at hv; subst hv; exact h0
  · simp at hv; subst hv; exact h1
  · simp at hv; subst hv; exact h2
  · simp at hv
theorem rangeC_set (kd : IntKind) (f h : Nat → Nat) (n q v : Nat) (hq : q < n) (e : ∀ j, j < n → h j = if j = q then v else f j) : (rangeC kd f n).set q (.int kd (v : Int)) = rangeC kd h n := by
  apply List.ext_getElem?
  intro j
  rw [List.getElem?_set]
  by_cases hj : j < n
  · rw [rangeC_at kd h n j hj, e j hj]
    by_cases hjq : q = j
    · subst hjq; rw [if_pos rfl, if_pos rfl, if_pos (by simp [rangeC, hq])]
    · rw [if_neg hjq, if_neg (Ne.symm hjq), rangeC_at kd f n j hj]
  · have hn : ∀ f, (rangeC kd f n)[j]? = none := fun f => List.getElem?_eq_none (by simp [rangeC]; omega)
    rw [hn, hn, if_neg (by omega)]
set_option maxRecDepth 100000 in
set_option maxHeartbeats 6400000 in
theorem rRound_any (k : Nat) (hk : Kind k) (c : Nat → Nat) (hcl : ∀ j, c j < mdK k) (b : Nat → UInt8) (g : Nat) (vk vh vb sh : Value) (A : Nat) (g0 off cap : Nat) (hlc : blkN k ≤ cap) (w : World) (hH : HaAt w g k vk vh A vb) (hK : NsAt w .u64 vk (nkK k) (coS k)) (hs : NsAt w .u64 sh 8 c) (hg : g0 < w.heap.size) (hc : ∀ q, q < blkN k → w.cell? ⟨g0, off + q, none⟩ = some (.int .u8 ((b q).toNat : Int))) : Calls Try.prog 55 #[.pointer (some ⟨g, 0, none⟩), sh, .slice (some ⟨g0, off, none⟩) (blkN k) cap] w fun e w' => ∃ v, e = .returned v ∧ w'.ownsRow w.heap.size 41 1 v 8 (rangeC .u64 (afK k b c) 8) ∧ Below w.heap.size w w' := by
  have hkk : k ≤ 512 := by rcases hk with rfl | rfl | rfl | rfl <;> omega
  obtain ⟨i0, hi, hz0, hz1, hz2⟩ := info_parts Try.info41c
  have hnk := nk_le k
  obtain ⟨ak, ck, rfl, hkc, hkn⟩ := id hK
  obtain ⟨gk, ok, rfl, hgk, _⟩ := hkn 0 (by omega)
  obtain ⟨ah, ch, rfl, hhc, hhn⟩ := id hs
  obtain ⟨gh, oh, rfl, hgh, _⟩ := hhn 0 (by omega)
  have HKC : Hid (∀ q, q < nkK k → w.cell? ⟨gk, ok + q, none⟩ = some (.int .u64 (coS k q : Int))) := fun q hq => by
    obtain ⟨g', o', he, _, hh⟩ := hkn q hq
    cases he; exact hh
  have HHC : Hid (∀ q, q < 8 → w.cell? ⟨gh, oh + q, none⟩ = some (.int .u64 (c q : Int))) := fun q hq => by
    obtain ⟨g', o', he, _, hh⟩ := hhn q hq
    cases he; exact hh
  have HKD : Hid (∀ wA, Below w.heap.size w wA → KdAt wA g k) := fun wA hA => hH.kd.next hA
  have H64 : Hid (∀ wA, Below w.heap.size w wA → Calls Try.prog 64 #[.pointer (some ⟨g, 0, none⟩)] wA fun e w' => e = .returned (.agg (tuR k)) ∧ Below wA.heap.size wA w') := fun wA hA => rTurns_any g k hkk wA (HKD.out wA hA)
  have hb16 : blkN k = 16 * nbK k := by unfold blkN nbK; split <;> rfl
  have hnb8 : nbK k ≤ 8 := by unfold nbK; split <;> omega
  have H65 : Hid (∀ wA, Below w.heap.size w wA → Calls Try.prog 65 #[.pointer (some ⟨g, 0, none⟩), .slice (some ⟨g0, off, none⟩) (blkN k) cap] wA fun e w' => ∃ v, e = .returned v ∧ w'.ownsRow wA.heap.size 41 1 v 16 (rangeC .u64 (wX k b) 16) ∧ Below wA.heap.size wA w') := fun wA hA => by
    have h := rBlock_any (nbK k) hnb8 b (.pointer (some ⟨g, 0, none⟩)) g0 off cap (by omega) wA (Nat.lt_of_lt_of_le hg hA.size) (fun q hq => (hA.cell (p := ⟨g0, off + q, none⟩) hg).trans (hc q (by omega)))
    rw [hb16]
    rw [rangeC_congr .u64 (wX k b) (fun t => beTo b (t * nbK k) (nbK k)) 16 (fun j hj => wX_lo k b j hj)]
    exact h
  have H66 : Hid (∀ v : Nat, v < 18446744073709551616 → ∀ wA, Below w.heap.size w wA → Calls Try.prog 66 #[.pointer (some ⟨g, 0, none⟩), .int .u64 (v : Int)] wA fun e w' => e = .returned (.int .u64 ((v % mdK k : Nat) : Int)) ∧ Below wA.heap.size wA w') := fun v hv wA hA => (rCut_any g k hkk v hv wA (HKD.out wA hA)).mono fun e w' ⟨h1, h2⟩ => ⟨h1, by rw [h2]; exact Below.refl _ _⟩
  have hw64 : mdK k ≤ 18446744073709551616 := by unfold mdK; split <;> omega
  have HX := hidD (wX_lt k b)
  have HXN := hidD (wX_hi k b)
  have HCO := hidD (co_lt k)
  have HCL := hidD (ccK_lt k b c hcl)
  have HC0 : Hid (∀ j, ccK k b c 0 j = c j) := fun j => rfl
  have HCN : Hid (∀ t j, ccK k b c (t + 1) j = rdS (mdK k) (turnsS (wdt k) (ccK k b c t 4) (tuN k 3) (tuN k 4) (tuN k 5)) (turnsS (wdt k) (ccK k b c t 0) (tuN k 0) (tuN k 1) (tuN k 2)) ((coS k t % mdK k + wX k b t) % mdK k) (ccK k b c t) j) := fun t j => rfl
  have HS67 : Hid (∀ v i0 i1 i2 : Nat, v < mdK k → (i0 = 6 ∧ i1 = 7 ∧ i2 = 8 ∨ i0 = 9 ∧ i1 = 10 ∧ i2 = 11) → ∀ wA, Below w.heap.size w wA → Calls Try.prog 67 #[.pointer (some ⟨g, 0, none⟩), .int .u64 (v : Int), .agg #[.int .i64 (tuN k i0 : Int), .int .i64 (tuN k i1 : Int), .int .i64 (tuN k i2 : Int)], .bool true] wA fun e w' => e = .returned (.int .u64 (shiftsS (wdt k) v (tuN k i0) (tuN k i1) (tuN k i2) : Int)) ∧ Below wA.heap.size wA w') := fun v i0 i1 i2 hv hor wA hA => rThree_shifts g k hkk v _ _ _ hv (tu_le k _).1 (tu_le k _).1 (by rcases hor with ⟨_, _, rfl⟩ | ⟨_, _, rfl⟩; exact (tu_sh k).1; exact (tu_sh k).2) wA (HKD.out wA hA)
  have HT67 : Hid (∀ v i0 i1 i2 : Nat, v < mdK k → ∀ wA, Below w.heap.size w wA → Calls Try.prog 67 #[.pointer (some ⟨g, 0, none⟩), .int .u64 (v : Int), .agg #[.int .i64 (tuN k i0 : Int), .int .i64 (tuN k i1 : Int), .int .i64 (tuN k i2 : Int)], .bool false] wA fun e w' => e = .returned (.int .u64 (turnsS (wdt k) v (tuN k i0) (tuN k i1) (tuN k i2) : Int)) ∧ Below wA.heap.size wA w') := fun v i0 i1 i2 hv wA hA => rThree_turns g k hkk v _ _ _ hv (tu_le k _).1 (tu_le k _).1 (tu_le k _).1 wA (HKD.out wA hA)
  have HAF : Hid (∀ j, afK k b c j = (c j + ccK k b c (nkK k) j) % mdK k) := afK_cc k b c
  have hW2 := mdK_two k
  have HSL : Hid (∀ v i0 i1 i2, v < mdK k → shiftsS (wdt k) v (tuN k i0) (tuN k i1) (tuN k i2) < 18446744073709551616) := fun v i0 i1 i2 hv => Nat.lt_of_lt_of_le (shiftsS_lt (wdt k) v _ _ _ (by rw [← hW2]; exact hv)) (by rw [← hW2]; exact hw64)
  have HTL : Hid (∀ v i0 i1 i2, v < mdK k → turnsS (wdt k) v (tuN k i0) (tuN k i1) (tuN k i2) < 18446744073709551616) := fun v i0 i1 i2 hv => Nat.lt_of_lt_of_le (turnsS_lt (wdt k) v _ _ _ (by rw [← hW2]; exact hv)) (by rw [← hW2]; exact hw64)
  have HW64 := hidD hw64
  have HTR := hidD (tuR_row k)
  have HZS : Hid ((Try.prog.info? 113).map (·.size) = some 12) := (zero_of_info Try.zero113z).2
  obtain ⟨hz, hsz⟩ := zero_of_info Try.zero113z
  have HHA : Hid (∀ wA, Below w.heap.size w wA → wA.cell? ⟨g, 1, none⟩ = some (.slice (some ⟨gk, ok, none⟩) (nkK k) ck)) := fun wA hA => by rw [cell_of_row _ _ _ _ _ _ (hH.next hA)]; rfl
  have HKA : Hid (∀ wA, Below w.heap.size w wA → ∀ q, q < nkK k → wA.cell? ⟨gk, ok + q, none⟩ = some (.int .u64 (coS k q : Int))) := fun wA hA q hq => (hA.cell (p := ⟨gk, ok + q, none⟩) hgk).trans (HKC.out q hq)
  have HHW : Hid (∀ wA, Below w.heap.size w wA → ∀ q, q < 8 → wA.cell? ⟨gh, oh + q, none⟩ = some (.int .u64 (c q : Int))) := fun wA hA q hq => (hA.cell (p := ⟨gh, oh + q, none⟩) hgh).trans (HHC.out q hq)
  have HM := hidD hgh
  clear hH hK hs hkn hhn hg hc hb16 hnb8 hlc HKC HHC HKD hsz hW2 hw64
  generalize hZ : (#[.int .i64 0, .int .i64 0, .int .i64 0, .int .i64 0, .int .i64 0, .int .i64 0, .int .i64 0, .int .i64 0, .int .i64 0, .int .i64 0, .int .i64 0, .int .i64 0] : Array Value) = Z at *
  have HZ12 : Hid (Z.size = 12) := by show _ = _; rw [← hZ]; rfl
  clear hZ
  have HTS : Hid ((tuR k).size = 12) := by show _ = _; rw [HTR.out]; exact rowZ_size _ _ _
  have HTO : Hid ((tuR k).all (·.oneCell') = true) := by show _ = _; rw [HTR.out]; exact rowZ_one _ _ _
  have hi3 : Hid ((Try.prog.info? 113).map (·.size) = some (tuR k).size) := by show _ = _; rw [HZS.out, HTS.out]
  have HSS : Hid (Z.size = (tuR k).size) := by show _ = _; rw [HZ12.out, HTS.out]
  have HRW := hidD (rd_w k)
  have HR2 := hidD (rd_two k)
  have HR1 := hidD (rd_one k)
  have HCH := hidD (rd_ch k)
  clear HZ12 HTS HZS hkk
  generalize tuR k = TR at *
  generalize mdK k = M at *
  generalize wdt k = Wd at *
  generalize tuN k = T at *
  generalize coS k = CO at *
  generalize wX k b = X at *
  generalize ccK k b c = CC at *
  generalize afK k b c = AF at *
  generalize blkN k = BK at *
  generalize nkK k = NK at *
  go_enter Try.func55, Try.ntmps55
  go_wp2_with (first
    | (go_at_call 64; refine (H64.out _ (Below.refl _ _)).mono ?_; rintro e w1 ⟨rfl, hb1⟩; have HB1 := hidD hb1; have W1 : Hid ((w1.alloc (.cells Z (113 : TypeId))).heap[w1.heap.size]? = some (.cells Z (113 : TypeId) (0, 0))) := heap_alloc_last _ _; clear hb1)
    | (refine wpList_store_row rfl 113 _ _ rfl w1.heap.size TR rfl rfl 113 Z W1.out hi3.out HSS.out HTO.out ?_; have hl0 := laid_row w1 Z TR 113; clear W1; generalize (w1.alloc (.cells Z (113 : TypeId))).setRow w1.heap.size TR = w2 at *; have HT2 := hidD hl0.1; have HB2 := hidD (Below.next HB1.out hl0.2.1); clear hl0)
    | (go_at_call 65; refine (H65.out _ HB2.out).mono ?_; rintro e w3 ⟨vw, rfl, hown, hb3⟩; obtain ⟨aw, cw, hvw⟩ := row_shape hown; subst hvw; have HOW := hidD hown; have HB3 := hidD hb3; clear hown hb3))
  generalize w1.heap.size = g7 at *
  clear HB1 H64 H65
  clear w1
  have hg7 := row_lt HT2.out
  go_loopw [8, 9] (fun wv iv wr => ∃ t : Nat, 16 ≤ t ∧ t ≤ NK ∧ iv = .int .i64 (t : Int) ∧ wr.ownsRow w2.heap.size 41 1 wv t (rangeC .u64 X t) ∧ Below w2.heap.size w2 wr) (fun _ iv _ => NK - (intOf iv).toNat)
  case atStart => exact ⟨16, by omega, by omega, rfl, HOW.out, HB3.out⟩
  case round =>
    clear HOW HB3
    obtain ⟨t, ht16, ht, rfl, hown, hbel⟩ := hrel
    obtain ⟨gw, cw, rfl, hgw, hgl, hcw⟩ := row_shapeC hown (by omega)
    have HOW := hidD hown
    have HBL := hidD hbel
    have hwz := hbel.size
    have HBW := hidD (Below.next HB2.out hbel)
    have hck := HHA.out _ HBW.out
    clear hown hbel
    by_cases hlt : t < NK
    · have hlti : (t : Int) < (NK : Int) := by omega
      have hXC : Hid (∀ q, q < t → wr.cell? ⟨gw, q, none⟩ = some (.int .u64 (X q : Int))) := fun q hq => (HOW.out.cellAt q (by omega)).trans (rangeC_at .u64 X t q hq)
      have hTB : Hid (wr.heap[g7]? = some (.cells TR (113 : TypeId) (0, 0))) := (HBL.out.block _ hg7).trans HT2.out
      have hTC : Hid (∀ q, q < 12 → wr.cell? ⟨g7, q, none⟩ = some (.int .i64 (T q : Int))) := fun q hq => by rw [cell_of_row _ _ _ _ _ _ hTB.out, HTR.out]; exact rowZ_get .i64 12 _ q hq
      have HKK : Hid (∀ wB, Below wr.heap.size wr wB → ∃ i : KB wr [g7, gw], wB = i.v) := fun wB hb => ⟨⟨wB, fun x hx => by
        have hx : x = g7 ∨ x = gw := by simpa using hx
        rcases hx with rfl | rfl
        · exact hb.block _ (row_lt hTB.out)
        · exact hb.block _ hgl⟩, rfl⟩
      have e6 : ∀ i : KB wr [g7, gw], i.v.cell? ⟨g7, 6, none⟩ = some (.int .i64 (T 6 : Int)) := fun i => (i.cell (b := g7) (by simp) _).trans (hTC.out 6 (by omega))
      have e7 : ∀ i : KB wr [g7, gw], i.v.cell? ⟨g7, 7, none⟩ = some (.int .i64 (T 7 : Int)) := fun i => (i.cell (b := g7) (by simp) _).trans (hTC.out 7 (by omega))
      have e8 : ∀ i : KB wr [g7, gw], i.v.cell? ⟨g7, 8, none⟩ = some (.int .i64 (T 8 : Int)) := fun i => (i.cell (b := g7) (by simp) _).trans (hTC.out 8 (by omega))
      have e9 : ∀ i : KB wr [g7, gw], i.v.cell? ⟨g7, 9, none⟩ = some (.int .i64 (T 9 : Int)) := fun i => (i.cell (b := g7) (by simp) _).trans (hTC.out 9 (by omega))
      have e10 : ∀ i : KB wr [g7, gw], i.v.cell? ⟨g7, 10, none⟩ = some (.int .i64 (T 10 : Int)) := fun i => (i.cell (b := g7) (by simp) _).trans (hTC.out 10 (by omega))
      have e11 : ∀ i : KB wr [g7, gw], i.v.cell? ⟨g7, 11, none⟩ = some (.int .i64 (T 11 : Int)) := fun i => (i.cell (b := g7) (by simp) _).trans (hTC.out 11 (by omega))
      have x2 : ∀ i : KB wr [g7, gw], i.v.cell? ⟨gw, t - 2, none⟩ = some (.int .u64 (X (t - 2) : Int)) := fun i => (i.cell (b := gw) (by simp) _).trans (hXC.out _ (by omega))
      have x7 : ∀ i : KB wr [g7, gw], i.v.cell? ⟨gw, t - 7, none⟩ = some (.int .u64 (X (t - 7) : Int)) := fun i => (i.cell (b := gw) (by simp) _).trans (hXC.out _ (by omega))
      have x15 : ∀ i : KB wr [g7, gw], i.v.cell? ⟨gw, t - 15, none⟩ = some (.int .u64 (X (t - 15) : Int)) := fun i => (i.cell (b := gw) (by simp) _).trans (hXC.out _ (by omega))
      have x16 : ∀ i : KB wr [g7, gw], i.v.cell? ⟨gw, t - 16, none⟩ = some (.int .u64 (X (t - 16) : Int)) := fun i => (i.cell (b := gw) (by simp) _).trans (hXC.out _ (by omega))
      have t2 : (t : Int) - 2 = ((t - 2 : Nat) : Int) := by omega
      have t7 : (t : Int) - 7 = ((t - 7 : Nat) : Int) := by omega
      have t15 : (t : Int) - 15 = ((t - 15 : Nat) : Int) := by omega
      have t16 : (t : Int) - 16 = ((t - 16 : Nat) : Int) := by omega
      have l2 : t - 2 < t := by omega
      have l7 : t - 7 < t := by omega
      have l15 : t - 15 < t := by omega
      have l16 : t - 16 < t := by omega
      have y7 := Nat.lt_of_lt_of_le (HX.out (t - 7)) HW64.out
      have y16 := Nat.lt_of_lt_of_le (HX.out (t - 16)) HW64.out
      have HA2 := hidD (HS67.out (X (t - 2)) 9 10 11 (HX.out _) (by omega))
      have HA15 := hidD (HS67.out (X (t - 15)) 6 7 8 (HX.out _) (by omega))
      have z2 := HSL.out (X (t - 2)) 9 10 11 (HX.out _)
      have z15 := HSL.out (X (t - 15)) 6 7 8 (HX.out _)
      have y2 := Nat.lt_of_lt_of_le (HX.out (t - 2)) HW64.out
      have y15 := Nat.lt_of_lt_of_le (HX.out (t - 15)) HW64.out
      have hxt := HXN.out t ht16 hlt
      rw [← HRW.out] at hxt
      generalize shiftsS Wd (X (t - 2)) (T 9) (T 10) (T 11) = Z2 at *
      generalize shiftsS Wd (X (t - 15)) (T 6) (T 7) (T 8) = Z15 at *
      have HRN : Hid (rangeC .u64 X (t + 1) = rangeC .u64 X t ++ [.int .u64 (X t : Int)]) := rangeC_next _ _ _
      have hXT := HX.out t
      generalize X (t - 2) = X2 at *
      generalize X (t - 7) = X7 at *
      generalize X (t - 15) = X15 at *
      generalize X (t - 16) = X16 at *
      have a1 : IntKind.u64.wrap ((Z2 : Int) + (X7 : Int)) = (((Z2 + X7) % 18446744073709551616 : Nat) : Int) := by rw [IntKind.wrap_u64]; omega
      have a2 : IntKind.u64.wrap ((((Z2 + X7) % 18446744073709551616 : Nat) : Int) + (Z15 : Int)) = ((((Z2 + X7) % 18446744073709551616 + Z15) % 18446744073709551616 : Nat) : Int) := by rw [IntKind.wrap_u64]; omega
      have a3 : IntKind.u64.wrap (((((Z2 + X7) % 18446744073709551616 + Z15) % 18446744073709551616 : Nat) : Int) + (X16 : Int)) = (((((Z2 + X7) % 18446744073709551616 + Z15) % 18446744073709551616 + X16) % 18446744073709551616 : Nat) : Int) := by rw [IntKind.wrap_u64]; omega
      have hN3 : (((Z2 + X7) % 18446744073709551616 + Z15) % 18446744073709551616 + X16) % 18446744073709551616 < 18446744073709551616 := Nat.mod_lt _ (by omega)
      have HCT := hidD (H66.out _ hN3)
      rw [← hxt] at HCT
      clear hxt
      generalize (((Z2 + X7) % 18446744073709551616 + Z15) % 18446744073709551616 + X16) % 18446744073709551616 = N3 at *
      generalize ((Z2 + X7) % 18446744073709551616 + Z15) % 18446744073709551616 = N2 at *
      generalize (Z2 + X7) % 18446744073709551616 = N1 at *
      generalize X t = XT at *
      generalize hRG : rangeC .u64 X t = RG at *
      clear hRG
      generalize t - 2 = q2 at *
      generalize t - 7 = q7 at *
      generalize t - 15 = q15 at *
      generalize t - 16 = q16 at *
      have HDR : Hid (Below wr.heap.size wr wr.drew) := (Below.refl _ _).drew
      have HBN : Hid (∀ wB, Below wr.heap.size wr wB → Below w.heap.size w wB) := fun wB h => Below.next HBW.out h
      go_wp2_with fail
      clear hck
      refine wp_region_seg [0, 0, 0, 0, 0, 0, 0, 0, 0, 0, 1, 0, 0, 0, 0, 0, 2, 0, 0, 0, 0, 0, 0, 0, 0, 3, 4, 0, 0, 0, 0, 0, 4, 5, 7, 99, 99] 4 35 [g7, gw] (by kernel_rfl) (by kernel_rfl) (by kernel_rfl) (by kernel_rfl) (by kernel_rfl) (by kernel_rfl) (by kernel_rfl) (by kernel_rfl) (fun _ _ _ _ _ h => h) ?_
      simp only [SegW, pk, Nat.reduceMul, Nat.reduceAdd, Nat.reduceBEq, cond_true, cond_false]
      repeat (go_big_quiet_step (fail))
      refine wpQuiet_nil ?_
      go_wp2_with (go_at_call 67; refine (HA2.out _ (HBN.out _ HDR.out)).mono ?_; rintro e w5 ⟨rfl, hb5⟩)
      have HB5 : Hid (Below wr.heap.size wr w5) := HDR.out.trans hb5
      clear hb5
      refine ⟨HKK.out _ HB5.out, ?_⟩
      repeat (go_big_quiet_step (fail))
      refine wpQuiet_nil ?_
      go_wp2_with (go_at_call 67; refine (HA15.out _ (HBN.out _ HB5.out)).mono ?_; rintro e w6 ⟨rfl, hb6⟩)
      have HB6 := hidD (Below.next HB5.out hb6)
      clear hb6
      refine ⟨HKK.out _ HB6.out, ?_⟩
      repeat (go_big_quiet_step (fail))
      refine wpQuiet_nil ?_
      go_wp2_with (go_at_call 66; refine (HCT.out _ (HBN.out _ HB6.out)).mono ?_; rintro e w7 ⟨rfl, hb7⟩)
      have HB7 := hidD (Below.next HB6.out hb7)
      clear hb7
      have hw7 := HB7.out.size
      refine ⟨HKK.out _ HB7.out, ?_⟩
      refine wpQuiet_nil ?_
      go_wp2_with fail
      refine ⟨HKK.out _ (HB7.out.alloc hw7 _), ?_⟩
      refine wpQuiet_nil ?_
      go_wp2_with (at_builtin; refine wpList_append_own _ rfl _ _ 52 rfl w2.heap.size 41 i0 (.int .u64 0) 1 8 Try.underlying52 hi hz0 hz1 hz2 rfl (by decide) (.slice (some ⟨gw, 0, none⟩) t cw) t RG rfl (row_below HOW.out (HB7.out.alloc hw7 _)) ⟨w7.heap.size, 0, none⟩ 1 1 [.int .u64 (XT : Int)] rfl rfl (new_cell1 w7 _ _) (by simp [Value.oneCell']) (by unfold maxLen; omega) (by omega) (by simp; omega) ?_; intro v4 w4 hown4 hg4 hnil4; have HB4 := hidD (row_grown (row_below HOW.out (HB7.out.alloc hw7 _)) (HBL.out.trans ((HB7.out.alloc hw7 _).mono hwz)) hg4 (by simp; omega)); clear hg4 hnil4)
      go_roundw
      case rel =>
        first
        | exact ⟨t + 1, by omega, by omega, by go_num, by rw [HRN.out]; exact hown4, HB4.out⟩
        | ((repeat apply Exists.intro); refine And.intro ?_ rfl; exact ⟨t + 1, by omega, by omega, by go_num, by rw [HRN.out]; exact hown4, HB4.out⟩)
      case measure => simp [intOf]; omega
    · obtain rfl : NK = t := by omega
      have hXC : Hid (∀ q, q < NK → wr.cell? ⟨gw, q, none⟩ = some (.int .u64 (X q : Int))) := fun q hq => (HOW.out.cellAt q (by omega)).trans (rangeC_at .u64 X NK q hq)
      obtain ⟨wl, hwl⟩ : ∃ wl : World, wl = wr := ⟨_, rfl⟩
      subst hwl
      clear HS67 HSL HXN HRW
      have HDR : Hid (Below wl.heap.size wl (wl.alloc (.cells #[] (41 : TypeId)))) := (Below.refl _ _).alloc (Nat.le_refl _) _
      have HH8 : Hid (∀ j u, (rangeC .u64 c 8)[j]? = some u → (wl.alloc (.cells #[] (41 : TypeId))).cell? ((⟨gh, oh, none⟩ : Addr).add j) = some u) := fun j u hu => by
        have hj : j < 8 := by
          have := (List.getElem?_eq_some_iff.1 hu).1
          simpa [rangeC] using this
        rw [rangeC_at .u64 c 8 j hj] at hu
        rw [Go.WideShapes.add_plain, HHW.out _ (Below.next HBW.out HDR.out) j hj]; exact hu
      have HO8 : Hid (∀ u ∈ rangeC .u64 c 8, u.oneCell' = true) := fun u hu => by
        simp only [rangeC, List.mem_map] at hu
        obtain ⟨i, _, rfl⟩ := hu; rfl
      have HL8 : Hid ((rangeC .u64 c 8).length = 8 * 1) := by simp [rangeC, Hid]
      have HE0 : Hid (rangeC .u64 (CC 0) 8 = rangeC .u64 c 8) := rangeC_congr .u64 _ _ 8 (fun j _ => HC0.out j)
      generalize hRC : rangeC .u64 c 8 = RC at *
      clear hRC
      go_wp2_with (at_builtin; refine wpList_append_own _ rfl _ _ 52 rfl wl.heap.size 41 i0 (.int .u64 0) 1 8 Try.underlying52 hi hz0 hz1 hz2 rfl (by decide) (.slice (some ⟨wl.heap.size, 0, none⟩) 0 0) 0 [] rfl (World.ownsRow_made wl #[] 0 (Nat.le_refl _) (by unfold maxLen; omega) rfl) ⟨gh, oh, none⟩ 8 ch RC rfl HL8.out HH8.out HO8.out (by unfold maxLen; omega) (by omega) (by simp) ?_; intro v4 w4 hown4 hg4 hnil4; have HB4 := hidD (row_grown (World.ownsRow_made (base := wl.heap.size) (e := 41) (size := 1) wl #[] 0 (Nat.le_refl _) (by unfold maxLen; omega) rfl) HDR.out hg4 (by simp)); clear hg4 hnil4; rw [List.nil_append, Nat.zero_add] at hown4; obtain ⟨a4, c4, hv4⟩ := row_shape hown4; subst hv4; have HO4 := hidD hown4; clear hown4)
      clear hck
      have HBL1 := hidD HBL.out
      have hgwl := hgl
      clear HBL hgl hlt
      go_loopw [10, 11] (fun vv iv wr => ∃ q : Nat, q ≤ NK ∧ iv = .int .i64 (q : Int) ∧ wr.ownsRow wl.heap.size 41 1 vv 8 (rangeC .u64 (CC q) 8) ∧ Below wl.heap.size wl wr) (fun _ iv _ => NK - (intOf iv).toNat)
      case atStart => exact ⟨0, by omega, rfl, by rw [HE0.out]; exact HO4.out, HB4.out⟩
      case round =>
        obtain ⟨t, ht, rfl, hown, hbel⟩ := hrel
        obtain ⟨gv, cv, rfl, hgv, hgl, hcv⟩ := row_shapeC hown (by omega)
        have HOW := hidD hown
        have HBL := hidD hbel
        have HBW2 := hidD (Below.next HBW.out hbel)
        have hwz := hbel.size
        have hck := HHA.out _ HBW2.out
        clear hown hbel
        by_cases hlt : t < NK
        · have hlti : (t : Int) < (NK : Int) := by omega
          have HBX : Hid (∀ wA, Below wr.heap.size wr wA → Below w2.heap.size w2 wA) := fun wA h => Below.next HBL1.out (Below.next HBL.out h)
          have HBY : Hid (∀ wA, Below wr.heap.size wr wA → Below w.heap.size w wA) := fun wA h => Below.next HBW2.out h
          have C0 : Hid (∀ wA, Below wr.heap.size wr wA → wA.cell? ⟨gv, 0, none⟩ = some (.int .u64 (CC t 0 : Int))) := fun wA h => (h.cell (p := ⟨gv, 0, none⟩) hgl).trans ((HOW.out.cellAt 0 (by omega)).trans (rangeC_at .u64 (CC t) 8 0 (by omega)))
          have C1 : Hid (∀ wA, Below wr.heap.size wr wA → wA.cell? ⟨gv, 1, none⟩ = some (.int .u64 (CC t 1 : Int))) := fun wA h => (h.cell (p := ⟨gv, 1, none⟩) hgl).trans ((HOW.out.cellAt 1 (by omega)).trans (rangeC_at .u64 (CC t) 8 1 (by omega)))
          have C2 : Hid (∀ wA, Below wr.heap.size wr wA → wA.cell? ⟨gv, 2, none⟩ = some (.int .u64 (CC t 2 : Int))) := fun wA h => (h.cell (p := ⟨gv, 2, none⟩) hgl).trans ((HOW.out.cellAt 2 (by omega)).trans (rangeC_at .u64 (CC t) 8 2 (by omega)))
          have C3 : Hid (∀ wA, Below wr.heap.size wr wA → wA.cell? ⟨gv, 3, none⟩ = some (.int .u64 (CC t 3 : Int))) := fun wA h => (h.cell (p := ⟨gv, 3, none⟩) hgl).trans ((HOW.out.cellAt 3 (by omega)).trans (rangeC_at .u64 (CC t) 8 3 (by omega)))
          have C4 : Hid (∀ wA, Below wr.heap.size wr wA → wA.cell? ⟨gv, 4, none⟩ = some (.int .u64 (CC t 4 : Int))) := fun wA h => (h.cell (p := ⟨gv, 4, none⟩) hgl).trans ((HOW.out.cellAt 4 (by omega)).trans (rangeC_at .u64 (CC t) 8 4 (by omega)))
          have C5 : Hid (∀ wA, Below wr.heap.size wr wA → wA.cell? ⟨gv, 5, none⟩ = some (.int .u64 (CC t 5 : Int))) := fun wA h => (h.cell (p := ⟨gv, 5, none⟩) hgl).trans ((HOW.out.cellAt 5 (by omega)).trans (rangeC_at .u64 (CC t) 8 5 (by omega)))
          have C6 : Hid (∀ wA, Below wr.heap.size wr wA → wA.cell? ⟨gv, 6, none⟩ = some (.int .u64 (CC t 6 : Int))) := fun wA h => (h.cell (p := ⟨gv, 6, none⟩) hgl).trans ((HOW.out.cellAt 6 (by omega)).trans (rangeC_at .u64 (CC t) 8 6 (by omega)))
          have C7 : Hid (∀ wA, Below wr.heap.size wr wA → wA.cell? ⟨gv, 7, none⟩ = some (.int .u64 (CC t 7 : Int))) := fun wA h => (h.cell (p := ⟨gv, 7, none⟩) hgl).trans ((HOW.out.cellAt 7 (by omega)).trans (rangeC_at .u64 (CC t) 8 7 (by omega)))
          have TB0 : Hid (∀ wA, Below wr.heap.size wr wA → wA.cell? ⟨g7, 0, none⟩ = some (.int .i64 (T 0 : Int))) := fun wA h => by rw [cell_of_row _ _ _ _ _ _ ((HBX.out wA h).block _ hg7 |>.trans HT2.out), HTR.out]; exact rowZ_get .i64 12 _ 0 (by omega)
          have TB1 : Hid (∀ wA, Below wr.heap.size wr wA → wA.cell? ⟨g7, 1, none⟩ = some (.int .i64 (T 1 : Int))) := fun wA h => by rw [cell_of_row _ _ _ _ _ _ ((HBX.out wA h).block _ hg7 |>.trans HT2.out), HTR.out]; exact rowZ_get .i64 12 _ 1 (by omega)
          have TB2 : Hid (∀ wA, Below wr.heap.size wr wA → wA.cell? ⟨g7, 2, none⟩ = some (.int .i64 (T 2 : Int))) := fun wA h => by rw [cell_of_row _ _ _ _ _ _ ((HBX.out wA h).block _ hg7 |>.trans HT2.out), HTR.out]; exact rowZ_get .i64 12 _ 2 (by omega)
          have TB3 : Hid (∀ wA, Below wr.heap.size wr wA → wA.cell? ⟨g7, 3, none⟩ = some (.int .i64 (T 3 : Int))) := fun wA h => by rw [cell_of_row _ _ _ _ _ _ ((HBX.out wA h).block _ hg7 |>.trans HT2.out), HTR.out]; exact rowZ_get .i64 12 _ 3 (by omega)
          have TB4 : Hid (∀ wA, Below wr.heap.size wr wA → wA.cell? ⟨g7, 4, none⟩ = some (.int .i64 (T 4 : Int))) := fun wA h => by rw [cell_of_row _ _ _ _ _ _ ((HBX.out wA h).block _ hg7 |>.trans HT2.out), HTR.out]; exact rowZ_get .i64 12 _ 4 (by omega)
          have TB5 : Hid (∀ wA, Below wr.heap.size wr wA → wA.cell? ⟨g7, 5, none⟩ = some (.int .i64 (T 5 : Int))) := fun wA h => by rw [cell_of_row _ _ _ _ _ _ ((HBX.out wA h).block _ hg7 |>.trans HT2.out), HTR.out]; exact rowZ_get .i64 12 _ 5 (by omega)
          have CK : Hid (∀ wA, Below wr.heap.size wr wA → wA.cell? ⟨g, 1, none⟩ = some (.slice (some ⟨gk, ok, none⟩) NK ck)) := fun wA h => HHA.out wA (HBY.out wA h)
          have CKT : Hid (∀ wA, Below wr.heap.size wr wA → wA.cell? ⟨gk, ok + t, none⟩ = some (.int .u64 (CO t : Int))) := fun wA h => HKA.out wA (HBY.out wA h) t hlt
          have CXT : Hid (∀ wA, Below wr.heap.size wr wA → wA.cell? ⟨gw, t, none⟩ = some (.int .u64 (X t : Int))) := fun wA h => ((Below.next HBL.out h).cell (p := ⟨gw, t, none⟩) hgwl).trans (hXC.out t hlt)
          have HAE := hidD (fun wA h => HT67.out (CC t 4) 3 4 5 (HCL.out t 4) wA (HBY.out wA h))
          have HAA := hidD (fun wA h => HT67.out (CC t 0) 0 1 2 (HCL.out t 0) wA (HBY.out wA h))
          have zE := HTL.out (CC t 4) 3 4 5 (HCL.out t 4)
          have zA := HTL.out (CC t 0) 0 1 2 (HCL.out t 0)
          have hnew := fun j => HCN.out t j
          have hco := HCO.out t
          have hxt := Nat.lt_of_lt_of_le (HX.out t) HW64.out
          have m6 := HCL.out t 6
          have k0 := Nat.lt_of_lt_of_le (HCL.out t 0) HW64.out
          have k1 := Nat.lt_of_lt_of_le (HCL.out t 1) HW64.out
          have k2 := Nat.lt_of_lt_of_le (HCL.out t 2) HW64.out
          have k3 := Nat.lt_of_lt_of_le (HCL.out t 3) HW64.out
          have k4 := Nat.lt_of_lt_of_le (HCL.out t 4) HW64.out
          have k5 := Nat.lt_of_lt_of_le (HCL.out t 5) HW64.out
          have k6 := Nat.lt_of_lt_of_le (HCL.out t 6) HW64.out
          have k7 := Nat.lt_of_lt_of_le (HCL.out t 7) HW64.out
          generalize turnsS Wd (CC t 4) (T 3) (T 4) (T 5) = TE at *
          generalize turnsS Wd (CC t 0) (T 0) (T 1) (T 2) = TA at *
          have HRJ : Hid (rangeC .u64 (CC (t + 1)) 8 = [.int .u64 (CC (t + 1) 0 : Int), .int .u64 (CC t 0 : Int), .int .u64 (CC t 1 : Int), .int .u64 (CC t 2 : Int), .int .u64 (CC (t + 1) 4 : Int), .int .u64 (CC t 4 : Int), .int .u64 (CC t 5 : Int), .int .u64 (CC t 6 : Int)]) := by
            show [Value.int .u64 (CC (t + 1) 0 : Int), .int .u64 (CC (t + 1) 1 : Int), .int .u64 (CC (t + 1) 2 : Int), .int .u64 (CC (t + 1) 3 : Int), .int .u64 (CC (t + 1) 4 : Int), .int .u64 (CC (t + 1) 5 : Int), .int .u64 (CC (t + 1) 6 : Int), .int .u64 (CC (t + 1) 7 : Int)] = _
            rw [hnew 1, hnew 2, hnew 3, hnew 5, hnew 6, hnew 7]; rfl
          have hn0 : CC (t + 1) 0 = (r1S M TE (CC t 7) (chS M (CC t 4) (CC t 5) (CC t 6)) ((CO t % M + X t) % M) + r2S M TA (maS (CC t 0) (CC t 1) (CC t 2))) % M := hnew 0
          have hn4 : CC (t + 1) 4 = (CC t 3 + r1S M TE (CC t 7) (chS M (CC t 4) (CC t 5) (CC t 6)) ((CO t % M + X t) % M)) % M := hnew 4
          rw [← HR1.out, ← HCH.out _ _ _ m6] at hn0 hn4
          rw [show r2S M TA (maS (CC t 0) (CC t 1) (CC t 2)) = (TA + maS (CC t 0) (CC t 1) (CC t 2)) % M from rfl, ← HR2.out TA (maS _ _ _), ← HR2.out] at hn0
          rw [← HR2.out (CC t 3)] at hn4
          clear hnew m6
          generalize hc0 : CC t 0 = c0 at *
          generalize hc1 : CC t 1 = c1 at *
          generalize hc2 : CC t 2 = c2 at *
          generalize hc3 : CC t 3 = c3 at *
          generalize hc4 : CC t 4 = c4 at *
          generalize hc5 : CC t 5 = c5 at *
          generalize hc6 : CC t 6 = c6 at *
          generalize hc7 : CC t 7 = c7 at *
          clear hc0 hc1 hc2 hc3 hc4 hc5 hc6 hc7
          generalize CC (t + 1) 0 = N0 at *
          generalize CC (t + 1) 4 = N4 at *
          generalize CO t = ct at *
          generalize X t = xt at *
          have a1 : IntKind.u64.wrap ((c7 : Int) + (TE : Int)) = (((c7 + TE) % 18446744073709551616 : Nat) : Int) := by rw [IntKind.wrap_u64]; omega
          have a2 : bits .and .u64 (c4 : Int) (c5 : Int) = ((c4 &&& c5 : Nat) : Int) := u64_and_nat _ _ k4 k5
          have a3 : bits .xor .u64 (if IntKind.u64.signed = true then -1 else IntKind.u64.max) (c4 : Int) = ((18446744073709551615 ^^^ c4 : Nat) : Int) := u64_xor_nat 18446744073709551615 c4 (by omega) k4
          have p3 : (18446744073709551615 ^^^ c4) < 18446744073709551616 := Nat.xor_lt_two_pow (n := 64) (show 18446744073709551615 < 18446744073709551616 by omega) k4
          have a4 : bits .and .u64 ((18446744073709551615 ^^^ c4 : Nat) : Int) (c6 : Int) = (((18446744073709551615 ^^^ c4) &&& c6 : Nat) : Int) := u64_and_nat _ _ p3 k6
          have p4 : (c4 &&& c5) < 18446744073709551616 := Nat.lt_of_le_of_lt Nat.and_le_left k4
          have p5 : ((18446744073709551615 ^^^ c4) &&& c6) < 18446744073709551616 := Nat.lt_of_le_of_lt Nat.and_le_right k6
          have a5 : bits .xor .u64 ((c4 &&& c5 : Nat) : Int) (((18446744073709551615 ^^^ c4) &&& c6 : Nat) : Int) = (((c4 &&& c5) ^^^ ((18446744073709551615 ^^^ c4) &&& c6) : Nat) : Int) := u64_xor_nat _ _ p4 p5
          have p6 : ((c4 &&& c5) ^^^ ((18446744073709551615 ^^^ c4) &&& c6)) < 18446744073709551616 := Nat.xor_lt_two_pow (n := 64) p4 p5
          generalize ((c4 &&& c5) ^^^ ((18446744073709551615 ^^^ c4) &&& c6)) = CHV at *
          have b1 : bits .and .u64 (c0 : Int) (c1 : Int) = ((c0 &&& c1 : Nat) : Int) := u64_and_nat _ _ k0 k1
          have b2 : bits .and .u64 (c0 : Int) (c2 : Int) = ((c0 &&& c2 : Nat) : Int) := u64_and_nat _ _ k0 k2
          have b3 : bits .and .u64 (c1 : Int) (c2 : Int) = ((c1 &&& c2 : Nat) : Int) := u64_and_nat _ _ k1 k2
          have q1 : (c0 &&& c1) < 18446744073709551616 := Nat.lt_of_le_of_lt Nat.and_le_left k0
          have q2 : (c0 &&& c2) < 18446744073709551616 := Nat.lt_of_le_of_lt Nat.and_le_left k0
          have q3 : (c1 &&& c2) < 18446744073709551616 := Nat.lt_of_le_of_lt Nat.and_le_left k1
          have b4 : bits .xor .u64 ((c0 &&& c1 : Nat) : Int) ((c0 &&& c2 : Nat) : Int) = (((c0 &&& c1) ^^^ (c0 &&& c2) : Nat) : Int) := u64_xor_nat _ _ q1 q2
          have q4 : ((c0 &&& c1) ^^^ (c0 &&& c2)) < 18446744073709551616 := Nat.xor_lt_two_pow (n := 64) q1 q2
          have b5 : bits .xor .u64 (((c0 &&& c1) ^^^ (c0 &&& c2) : Nat) : Int) ((c1 &&& c2 : Nat) : Int) = (maS c0 c1 c2 : Int) := u64_xor_nat _ _ q4 q3
          have q5 : maS c0 c1 c2 < 18446744073709551616 := Nat.xor_lt_two_pow (n := 64) q4 q3
          have d1 : IntKind.u64.wrap ((((c7 + TE) % 18446744073709551616 : Nat) : Int) + (CHV : Int)) = ((((c7 + TE) % 18446744073709551616 + CHV) % 18446744073709551616 : Nat) : Int) := by rw [IntKind.wrap_u64]; omega
          have d2 : IntKind.u64.wrap (((((c7 + TE) % 18446744073709551616 + CHV) % 18446744073709551616 : Nat) : Int) + (ct : Int)) = (((((c7 + TE) % 18446744073709551616 + CHV) % 18446744073709551616 + ct) % 18446744073709551616 : Nat) : Int) := by rw [IntKind.wrap_u64]; omega
          have d3 : IntKind.u64.wrap ((((((c7 + TE) % 18446744073709551616 + CHV) % 18446744073709551616 + ct) % 18446744073709551616 : Nat) : Int) + (xt : Int)) = ((((((c7 + TE) % 18446744073709551616 + CHV) % 18446744073709551616 + ct) % 18446744073709551616 + xt) % 18446744073709551616 : Nat) : Int) := by rw [IntKind.wrap_u64]; omega
          have d4 : IntKind.u64.wrap ((TA : Int) + (maS c0 c1 c2 : Int)) = (((TA + maS c0 c1 c2) % 18446744073709551616 : Nat) : Int) := by rw [IntKind.wrap_u64]; omega
          have s1l : ((((c7 + TE) % 18446744073709551616 + CHV) % 18446744073709551616 + ct) % 18446744073709551616 + xt) % 18446744073709551616 < 18446744073709551616 := Nat.mod_lt _ (by omega)
          have s2l : (TA + maS c0 c1 c2) % 18446744073709551616 < 18446744073709551616 := Nat.mod_lt _ (by omega)
          have HC1 := hidD (fun wA h => H66.out _ s1l wA (HBY.out wA h))
          have HC2 := hidD (fun wA h => H66.out _ s2l wA (HBY.out wA h))
          clear p3 p4 p5 p6 q1 q2 q3 q4 q5
          generalize ((((c7 + TE) % 18446744073709551616 + CHV) % 18446744073709551616 + ct) % 18446744073709551616 + xt) % 18446744073709551616 = S4 at *
          generalize (((c7 + TE) % 18446744073709551616 + CHV) % 18446744073709551616 + ct) % 18446744073709551616 = S3 at *
          generalize ((c7 + TE) % 18446744073709551616 + CHV) % 18446744073709551616 = S2 at *
          generalize (c7 + TE) % 18446744073709551616 = S1 at *
          generalize (TA + maS c0 c1 c2) % 18446744073709551616 = R1 at *
          generalize maS c0 c1 c2 = MA at *
          generalize ((18446744073709551615 ^^^ c4) &&& c6) = N6 at *
          generalize (18446744073709551615 ^^^ c4) = N5 at *
          generalize ((c0 &&& c1) ^^^ (c0 &&& c2)) = M3 at *
          generalize (c0 &&& c1) = M0 at *
          generalize (c0 &&& c2) = M1 at *
          generalize (c1 &&& c2) = M2 at *
          generalize (c4 &&& c5) = N7 at *
          have oneL : S4 % M < 18446744073709551616 := Nat.lt_of_le_of_lt (Nat.mod_le _ _) s1l
          have twoL : R1 % M < 18446744073709551616 := Nat.lt_of_le_of_lt (Nat.mod_le _ _) s2l
          generalize S4 % M = ONE at *
          generalize R1 % M = TWO at *
          have d5 : IntKind.u64.wrap ((ONE : Int) + (TWO : Int)) = (((ONE + TWO) % 18446744073709551616 : Nat) : Int) := by rw [IntKind.wrap_u64]; omega
          have d6 : IntKind.u64.wrap ((c3 : Int) + (ONE : Int)) = (((c3 + ONE) % 18446744073709551616 : Nat) : Int) := by rw [IntKind.wrap_u64]; omega
          have HC3 := hidD (fun wA h => H66.out ((ONE + TWO) % 18446744073709551616) (Nat.mod_lt _ (by omega)) wA (HBY.out wA h))
          have HC4 := hidD (fun wA h => H66.out ((c3 + ONE) % 18446744073709551616) (Nat.mod_lt _ (by omega)) wA (HBY.out wA h))
          rw [← hn0] at HC3
          rw [← hn4] at HC4
          have s5l : (ONE + TWO) % 18446744073709551616 < 18446744073709551616 := Nat.mod_lt _ (by omega)
          have s6l : (c3 + ONE) % 18446744073709551616 < 18446744073709551616 := Nat.mod_lt _ (by omega)
          clear hn0 hn4
          generalize (ONE + TWO) % 18446744073709551616 = S5 at *
          generalize (c3 + ONE) % 18446744073709551616 = S6 at *
          go_wp2_with fail
          clear hck
          have f7 : ∀ i : BW wr, i.v.cell? ⟨gv, 7, none⟩ = some (.int .u64 (c7 : Int)) := fun i => C7.out _ (i.below)
          have f4 : ∀ i : BW wr, i.v.cell? ⟨gv, 4, none⟩ = some (.int .u64 (c4 : Int)) := fun i => C4.out _ (i.below)
          have f5 : ∀ i : BW wr, i.v.cell? ⟨gv, 5, none⟩ = some (.int .u64 (c5 : Int)) := fun i => C5.out _ (i.below)
          have f6 : ∀ i : BW wr, i.v.cell? ⟨gv, 6, none⟩ = some (.int .u64 (c6 : Int)) := fun i => C6.out _ (i.below)
          have f3 : ∀ i : BW wr, i.v.cell? ⟨gv, 3, none⟩ = some (.int .u64 (c3 : Int)) := fun i => C3.out _ (i.below)
          have e3 : ∀ i : BW wr, i.v.cell? ⟨g7, 3, none⟩ = some (.int .i64 (T 3 : Int)) := fun i => TB3.out _ (i.below)
          have e4 : ∀ i : BW wr, i.v.cell? ⟨g7, 4, none⟩ = some (.int .i64 (T 4 : Int)) := fun i => TB4.out _ (i.below)
          have e5 : ∀ i : BW wr, i.v.cell? ⟨g7, 5, none⟩ = some (.int .i64 (T 5 : Int)) := fun i => TB5.out _ (i.below)
          have u1 : ∀ i : BW wr, i.v.cell? ⟨g, 1, none⟩ = some (.slice (some ⟨gk, ok, none⟩) NK ck) := fun i => CK.out _ i.below
          have u2 : ∀ i : BW wr, i.v.cell? ⟨gk, ok + t, none⟩ = some (.int .u64 (ct : Int)) := fun i => CKT.out _ i.below
          have u3 : ∀ i : BW wr, i.v.cell? ⟨gw, t, none⟩ = some (.int .u64 (xt : Int)) := fun i => CXT.out _ i.below
          refine wp_region_below (by kernel_rfl) (by kernel_rfl) ?_
          repeat (go_big_quiet_step (first | (go_at_call 67; exact Calls.below_of (HAE.out _ (BW.below _))) | (go_at_call 66; exact Calls.below_of (HC1.out _ (BW.below _)))))
          refine wpQuiet_nil ?_
          intro i1
          have hb1 : Hid (Below wr.heap.size wr i1.v) := i1.below
          generalize i1.v = v1 at *
          clear f3 f4 f5 f6 f7 e3 e4 e5 u1 u2 u3
          go_wp2_with fail
          have f0 : ∀ i : BW v1, i.v.cell? ⟨gv, 0, none⟩ = some (.int .u64 (c0 : Int)) := fun i => C0.out _ (Below.next hb1.out i.below)
          have f1 : ∀ i : BW v1, i.v.cell? ⟨gv, 1, none⟩ = some (.int .u64 (c1 : Int)) := fun i => C1.out _ (Below.next hb1.out i.below)
          have f2 : ∀ i : BW v1, i.v.cell? ⟨gv, 2, none⟩ = some (.int .u64 (c2 : Int)) := fun i => C2.out _ (Below.next hb1.out i.below)
          have e0 : ∀ i : BW v1, i.v.cell? ⟨g7, 0, none⟩ = some (.int .i64 (T 0 : Int)) := fun i => TB0.out _ (Below.next hb1.out i.below)
          have e1 : ∀ i : BW v1, i.v.cell? ⟨g7, 1, none⟩ = some (.int .i64 (T 1 : Int)) := fun i => TB1.out _ (Below.next hb1.out i.below)
          have e2 : ∀ i : BW v1, i.v.cell? ⟨g7, 2, none⟩ = some (.int .i64 (T 2 : Int)) := fun i => TB2.out _ (Below.next hb1.out i.below)
          have HAA1 := hidD (fun i : BW v1 => HAA.out _ (Below.next hb1.out i.below))
          have HC21 := hidD (fun i : BW v1 => HC2.out _ (Below.next hb1.out i.below))
          refine wp_region_below (by kernel_rfl) (by kernel_rfl) ?_
          repeat (go_big_quiet_step (first | (go_at_call 67; exact Calls.below_of (HAA1.out _)) | (go_at_call 66; exact Calls.below_of (HC21.out _))))
          refine wpQuiet_nil ?_
          intro i2
          have hb2 : Hid (Below wr.heap.size wr i2.v) := Below.next hb1.out i2.below
          generalize i2.v = v2 at *
          clear f0 f1 f2 e0 e1 e2 HAA1 HC21
          go_wp2_with fail
          have HKK : Hid (∀ wB, Below v2.heap.size v2 wB → ∃ i : KB v2 [gv], wB = i.v) := fun wB hb => ⟨⟨wB, fun x hx => by
            rw [show x = gv by simpa using hx]
            exact hb.block _ (Nat.lt_of_lt_of_le hgl hb2.out.size)⟩, rfl⟩
          have f0 : ∀ i : KB v2 [gv], i.v.cell? ⟨gv, 0, none⟩ = some (.int .u64 (c0 : Int)) := fun i => (i.cell (b := gv) (by simp) _).trans (C0.out _ hb2.out)
          have f1 : ∀ i : KB v2 [gv], i.v.cell? ⟨gv, 1, none⟩ = some (.int .u64 (c1 : Int)) := fun i => (i.cell (b := gv) (by simp) _).trans (C1.out _ hb2.out)
          have f2 : ∀ i : KB v2 [gv], i.v.cell? ⟨gv, 2, none⟩ = some (.int .u64 (c2 : Int)) := fun i => (i.cell (b := gv) (by simp) _).trans (C2.out _ hb2.out)
          have f3 : ∀ i : KB v2 [gv], i.v.cell? ⟨gv, 3, none⟩ = some (.int .u64 (c3 : Int)) := fun i => (i.cell (b := gv) (by simp) _).trans (C3.out _ hb2.out)
          have f4 : ∀ i : KB v2 [gv], i.v.cell? ⟨gv, 4, none⟩ = some (.int .u64 (c4 : Int)) := fun i => (i.cell (b := gv) (by simp) _).trans (C4.out _ hb2.out)
          have f5 : ∀ i : KB v2 [gv], i.v.cell? ⟨gv, 5, none⟩ = some (.int .u64 (c5 : Int)) := fun i => (i.cell (b := gv) (by simp) _).trans (C5.out _ hb2.out)
          have f6 : ∀ i : KB v2 [gv], i.v.cell? ⟨gv, 6, none⟩ = some (.int .u64 (c6 : Int)) := fun i => (i.cell (b := gv) (by simp) _).trans (C6.out _ hb2.out)
          have HDR : Hid (Below v2.heap.size v2 v2.drew) := (Below.refl _ _).drew
          refine wp_region_seg [0, 0, 0, 0, 1, 0, 0, 0, 0, 0, 0, 0, 0, 0, 0, 0, 0, 0, 0, 0, 3, 0, 0, 0, 0, 0, 0, 0, 0, 0, 99, 99] 2 30 [gv] (by kernel_rfl) (by kernel_rfl) (by kernel_rfl) (by kernel_rfl) (by kernel_rfl) (by kernel_rfl) (by kernel_rfl) (by kernel_rfl) (fun _ _ _ _ _ h => h) ?_
          simp only [SegW, pk, Nat.reduceMul, Nat.reduceAdd, Nat.reduceBEq, cond_true, cond_false]
          repeat (go_big_quiet_step (fail))
          refine wpQuiet_nil ?_
          go_wp2_with (go_at_call 66; refine (HC3.out _ (Below.next hb2.out HDR.out)).mono ?_; rintro e w5 ⟨rfl, hb5⟩)
          have HB5 : Hid (Below v2.heap.size v2 w5) := HDR.out.trans hb5
          clear hb5
          refine ⟨HKK.out _ HB5.out, ?_⟩
          refine wpQuiet_nil ?_
          go_wp2_with (go_at_call 66; refine (HC4.out _ (Below.next hb2.out HB5.out)).mono ?_; rintro e w6 ⟨rfl, hb6⟩)
          have HB6 := hidD (Below.next HB5.out hb6)
          clear hb6
          refine ⟨HKK.out _ HB6.out, ?_⟩
          refine wpQuiet_nil ?_
          have HB7 := hidD (Below.next HBL.out (Below.next hb2.out HB6.out))
          have HB7s := HB7.out.size
          go_wp2_with fail
          go_roundw
          case rel =>
            first
            | exact ⟨t + 1, by omega, by go_num, by rw [HRJ.out]; exact World.ownsRow_lit w6 _ 8 HB7s (by unfold maxLen; omega) rfl, HB7.out.alloc HB7s _⟩
            | ((repeat apply Exists.intro); refine And.intro ?_ rfl; exact ⟨t + 1, by omega, by go_num, by rw [HRJ.out]; exact World.ownsRow_lit w6 _ 8 HB7s (by unfold maxLen; omega) rfl, HB7.out.alloc HB7s _⟩)
          case measure => simp [intOf]; omega
        · obtain rfl : NK = t := by omega
          have HH3 := hidD (fun q hq wA hA => HHW.out wA (Below.next HBW.out hA) q hq)
          go_wp2_with fail
          clear hck
          go_loopw [14] (fun iv wr => ∃ q : Nat, q ≤ 8 ∧ iv = .int .i64 (q : Int) ∧ wr.ownsRow wl.heap.size 41 1 (.slice (some ⟨gv, 0, none⟩) 8 cv) 8 (rangeC .u64 (fun j => if j < q then AF j else CC NK j) 8) ∧ Below wl.heap.size wl wr) (fun iv _ => 8 - (intOf iv).toNat)
          case atStart => exact ⟨0, by omega, rfl, by rw [rangeC_congr .u64 (fun j => if j < 0 then AF j else CC NK j) (CC NK) 8 (fun j _ => if_neg (by omega))]; exact HOW.out, HBL.out⟩
          case round =>
            clear HOW HBL HBW2
            obtain ⟨q, hq, rfl, hown, hbel⟩ := hrel
            have HOW := hidD hown
            have HBL := hidD hbel
            have hgl3 : gv < wr.heap.size := by
              obtain ⟨g', c', he, _, h2, _⟩ := row_shapeC hown (by omega)
              cases he; exact h2
            clear hown
            by_cases hlt : q < 8
            · have hlti : (q : Int) < 8 := by omega
              have hne : gh ≠ gv := by have := HM.out; have := HBW.out.size; omega
              have hghl : gh < wr.heap.size := by have := HM.out; have := HBW.out.size; have := hbel.size; omega
              have HKK : Hid (∀ wB, Below wr.heap.size wr wB → ∃ i : KB wr [gv, gh], wB = i.v) := fun wB hb => ⟨⟨wB, fun x hx => by
                have hx : x = gv ∨ x = gh := by simpa using hx
                rcases hx with rfl | rfl
                · exact hb.block _ hgl3
                · exact hb.block _ hghl⟩, rfl⟩
              have f1 : ∀ i : KB wr [gv, gh], i.v.cell? ⟨gv, q, none⟩ = some (.int .u64 (CC NK q : Int)) := fun i => (i.cell (b := gv) (by simp) _).trans ((HOW.out.cellAt q (by omega)).trans (by rw [rangeC_at .u64 _ 8 q hlt, if_neg (by omega)]))
              have f2 : ∀ i : KB wr [gv, gh], i.v.cell? ⟨gh, oh + q, none⟩ = some (.int .u64 (c q : Int)) := fun i => (i.cell (b := gh) (by simp) _).trans (HH3.out q hlt wr hbel)
              have hd := Nat.lt_of_lt_of_le (HCL.out NK q) HW64.out
              have hcq := Nat.lt_of_lt_of_le (hcl q) HW64.out
              have d1 : IntKind.u64.wrap ((CC NK q : Int) + (c q : Int)) = (((CC NK q + c q) % 18446744073709551616 : Nat) : Int) := by rw [IntKind.wrap_u64]; omega
              have hsl : (CC NK q + c q) % 18446744073709551616 < 18446744073709551616 := Nat.mod_lt _ (by omega)
              have HCQ := hidD (fun wA (h : Below wr.heap.size wr wA) => H66.out _ hsl wA (Below.next HBW.out (Below.next hbel h)))
              have hval : (CC NK q + c q) % 18446744073709551616 % M = AF q := by rw [HR2.out, HAF.out, Nat.add_comm]
              rw [hval] at HCQ
              have HST : Hid (∀ wB, Below wr.heap.size wr wB → (wB.setCell ⟨gv, q, none⟩ (.int .u64 (AF q : Int))).ownsRow wl.heap.size 41 1 (.slice (some ⟨gv, 0, none⟩) 8 cv) 8 (rangeC .u64 (fun j => if j < q + 1 then AF j else CC NK j) 8)) := fun wB hb => by
                have h := ((row_below HOW.out hb).stored q (.int .u64 (AF q : Int))).1
                rw [rangeC_set .u64 _ (fun j => if j < q + 1 then AF j else CC NK j) 8 q (AF q) hlt (fun j hj => by
                  by_cases e1 : j = q
                  · subst e1; rw [if_pos rfl, if_pos (by omega)]
                  · rw [if_neg e1]
                    by_cases e2 : j < q
                    · rw [if_pos (by omega), if_pos e2]
                    · rw [if_neg (by omega), if_neg e2])] at h
                exact h
              have HSB : Hid (∀ wB u, Below wr.heap.size wr wB → Below wl.heap.size wl (wB.setCell ⟨gv, q, none⟩ u)) := fun wB u hb => below_setCell (Below.next hbel hb) hgv q u
              have HFC : Hid (∀ wB, Below wr.heap.size wr wB → wB.cell? ⟨gv, q, none⟩ = some (.int .u64 (CC NK q : Int)) ∧ wB.frozen? ⟨gv, q, none⟩ = false) := fun wB hb => ⟨((row_below HOW.out hb).cellAt q (by omega)).trans (by rw [rangeC_at .u64 _ 8 q hlt, if_neg (by omega)]), (row_below HOW.out hb).frozenAt q⟩
              clear hval hbel
              generalize (CC NK q + c q) % 18446744073709551616 = S at *
              generalize hCCQ : CC NK q = cc at *
              generalize c q = cq at *
              generalize AF q = af at *
              clear hCCQ
              have HDR : Hid (Below wr.heap.size wr wr.drew) := (Below.refl _ _).drew
              go_wp2_with fail
              refine wp_region_seg [0, 0, 0, 0, 0, 0, 0, 0, 0, 0, 0, 0, 1, 2, 99] 1 14 [gv, gh] (by kernel_rfl) (by kernel_rfl) (by kernel_rfl) (by kernel_rfl) (by kernel_rfl) (by kernel_rfl) (by kernel_rfl) (by kernel_rfl) (fun _ _ _ _ _ h => h) ?_
              simp only [SegW, pk, Nat.reduceMul, Nat.reduceAdd, Nat.reduceBEq, cond_true, cond_false]
              repeat (go_big_quiet_step (fail))
              refine wpQuiet_nil ?_
              go_wp2_with (go_at_call 66; refine (HCQ.out _ HDR.out).mono ?_; rintro e w5 ⟨rfl, hb5⟩)
              have HB5 : Hid (Below wr.heap.size wr w5) := HDR.out.trans hb5
              clear hb5
              refine ⟨HKK.out _ HB5.out, ?_⟩
              repeat (go_big_quiet_step (fail))
              refine wpQuiet_nil ?_
              have h1 := (HFC.out _ HB5.out).1
              have h2 := (HFC.out _ HB5.out).2
              clear f1 f2
              go_wp2_with fail
              go_roundw
              case rel =>
                first
                | exact ⟨q + 1, by omega, by go_num, HST.out _ HB5.out, HSB.out _ _ HB5.out⟩
                | ((repeat apply Exists.intro); refine And.intro ?_ rfl; exact ⟨q + 1, by omega, by go_num, HST.out _ HB5.out, HSB.out _ _ HB5.out⟩)
              case measure => simp [intOf]; omega
            · obtain rfl : q = 8 := by omega
              go_wp2_with fail
              refine bodyPost_ret (v := .slice (some ⟨gv, 0, none⟩) 8 cv) (by simp [results, Try.results55, go_sem]) rfl ⟨_, rfl, ?_, Below.next HBW.out HBL.out⟩
              have h := row_mono HOW.out HBW.out.size
              rw [rangeC_congr .u64 (fun j => if j < 8 then AF j else CC NK j) AF 8 (fun j hj => if_pos hj)] at h
              exact h
end Go.Proofs.Ytnldpofljeodiaa
