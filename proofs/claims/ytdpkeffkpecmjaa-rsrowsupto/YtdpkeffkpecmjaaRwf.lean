/- What RsRows answers. -/
import Derived.Test.YtdpkeffkpecmjaaRwd
import Derived.Test.YtdpkeffkpecmjaaRwe
import Derived.Test.YtdpkeffkpecmjaaRst
namespace Go.Proofs.Ytdpkeffkpecmjaa
open Go.RowKit
set_option linter.unusedVariables false

/-- The rows that are dealt. -/
def dlR (data : List UInt8) (n m : Nat) : List (List UInt8) := (List.range n).map fun r => (List.range m).map (dlA data n r)
theorem dlR_len (data : List UInt8) (n m : Nat) : (dlR data n m).length = n := by simp [dlR]
theorem dlR_at (data : List UInt8) (n m : Nat) {r : Nat} (hr : r < n) : (dlR data n m).getD r [] = (List.range m).map (dlA data n r) := by
  rw [List.getD_eq_getElem?_getD, dlR, List.getElem?_map, List.getElem?_range hr]; rfl
theorem dlR_evn (data : List UInt8) (n m : Nat) : Evn (dlR data n m) := fun k hk => by
  rw [dlR_len] at hk
  rw [dlR_at data n m hk, dlR_at data n m (by omega)]; simp
theorem dlR_first (data : List UInt8) (n m : Nat) (h : 1 ≤ n) : ((dlR data n m).getD 0 []).length = m := by
  rw [dlR_at data n m (by omega)]; simp
theorem dlR_back (data : List UInt8) (n m : Nat) (hm : data.length = n * m) : ∀ k, k ≤ m → ilvTo (dlR data n m) k = data.take (k * n)
  | 0, _ => by rw [Nat.zero_mul, List.take_zero]; rfl
  | k + 1, hk => by
    rw [ilvTo, dlR_back data n m hm k (by omega), dlR_len]
    have hle : (k + 1) * n ≤ data.length := by rw [hm, Nat.mul_comm n m]; exact Nat.mul_le_mul_right _ hk
    rw [Nat.succ_mul] at hle
    refine cf_ext ?_ fun i hi => ?_
    · rw [List.length_append, List.length_take, colTo_length, List.length_take, Nat.succ_mul]; omega
    · have hi' : i < (k + 1) * n := by
        rw [List.length_append, List.length_take, colTo_length] at hi
        rw [Nat.succ_mul]; omega
      rw [cf_take, if_pos hi']
      have hl : (data.take (k * n)).length = k * n := by rw [List.length_take]; omega
      unfold cf
      rw [List.getD_eq_getElem?_getD]
      by_cases h : i < k * n
      · rw [List.getElem?_append_left (by rw [hl]; exact h), List.getElem?_take, if_pos h, ← List.getD_eq_getElem?_getD]
      · rw [List.getElem?_append_right (by rw [hl]; omega), hl]
        have hr : i - k * n < n := by rw [Nat.succ_mul] at hi'; omega
        unfold colTo
        rw [List.getElem?_map, List.getElem?_range hr]
        show ((dlR data n m).getD (i - k * n) []).getD k 0 = _
        rw [dlR_at data n m hr, rng_get m _ (by omega)]
        show cf data (k * n + (i - k * n)) = _
        rw [show k * n + (i - k * n) = i by omega]; rfl
theorem MatAt.pc {w : World} {B g n m : Nat} {bl : Nat → Nat} {data : List UInt8} (h : MatAt w B g n m n bl (dlA data n)) : PcAt w (.slice (some ⟨g, 0, none⟩) n n) (dlR data n m) := by
  refine ⟨some ⟨g, 0, none⟩, n, by rw [dlR_len], fun k hk => ?_⟩
  rw [dlR_len] at hk
  refine ⟨g, 0, _, rfl, h.lt, by rw [Nat.zero_add]; exact h.slc hk (Nat.le_refl _), ?_⟩
  rw [dlR_at data n m hk]
  exact h.by hk
def ilE (L : List (List UInt8)) (E : Bool) : List UInt8 := if E then ilvTo L (L.getD 0 []).length else []
theorem inter_all (L : List (List UInt8)) (hn : L.length ≤ 1048576) (hm : (L.getD 0 []).length ≤ 1048576) : ∃ (X : List UInt8) (E : Int),
    (∀ (v : Value) (w : World), PcAt w v L → Calls Try.prog 26 #[v] w fun e w' => ∃ u, e = .returned (.tuple #[u, .int .i64 E]) ∧ ByAt w' u X ∧ Below w.heap.size w w') ∧
    (∀ (v : Value) (w : World), PcAt w v L → Calls Try.prog 27 #[v] w fun e w' => ∃ u, e = .returned (.tuple #[u, .int .i64 E]) ∧ ByAt w' u X ∧ Below w.heap.size w w') := by
  by_cases he : Evn L
  · exact ⟨_, 0, fun v w h => inter_even L hn hm he v w h, fun v w h => rinter_even L hn hm he v w h⟩
  · exact ⟨[], 1, fun v w h => (inter_odd L hn he v w h).mono fun e w' ⟨h1, h2⟩ => ⟨_, h1, .inl ⟨rfl, none, 0, rfl, fun _ => rfl⟩, h2⟩, fun v w h => (rinter_odd L hn he v w h).mono fun e w' ⟨h1, h2⟩ => ⟨_, h1, .inl ⟨rfl, none, 0, rfl, fun _ => rfl⟩, h2⟩⟩

set_option maxRecDepth 100000 in
set_option maxHeartbeats 3200000 in
theorem rows_bad (L : List (List UInt8)) (hn : L.length ≤ 1048576) (hm : (L.getD 0 []).length ≤ 1048576) (data : List UInt8) (z : Int) (v0 v1 : Value) (w : World) (h0 : PcAt w v0 L) (h1 : ByAt w v1 data)
    (hp : ∀ w', Calls Try.prog 28 #[v1, .int .i64 z] w' fun e w2 => e = .returned (.tuple #[.slice none 0 0, .int .i64 1]) ∧ Below w'.heap.size w' w2)
    (hr : ∀ w', Calls Try.prog 29 #[v1, .int .i64 z] w' fun e w2 => e = .returned (.tuple #[.slice none 0 0, .int .i64 1]) ∧ Below w'.heap.size w' w2) :
    Calls Try.prog 5 #[v0, v1, .int .i64 z] w fun e w' => e = .returned (.bool true) ∧ Below w.heap.size w w' := by
  obtain ⟨X, E, hi1, hi2⟩ := inter_all L hn hm
  have H1 := hidD hi1
  have H2 := hidD hi2
  have HP := hidD hp
  have HR := hidD hr
  have HV0 := hidD h0
  have HA := hidD (fun w => alive_any w)
  have HS : Hid (∀ u v w', ByAt w' u X → ByAt w' v X → Calls Try.prog 16 #[u, v] w' fun e w2 => e = .returned (.bool true) ∧ Below w'.heap.size w' w2) := fun u v w' a b => by
    have := same_any X X u v w' a b
    rwa [decide_eq_true rfl] at this
  have hEb : (E == E) = true := beq_self_eq_true _
  have hEn : (E != E) = false := by simp
  obtain ⟨a0, c0, hv0, _⟩ := h0
  obtain ⟨a1, c1, hv1⟩ := by_shape h1
  subst hv0 hv1
  clear hi1 hi2 hp hr h1
  generalize L.length = n at *
  generalize data.length = d at *
  go_enter Try.func5, Try.ntmps5
  go_wp2_with (first
    | (go_at_call 26; refine (H1.out _ _ HV0.out).mono ?_; rintro e w1 ⟨u1, rfl, hb1, hw1⟩; have HX1 := hidD hb1; have HB1 := hidD hw1; obtain ⟨aa1, ca1, hu1⟩ := by_shape hb1; subst hu1; clear hb1 hw1)
    | (go_at_call 27; refine (H2.out _ _ (HV0.out.next HB1.out)).mono ?_; rintro e w2 ⟨u2, rfl, hb2, hw2⟩; have HX2 := hidD hb2; have HX1b := hidD (HX1.out.next hw2); have HB2 := hidD (Below.next HB1.out hw2); obtain ⟨aa2, ca2, hu2⟩ := by_shape hb2; subst hu2; clear hb2 hw2)
    | (go_at_call 28; refine (HP.out _).mono ?_; rintro e w3 ⟨rfl, hw3⟩; have HX1c := hidD (HX1b.out.next hw3); have HX2c := hidD (HX2.out.next hw3); have HB3 := hidD (Below.next HB2.out hw3); clear hw3)
    | (go_at_call 29; refine (HR.out _).mono ?_; rintro e w4 ⟨rfl, hw4⟩; have HX1d := hidD (HX1c.out.next hw4); have HX2d := hidD (HX2c.out.next hw4); have HB4 := hidD (Below.next HB3.out hw4); clear hw4)
    | (go_at_call 16; refine (HS.out _ _ _ HX1d.out HX2d.out).mono ?_; rintro e w5 ⟨rfl, hw5⟩; have HB5 := hidD (Below.next HB4.out hw5); clear hw5)
    | (go_at_call 10; refine (HA.out _).mono ?_; rintro e w6 ⟨rfl, hw6⟩; have HB6 := hidD (Below.next HB5.out hw6); clear hw6))
  go_loopw [15] (fun i wr => i = .int .i64 0 ∧ wr = w6) (fun _ _ => 0)
  case atStart => exact ⟨rfl, rfl⟩
  case round =>
    obtain ⟨rfl, hw⟩ := hrel
    subst wr
    go_wp2_with fail
    go_ret
    exact ⟨rfl, HB6.out⟩

set_option maxRecDepth 100000 in
set_option maxHeartbeats 6400000 in
theorem rows_ok (L : List (List UInt8)) (hn : L.length ≤ 1048576) (hm : (L.getD 0 []).length ≤ 1048576) (data : List UInt8) (hd : data.length ≤ 1048576) (n m : Nat) (hn1 : 1 ≤ n) (hn2 : n ≤ 1048576) (hlen : data.length = n * m) (v0 v1 : Value) (w : World) (h0 : PcAt w v0 L) (h1 : ByAt w v1 data) :
    Calls Try.prog 5 #[v0, v1, .int .i64 n] w fun e w' => e = .returned (.bool true) ∧ Below w.heap.size w w' := by
  obtain ⟨X, E, hi1, hi2⟩ := inter_all L hn hm
  have H1 := hidD hi1
  have H2 := hidD hi2
  have HP := hidD (fun w' (h : ByAt w' v1 data) => deal_ok data hd n m hn1 hn2 hlen v1 w' h)
  have HR := hidD (fun w' (h : ByAt w' v1 data) => rdeal_ok data hd n m hn1 hn2 hlen v1 w' h)
  have hml : m ≤ 1048576 := Nat.le_trans (Nat.le_mul_of_pos_left m hn1) (hlen ▸ hd)
  have HI3 : Hid (∀ (v : Value) (w : World), PcAt w v (dlR data n m) → Calls Try.prog 26 #[v] w fun e w' => ∃ u, e = .returned (.tuple #[u, .int .i64 0]) ∧ ByAt w' u data ∧ Below w.heap.size w w') := fun v w h => by
    have := inter_even (dlR data n m) (by rw [dlR_len]; exact hn2) (by rw [dlR_first data n m hn1]; exact hml) (dlR_evn data n m) v w h
    rw [dlR_first data n m hn1, dlR_back data n m hlen m (Nat.le_refl _), Nat.mul_comm m n, ← hlen, List.take_length] at this
    exact this
  have HV0 := hidD h0
  have HV1 := hidD h1
  have HA := hidD (fun w => alive_any w)
  have HS : Hid (∀ u v w' Y, ByAt w' u Y → ByAt w' v Y → Calls Try.prog 16 #[u, v] w' fun e w2 => e = .returned (.bool true) ∧ Below w'.heap.size w' w2) := fun u v w' Y a b => by
    have := same_any Y Y u v w' a b
    rwa [decide_eq_true rfl] at this
  have hEb : (E == E) = true := beq_self_eq_true _
  have hEn : (E != E) = false := by simp
  have hnn : ((n : Int) != n) = false := by simp
  obtain ⟨a0, c0, hv0, _⟩ := h0
  obtain ⟨a1, c1, hv1⟩ := by_shape h1
  subst hv0 hv1
  clear hi1 hi2 h1 hlen hd hm
  generalize L.length = ll at *
  generalize data.length = d at *
  go_enter Try.func5, Try.ntmps5
  go_wp2_with (first
    | (go_at_call 26; refine (H1.out _ _ HV0.out).mono ?_; rintro e w1 ⟨u1, rfl, hb1, hw1⟩; have HX1 := hidD hb1; have HB1 := hidD hw1; obtain ⟨aa1, ca1, hu1⟩ := by_shape hb1; subst hu1; clear hb1 hw1)
    | (go_at_call 27; refine (H2.out _ _ (HV0.out.next HB1.out)).mono ?_; rintro e w2 ⟨u2, rfl, hb2, hw2⟩; have HX2 := hidD hb2; have HX1b := hidD (HX1.out.next hw2); have HB2 := hidD (Below.next HB1.out hw2); obtain ⟨aa2, ca2, hu2⟩ := by_shape hb2; subst hu2; clear hb2 hw2)
    | (go_at_call 28; refine (HP.out _ (HV1.out.next HB2.out)).mono ?_; rintro e w3 ⟨gc, bl, rfl, hm3, hw3⟩; have HM3 := hidD hm3; have HX1c := hidD (HX1b.out.next hw3); have HX2c := hidD (HX2.out.next hw3); have HB3 := hidD (Below.next HB2.out hw3); clear hw3 hm3)
    | (go_at_call 29; refine (HR.out _ (HV1.out.next HB3.out)).mono ?_; rintro e w4 ⟨gd, V, rfl, hm4, hw4⟩; have HM4 := hidD hm4; have HM3d := hidD (HM3.out.next hw4); have HX1d := hidD (HX1c.out.next hw4); have HX2d := hidD (HX2c.out.next hw4); have HB4 := hidD (Below.next HB3.out hw4); clear hw4 hm4)
    | (go_at_call 16; refine (HS.out _ _ _ _ HX1d.out HX2d.out).mono ?_; rintro e w5 ⟨rfl, hw5⟩; have HM5c := hidD (HM3d.out.next hw5); have HM5d := hidD (HM4.out.next hw5); have HB5 := hidD (Below.next HB4.out hw5); clear hw5)
    | (go_at_call 10; refine (HA.out _).mono ?_; rintro e w6 ⟨rfl, hw6⟩; have HM6c := hidD (HM5c.out.next hw6); have HM6d := hidD (HM5d.out.next hw6); have HB6 := hidD (Below.next HB5.out hw6); clear hw6))
  go_loopw [15] (fun i wr => ∃ k : Nat, k ≤ n ∧ i = .int .i64 k ∧ Below w6.heap.size w6 wr) (fun i _ => n - (intOf i).toNat)
  case atStart => exact ⟨0, Nat.zero_le _, rfl, Below.refl _ _⟩
  case round =>
    obtain ⟨k, hk, rfl, hbel⟩ := hrel
    have HBW := hidD hbel
    by_cases hlt : k < n
    · have hlti : (k : Int) < n := by omega
      have hmc := HM6c.out.next hbel
      have hmd := HM6d.out.next hbel
      have hc1 := hmc.slc hlt (Nat.le_refl _)
      have hc2 : wr.cell? ⟨gd, k, none⟩ = some (V k) := by rw [cell_of_row _ _ _ _ _ _ hmd.sl, vwC_get hlt]
      obtain ⟨av, cv, hVk⟩ := row_shape (hmd.row k hlt)
      rw [hVk] at hc2
      have HY1 : Hid (ByAt wr (.slice (some ⟨bl k, 0, none⟩) m m) ((List.range m).map (dlA data n k))) := hmc.by hlt
      have HY2 : Hid (ByAt wr (.slice av ((List.range m).map (dlA data n k)).length cv) ((List.range m).map (dlA data n k))) := by
        have := row_by (hmd.row k hlt)
        rwa [hVk] at this
      have HGC := hidD hmc.lt
      have HGD := hidD hmd.lt
      clear hmc hmd hVk hbel
      generalize (List.range m).map (dlA data n k) = Y at *
      generalize Y.length = yl at *
      have fC : ∀ i : KB wr [gc, gd], i.v.cell? ⟨gc, k, none⟩ = some (.slice (some ⟨bl k, 0, none⟩) m m) := fun i => (i.cell (b := gc) (by simp) _).trans hc1
      have fD : ∀ i : KB wr [gc, gd], i.v.cell? ⟨gd, k, none⟩ = some (.slice av yl cv) := fun i => (i.cell (b := gd) (by simp) _).trans hc2
      have HDR : Hid (Below wr.heap.size wr wr.drew) := (Below.refl _ _).drew
      have HKK : Hid (∀ wB, Below wr.heap.size wr wB → ∃ i : KB wr [gc, gd], wB = i.v) := fun wB hb => ⟨⟨wB, fun b hx => by
        rcases (show b = gc ∨ b = gd by simpa using hx) with h | h
        · rw [h]; exact hb.block _ HGC.out
        · rw [h]; exact hb.block _ HGD.out⟩, rfl⟩
      clear hc1 hc2
      go_wp2_with fail
      refine wp_region_seg [0, 0, 0, 0, 0, 0, 0, 0, 1, 2] 1 10 [gc, gd] (by kernel_rfl) (by kernel_rfl) (by kernel_rfl) (by kernel_rfl) (by kernel_rfl) (by kernel_rfl) (by kernel_rfl) (by kernel_rfl) (fun _ _ _ _ _ h => h) ?_
      simp only [SegW, pk, Nat.reduceMul, Nat.reduceAdd, Nat.reduceBEq, cond_true, cond_false]
      repeat (go_big_quiet_step (fail))
      refine wpQuiet_nil ?_
      go_wp2_with (go_at_call 16; refine (HS.out _ _ _ _ (HY1.out.next HDR.out) (HY2.out.next HDR.out)).mono ?_; rintro e w7 ⟨rfl, hw7⟩)
      have HB7 : Hid (Below wr.heap.size wr w7) := HDR.out.trans hw7
      clear hw7
      refine ⟨HKK.out _ HB7.out, ?_⟩
      repeat (go_big_quiet_step (fail))
      refine wpQuiet_nil ?_
      go_wp2_with fail
      go_roundw
      case rel => exact ⟨k + 1, by omega, by go_num, Below.next HBW.out HB7.out⟩
      case measure => simp [intOf]; omega
    · obtain rfl : k = n := by omega
      have HPC := hidD ((HM6c.out.next hbel).pc)
      have HBA := hidD (Below.next HB6.out hbel)
      clear hbel
      go_wp2_with (first
        | (go_at_call 26; refine (HI3.out _ _ HPC.out).mono ?_; rintro e w8 ⟨u8, rfl, hb8, hw8⟩; have HX8 := hidD hb8; have HB8 := hidD (Below.next HBA.out hw8); obtain ⟨aa8, ca8, hu8⟩ := by_shape hb8; subst hu8; clear hb8 hw8)
        | (go_at_call 16; refine (HS.out _ _ _ _ HX8.out (HV1.out.next HB8.out)).mono ?_; rintro e w9 ⟨rfl, hw9⟩; have HB9 := hidD (Below.next HB8.out hw9); clear hw9))
      go_ret
      exact ⟨rfl, HB9.out⟩

theorem rsRows_any (L : List (List UInt8)) (hn : L.length ≤ 1048576) (hm : ∀ k, k < L.length → (L.getD k []).length ≤ 1048576) (data : List UInt8) (hd : data.length ≤ 1048576) (z : Int) (v0 v1 : Value) (w : World) (h0 : PcAt w v0 L) (h1 : ByAt w v1 data) :
    Calls Try.prog 5 #[v0, v1, .int .i64 z] w fun e w' => e = .returned (.bool true) ∧ Below w.heap.size w w' := by
  have hm0 : (L.getD 0 []).length ≤ 1048576 := by
    by_cases h : 0 < L.length
    · exact hm 0 h
    · rw [List.length_eq_zero_iff.1 (by omega : L.length = 0)]; simp
  obtain ⟨a1, c1, hv1⟩ := by_shape h1
  by_cases hz1 : z < 1
  · rw [hv1] at h1 ⊢
    exact rows_bad L hn hm0 data z v0 _ w h0 h1 (fun w' => deal_less _ _ _ z hz1 w') (fun w' => rdeal_less _ _ _ z hz1 w')
  · by_cases hz2 : 1048576 < z
    · rw [hv1] at h1 ⊢
      exact rows_bad L hn hm0 data z v0 _ w h0 h1 (fun w' => deal_more _ _ _ z hz2 w') (fun w' => rdeal_more _ _ _ z hz2 w')
    · obtain ⟨n, rfl⟩ : ∃ n : Nat, z = n := ⟨z.toNat, by omega⟩
      by_cases hr : data.length % n = 0
      · exact rows_ok L hn hm0 data hd n (data.length / n) (by omega) (by omega) (by rw [Nat.mul_div_cancel' (Nat.dvd_of_mod_eq_zero hr)]) v0 v1 w h0 h1
      · rw [hv1] at h1 ⊢
        exact rows_bad L hn hm0 data n v0 _ w h0 h1 (fun w' => deal_rest _ _ _ n (by omega) (by omega) hr w') (fun w' => rdeal_rest _ _ _ n (by omega) (by omega) hr w')
end Go.Proofs.Ytdpkeffkpecmjaa
