/- What the library's Equal and EqualFunc answer of bytes and of segments. -/
import Derived.Test.YtpemajghaceegaaGreatDoorHyq
namespace Go.Proofs.YtpemajghaceegaaGreatDoor
open Go.RowKit
set_option linter.unusedVariables false

set_option maxRecDepth 100000 in
set_option maxHeartbeats 3200000 in
theorem equalBytes_any (v u : Value) (l m : List UInt8) (hl : l.length ≤ 140737488355328) (hm : m.length ≤ 140737488355328) (w : World) (hv : ByAt w v l) (hu : ByAt w u m) :
    Calls Tryz.prog 34 #[v, u] w fun e w' => e = .returned (.bool (decide (l = m))) ∧ Below w.heap.size w w' := by
  obtain ⟨a, cap, rfl, _, _, _, hc⟩ := hv
  obtain ⟨a2, cap2, rfl, _, _, _, hc2⟩ := hu
  have HC := hidD hc
  have HC2 := hidD hc2
  obtain ⟨D, HD⟩ : ∃ D, Hid (decide (l = m) = D) := ⟨_, rfl⟩
  rw [HD.out]
  clear hc hc2
  by_cases hlen : ¬ l.length = m.length
  · have HDF : Hid (D = false) := by show _ = _; rw [← HD.out]; exact decide_eq_false (fun h => hlen (by rw [h]))
    have hni : ((l.length : Int) != (m.length : Int)) = true := bne_iff_ne.2 (by omega)
    clear hlen
    go_enter Tryz.func34, Tryz.ntmps34
    go_wp2_with fail
    go_ret
    exact ⟨by first | rfl | (rw [HDF.out]; rfl), Below.refl _ _⟩
  have hlen := Decidable.not_not.1 hlen
  obtain ⟨N, HN⟩ : ∃ N, Hid (l.length = N) := ⟨_, rfl⟩
  have HN2 : Hid (m.length = N) := by show _ = _; rw [← HN.out, hlen]
  have hN := hl
  rw [HN.out] at hN ⊢
  rw [HN2.out]
  clear hlen hl hm
  have hnn : ((N : Int) != (N : Int)) = false := bne_self_eq_false _
  go_enter Tryz.func34, Tryz.ntmps34
  go_wp2_with fail
  go_loopw [13] (fun i wr => ∃ k : Nat, k ≤ N ∧ i = .int .i64 k ∧ (∀ j (h1 : j < l.length) (h2 : j < m.length), j < k → l[j] = m[j]) ∧ ∃ n, wr = w.drewN n) (fun i _ => N - (intOf i).toNat)
  case atStart => exact ⟨0, Nat.zero_le _, rfl, fun j _ _ h => absurd h (Nat.not_lt_zero _), 0, rfl⟩
  case round =>
    obtain ⟨k, hk, rfl, hall, n, rfl⟩ := hrel
    have HALL := hidD hall
    clear hall
    by_cases hlt : k < N
    · have hlti : (k : Int) < N := by omega
      have h1 : k < l.length := by rw [HN.out]; exact hlt
      have h2 : k < m.length := by rw [HN2.out]; exact hlt
      obtain ⟨g, o, rfl, hg, x0⟩ := HC.out k h1
      obtain ⟨g2, o2, rfl, hg2, y0⟩ := HC2.out k h2
      have ex : l.getD k 0 = l[k] := by rw [List.getD_eq_getElem?_getD, List.getElem?_eq_getElem h1]; rfl
      have ey : m.getD k 0 = m[k] := by rw [List.getD_eq_getElem?_getD, List.getElem?_eq_getElem h2]; rfl
      rw [ex] at x0
      rw [ey] at y0
      have HNE : Hid (l[k] ≠ m[k] → D = false) := fun hne => by
        rw [← HD.out]
        refine decide_eq_false (fun h => hne ?_)
        subst h; rfl
      have HEQ : Hid (l[k] = m[k] → ∀ j (h1 : j < l.length) (h2 : j < m.length), j < k + 1 → l[j] = m[j]) := fun he j h1 h2 hj => by
        by_cases hjk : j = k
        · subst hjk; exact he
        · exact HALL.out j h1 h2 (by omega)
      obtain ⟨p, HPX⟩ : ∃ p, Hid (l[k] = p) := ⟨l[k], hidD rfl⟩
      obtain ⟨q, HQX⟩ : ∃ q, Hid (m[k] = q) := ⟨m[k], hidD rfl⟩
      rw [HPX.out] at x0 HNE HEQ
      rw [HQX.out] at y0 HNE HEQ
      have e0 : ∀ i : KB (w.drewN n) [g, g2], i.v.cell? ⟨g, o + k, none⟩ = some (.int .u8 (p.toNat : Int)) := fun i => (i.cell (b := g) (by simp) _).trans x0
      have e1 : ∀ i : KB (w.drewN n) [g, g2], i.v.cell? ⟨g2, o2 + k, none⟩ = some (.int .u8 (q.toNat : Int)) := fun i => (i.cell (b := g2) (by simp) _).trans y0
      have HBN := hidD (below_drewN (Below.refl w.heap.size w) (n + 1))
      clear x0 y0 HPX HQX HALL h1 h2 ex ey
      by_cases ha : p = q
      · subst ha
        have d0 : ((p.toNat : Int) != (p.toNat : Int)) = false := bne_self_eq_false _
        have HE2 := hidD (HEQ.out rfl)
        clear HNE HEQ
        go_wp2_with fail
        refine wp_region_seg [0, 0, 0, 0, 0, 0, 0, 0, 99] 0 8 [g, g2] (by kernel_rfl) (by kernel_rfl) (by kernel_rfl) (by kernel_rfl) (by kernel_rfl) (by kernel_rfl) (by kernel_rfl) (by kernel_rfl) (fun _ _ _ _ _ h => h) ?_
        simp only [SegW, pk, Nat.reduceMul, Nat.reduceBEq, cond_true, cond_false]
        repeat (go_big_quiet_step (fail))
        refine wpQuiet_nil ?_
        go_wp2_with fail
        go_roundw
        case rel => exact ⟨k + 1, by omega, by go_num, HE2.out, n + 1, rfl⟩
        case measure => simp [intOf]; omega
      · have HDF := hidD (HNE.out ha)
        have d0 : ((p.toNat : Int) != (q.toNat : Int)) = true := bne_iff_ne.2 (fun h => ha (UInt8.toNat_inj.1 (by exact_mod_cast h)))
        clear HNE HEQ ha
        go_wp2_with fail
        refine wp_region_seg [0, 0, 0, 0, 0, 0, 0, 0, 99] 0 8 [g, g2] (by kernel_rfl) (by kernel_rfl) (by kernel_rfl) (by kernel_rfl) (by kernel_rfl) (by kernel_rfl) (by kernel_rfl) (by kernel_rfl) (fun _ _ _ _ _ h => h) ?_
        simp only [SegW, pk, Nat.reduceMul, Nat.reduceBEq, cond_true, cond_false]
        repeat (go_big_quiet_step (fail))
        refine wpQuiet_nil ?_
        go_wp2_with fail
        go_ret
        exact ⟨by first | rfl | (rw [HDF.out]; rfl), HBN.out⟩
    · obtain rfl : k = N := by omega
      have HDT : Hid (D = true) := by
        show _ = _
        rw [← HD.out]
        exact decide_eq_true (List.ext_getElem (by rw [HN.out, HN2.out]) fun j h1 h2 => HALL.out j h1 h2 (by rw [← HN.out]; exact h1))
      have hlt' : ¬ (k : Int) < k := by omega
      clear hlt HALL
      go_wp2_with fail
      go_ret
      exact ⟨by first | rfl | (rw [HDT.out]; rfl), below_drewN (Below.refl _ _) n⟩
set_option maxRecDepth 100000 in
set_option maxHeartbeats 1600000 in
theorem equalSeg_any (x y : Int) (b1 b2 : Option Addr) (n1 n2' c1 c2 : Nat) (l m : List UInt8) (hl : l.length ≤ 140737488355328) (hm : m.length ≤ 140737488355328) (w : World) (hv : ByAt w (.slice b1 n1 c1) l) (hu : ByAt w (.slice b2 n2' c2) m) :
    Calls Tryz.prog 33 #[.agg #[.int .i64 x, .slice b1 n1 c1], .agg #[.int .i64 y, .slice b2 n2' c2]] w fun e w' => e = .returned (.bool (decide (x = y ∧ l = m))) ∧ Below w.heap.size w w' := by
  have HEB := hidD (fun w hv hu => equalBytes_any (.slice b1 n1 c1) (.slice b2 n2' c2) l m hl hm w hv hu)
  have HV := hidD hv
  have HU := hidD hu
  have HBB : Hid (Below w.heap.size w ((w.alloc (.cells #[.int .i64 x, .slice b1 n1 c1] (36 : TypeId))).alloc (.cells #[.int .i64 y, .slice b2 n2' c2] (36 : TypeId)))) := ((Below.refl _ _).alloc (Nat.le_refl _) _).alloc (by simp) _
  obtain ⟨D, HD⟩ : ∃ D, Hid (decide (x = y ∧ l = m) = D) := ⟨_, rfl⟩
  obtain ⟨d, Hd⟩ : ∃ d, Hid (decide (l = m) = d) := ⟨_, rfl⟩
  rw [Hd.out] at HEB
  rw [HD.out]
  have HF : Hid (x ≠ y → D = false) := fun h => by rw [← HD.out]; exact decide_eq_false (fun hh => h hh.1)
  have HT : Hid (x = y → D = d) := fun h => by rw [← HD.out, ← Hd.out]; exact decide_eq_decide.2 ⟨fun hh => hh.2, fun hh => ⟨h, hh⟩⟩
  clear hv hu
  by_cases hxy : x = y
  · subst hxy
    have HDd := hidD (HT.out rfl)
    have d0 : (x == x) = true := beq_self_eq_true _
    clear HF HT HD Hd
    go_enter Tryz.func33, Tryz.ntmps33
    go_wp2_with (go_at_call 34
                 refine (HEB.out _ (HV.out.next HBB.out) (HU.out.next HBB.out)).mono ?_
                 rintro e w2 ⟨rfl, hb⟩
                 have HB2 := hidD (Below.next HBB.out hb)
                 clear hb HEB)
    go_ret
    exact ⟨by first | rfl | (rw [HDd.out]; rfl), HB2.out⟩
  · have HDf := hidD (HF.out hxy)
    have d0 : (x == y) = false := beq_eq_false_iff_ne.2 hxy
    clear HF HT HD Hd
    go_enter Tryz.func33, Tryz.ntmps33
    go_wp2_with fail
    go_ret
    exact ⟨by first | rfl | (rw [HDf.out]; rfl), HBB.out⟩
end Go.Proofs.YtpemajghaceegaaGreatDoor
