/- What firstFractions answers. -/
import Derived.Test.YtnldpofljeodiaaSh4
namespace Go.Proofs.Ytnldpofljeodiaa
open Go.RowKit
set_option linter.unusedVariables false

def prL : List Nat := [2, 3, 5, 7, 11, 13, 17, 19, 23, 29, 31, 37, 41, 43, 47, 53, 59, 61, 67, 71, 73, 79, 83, 89, 97, 101, 103, 107, 109, 113, 127, 131, 137, 139, 149, 151, 157, 163, 167, 173, 179, 181, 191, 193, 197, 199, 211, 223, 227, 229, 233, 239, 241, 251, 257, 263, 269, 271, 277, 281, 283, 293, 307, 311, 313, 317, 331, 337, 347, 349, 353, 359, 367, 373, 379, 383, 389, 397, 401, 409]
def prS (j : Nat) : Nat := prL.getD j 0
def cntS (n : Nat) : Nat := (prL.filter (fun q => decide (q < n))).length
theorem pr_facts : ∀ n : Fin 410, (isS n.val = true → prS (cntS n.val) = n.val ∧ cntS (n.val + 1) = cntS n.val + 1) ∧ (isS n.val = false → cntS (n.val + 1) = cntS n.val) := by decide +kernel
theorem cnt_end : cntS 410 = 80 := by decide +kernel
theorem cnt_le (n : Nat) : cntS n ≤ 80 := List.length_filter_le _ _
theorem cnt_two : cntS 2 = 0 := by decide +kernel
/- the row when c of them are drawn: the cube roots' fractions, then the square roots' -/
def drS (width c j : Nat) : Nat := if j < 80 then (if j < c then frS (prS j) 3 width else 0) else (if j - 80 < c then (if j - 80 < 16 then frS (prS (j - 80)) 2 64 else 0) else 0)
theorem Try.zero85z : (Try.prog.info? 109).map (fun i => (i.zero, i.size)) = some (some (.agg (rowZ .u64 96 (fun _ => 0))), 96) := by kernel_rfl
theorem dr_zero (width j : Nat) : drS width 0 j = 0 := by unfold drS; split <;> simp
theorem dr_step3 (width c j : Nat) (hc : c < 80) (hj : j < 96) (h16 : ¬ c < 16) : (if j = c then frS (prS c) 3 width else drS width c j) = drS width (c + 1) j := by
  unfold drS
  by_cases h : j = c
  · subst h; rw [if_pos rfl, if_pos (by omega), if_pos (by omega)]
  · rw [if_neg h]
    by_cases h8 : j < 80
    · rw [if_pos h8, if_pos h8]
      by_cases h2 : j < c
      · rw [if_pos h2, if_pos (by omega)]
      · rw [if_neg h2, if_neg (by omega)]
    · rw [if_neg h8, if_neg h8]
      rw [if_pos (by omega), if_pos (by omega), if_pos (by omega)]
theorem dr_step2 (width c j : Nat) (hc : c < 16) (hj : j < 96) : (if j = 80 + c then frS (prS c) 2 64 else if j = c then frS (prS c) 3 width else drS width c j) = drS width (c + 1) j := by
  unfold drS
  by_cases h0 : j = 80 + c
  · subst h0; rw [if_pos rfl, if_neg (by omega), show 80 + c - 80 = c by omega, if_pos (by omega), if_pos hc]
  · rw [if_neg h0]
    by_cases h : j = c
    · subst h; rw [if_pos rfl, if_pos (by omega), if_pos (by omega)]
    · rw [if_neg h]
      by_cases h8 : j < 80
      · rw [if_pos h8, if_pos h8]
        by_cases h2 : j < c
        · rw [if_pos h2, if_pos (by omega)]
        · rw [if_neg h2, if_neg (by omega)]
      · rw [if_neg h8, if_neg h8]
        by_cases h2 : j - 80 < c
        · rw [if_pos h2, if_pos (by omega), if_pos (by omega)]
        · rw [if_neg h2, if_neg (by omega)]
set_option maxRecDepth 100000 in
set_option maxHeartbeats 3200000 in
theorem first_any (count width : Nat) (hcn : count ≤ 80) (hw : width ≤ 64) (w : World) : Calls Try.prog 60 #[.int .i64 (count : Int), .int .i64 (width : Int)] w fun e w' => e = .returned (.agg (rowZ .u64 96 (fun j => (drS width count j : Int)))) ∧ Below w.heap.size w w' := by
  obtain ⟨hz, hsz⟩ := zero_of_info Try.zero85z
  have HSZ := hidD hsz
  have HF3 : Hid (∀ p : Nat, p < 410 → ∀ w, Calls Try.prog 71 #[.int .u32 (p : Int), .int .i64 3, .int .i64 (width : Int)] w fun e w' => e = .returned (.int .u64 (frS p 3 width : Int)) ∧ Below w.heap.size w w') := fun p hp w => fraction3_any p width hp hw w
  have HF2 : Hid (∀ p : Nat, p < 410 → ∀ w, Calls Try.prog 71 #[.int .u32 (p : Int), .int .i64 2, .int .i64 64] w fun e w' => e = .returned (.int .u64 (frS p 2 64 : Int)) ∧ Below w.heap.size w w') := fun p hp w => fraction2_any p 64 hp (by omega) w
  have HIS : Hid (∀ n : Nat, n < 410 → ∀ w, Calls Try.prog 70 #[.int .u32 (n : Int)] w fun e w' => e = .returned (.bool (isS n)) ∧ w' = w) := fun n hn w => is_any n (by omega) w
  obtain ⟨b1, b2, b3, b4⟩ := two_blocks w (rowZ .u64 96 (fun _ => 0)) (rowZ .u64 96 (fun _ => 0)) 109
  have W1 := hidD b1
  have W2 := hidD b2
  have W3 := hidD b3
  clear b1 b2 b3 b4 hsz
  go_enter Try.func60, Try.ntmps60
  go_wp2_with fail
  generalize hW : World.alloc _ (Obj.cells (rowZ .u64 96 (fun _ => 0)) (109 : TypeId)) = W
  have V1 : Hid (RowZ W (w.heap.size + 1) .u64 96 109 (fun j => (drS width 0 j : Int))) := by
    have h : RowZ W (w.heap.size + 1) .u64 96 109 (fun _ => 0) := by rw [← hW]; exact W2.out
    exact h.congr fun j _ => by rw [dr_zero]; rfl
  have V3 : Hid (RowZ W w.heap.size .u64 96 109 (fun _ => 0)) := by rw [← hW]; exact W1.out
  have V4 : Hid (Below w.heap.size w W) := by rw [← hW]; exact W3.out
  clear hW W1 W2 W3 hz
  generalize hg : w.heap.size = g at *
  have HG := hidD hg
  clear hg
  go_loopw [6, 7] (fun fv nv wr => ∃ n c : Nat, 2 ≤ n ∧ n ≤ 410 ∧ nv = .int .u32 (n : Int) ∧ cntS n = c ∧ fv = .int .i64 (c : Int) ∧ c ≤ count ∧ RowZ wr (g + 1) .u64 96 109 (fun j => (drS width c j : Int)) ∧ RowZ wr g .u64 96 109 (fun _ => 0) ∧ Below g w wr) (fun _ nv _ => 410 - (intOf nv).toNat)
  case atStart => exact ⟨2, 0, by omega, by omega, rfl, cnt_two, rfl, Nat.zero_le _, V1.out, V3.out, V4.out⟩
  case round =>
    clear V1 V3 V4
    obtain ⟨n, c, hn2, hn4, rfl, hcn', rfl, hcc, hr1, hr0, hbel⟩ := hrel
    have HC := hidD hcn'
    have HR1 := hidD hr1
    have HR0 := hidD hr0
    have HBL := hidD hbel
    clear hcn' hr1 hr0 hbel
    by_cases hlt : c < count
    · have hlti : (c : Int) < (count : Int) := by omega
      have hn410 : n < 410 := by
        rcases Nat.lt_or_ge n 410 with h | h
        · exact h
        · have h1 := HC.out
          rw [show n = 410 by omega, cnt_end] at h1; omega
      have hf := pr_facts ⟨n, hn410⟩
      have HFA : Hid ((isS n = true → prS c = n ∧ cntS (n + 1) = c + 1) ∧ (isS n = false → cntS (n + 1) = c)) := by
        have h := HC.out
        subst h
        exact hf
      clear hf
      have HII := hidD (HIS.out n hn410)
      have HF3N := hidD (HF3.out n hn410)
      have HF2N := hidD (HF2.out n hn410)
      have hc80 : c < 80 := by omega
      cases hb : isS n with
      | false =>
        rw [hb] at HII HFA
        have HN := hidD (HFA.out.2 rfl)
        clear HFA hb
        go_wp2_with (go_at_call 70; refine (HII.out _).mono ?_; rintro e wz ⟨rfl, hwz⟩; subst wz)
        go_roundw
        case rel =>
          first
          | exact ⟨n + 1, c, by omega, by omega, by go_num, HN.out, rfl, hcc, HR1.out, HR0.out, HBL.out⟩
          | ((repeat apply Exists.intro); refine And.intro ?_ rfl; exact ⟨n + 1, c, by omega, by omega, by go_num, HN.out, rfl, hcc, HR1.out, HR0.out, HBL.out⟩)
        case measure => simp [intOf]; omega
      | true =>
        rw [hb] at HII HFA
        have HPN := hidD (HFA.out.1 rfl)
        clear HFA hb
        have HFE3 : Hid (frS n 3 width = frS (prS c) 3 width) := by show _ = _; rw [HPN.out.1]
        have HFE2 : Hid (frS n 2 64 = frS (prS c) 2 64) := by show _ = _; rw [HPN.out.1]
        generalize hA3 : frS n 3 width = A3 at *
        generalize hA2 : frS n 2 64 = A2 at *
        clear hA3 hA2
        have HS1 : Hid (∀ w', RowZ w' (g + 1) .u64 96 109 (fun j => (drS width c j : Int)) → RowZ (w'.setCell ⟨g + 1, c, none⟩ (.int .u64 (A3 : Int))) (g + 1) .u64 96 109 (fun j => ((if j = c then A3 else drS width c j : Nat) : Int))) := fun w' h => (h.set (k := c) (by omega) _).congr fun j hj => by split <;> rfl
        have HS2 : Hid (∀ (w' : World) (f : Nat → Nat), RowZ w' (g + 1) .u64 96 109 (fun j => ((f j : Nat) : Int)) → c < 16 → RowZ (w'.setCell ⟨g + 1, 80 + c, none⟩ (.int .u64 (A2 : Int))) (g + 1) .u64 96 109 (fun j => ((if j = 80 + c then A2 else f j : Nat) : Int))) := fun w' f h hc => (h.set (k := 80 + c) (by omega) _).congr fun j hj => by split <;> rfl
        by_cases h16 : c < 16
        · have h16i : (c : Int) < 16 := by omega
          go_wp2_with (first
            | (go_at_call 70; refine (HII.out _).mono ?_; rintro e wz ⟨rfl, hwz⟩; subst wz; clear HII)
            | (go_at_call 71; refine (HF3N.out _).mono ?_; rintro e w1 ⟨rfl, hb⟩; have HA1 := hidD (HR1.out.next hb); have HA0 := hidD (HR0.out.next hb); have HAB : Hid (Below g w w1) := HBL.out.trans (hb.mono (Nat.le_of_lt HR0.out.lt)); have hct := HA1.out.cell (k := c) (by omega); have hft := HA1.out.frozen c; clear hb HF3N HR1 HR0 HBL)
            | (go_at_call 71; refine (HF2N.out _).mono ?_; rintro e w2 ⟨rfl, hb⟩; have hE1 := (HS1.out _ HA1.out).next hb; have HE1 := hidD hE1; have HE0 := hidD ((HA0.out.other (by omega) c (.int .u64 (A3 : Int))).next hb); have HEB : Hid (Below g w w2) := (below_setCell HAB.out (by omega) c (.int .u64 (A3 : Int))).trans (hb.mono (by have := HA0.out.lt; simp; omega)); have hcu := hE1.cell (k := 80 + c) (by omega); have hfu := hE1.frozen (80 + c); clear hE1 hb HF2N hct hft))
          go_roundw
          case rel =>
            first
            | exact ⟨n + 1, c + 1, by omega, by omega, by go_num, HPN.out.2, by go_num, by omega, (HS2.out _ _ HE1.out h16).congr fun j hj => by rw [HFE2.out, HFE3.out, dr_step2 width c j h16 hj], HE0.out.other (by omega) _ _, below_setCell HEB.out (by omega) _ _⟩
            | ((repeat apply Exists.intro); refine And.intro ?_ rfl; exact ⟨n + 1, c + 1, by omega, by omega, by go_num, HPN.out.2, by go_num, by omega, (HS2.out _ _ HE1.out h16).congr fun j hj => by rw [HFE2.out, HFE3.out, dr_step2 width c j h16 hj], HE0.out.other (by omega) _ _, below_setCell HEB.out (by omega) _ _⟩)
          case measure => simp [intOf]; omega
        · have h16i : ¬ (c : Int) < 16 := by omega
          go_wp2_with (first
            | (go_at_call 70; refine (HII.out _).mono ?_; rintro e wz ⟨rfl, hwz⟩; subst wz; clear HII)
            | (go_at_call 71; refine (HF3N.out _).mono ?_; rintro e w1 ⟨rfl, hb⟩; have HA1 := hidD (HR1.out.next hb); have HA0 := hidD (HR0.out.next hb); have HAB : Hid (Below g w w1) := HBL.out.trans (hb.mono (Nat.le_of_lt HR0.out.lt)); have hct := HA1.out.cell (k := c) (by omega); have hft := HA1.out.frozen c; clear hb HF3N HR1 HR0 HBL))
          go_roundw
          case rel =>
            first
            | exact ⟨n + 1, c + 1, by omega, by omega, by go_num, HPN.out.2, by go_num, by omega, (HS1.out _ HA1.out).congr fun j hj => by rw [HFE3.out, dr_step3 width c j (by omega) hj h16], HA0.out.other (by omega) _ _, below_setCell HAB.out (by omega) _ _⟩
            | ((repeat apply Exists.intro); refine And.intro ?_ rfl; exact ⟨n + 1, c + 1, by omega, by omega, by go_num, HPN.out.2, by go_num, by omega, (HS1.out _ HA1.out).congr fun j hj => by rw [HFE3.out, dr_step3 width c j (by omega) hj h16], HA0.out.other (by omega) _ _, below_setCell HAB.out (by omega) _ _⟩)
          case measure => simp [intOf]; omega
    · obtain rfl : c = count := by omega
      have hlti : ¬ (c : Int) < (c : Int) := by omega
      have HL : Hid (wr.heap[g + 1]? = some (.cells (rowZ .u64 96 (fun j => (drS width c j : Int))) (109 : TypeId) (0, 0))) := HR1.out
      have HO : Hid (wr.heap[g]? = some (.cells (rowZ .u64 96 (fun _ => 0)) (109 : TypeId) (0, 0))) := HR0.out
      have HONE : Hid ((rowZ .u64 96 (fun j => (drS width c j : Int))).all (·.oneCell') = true) := rowZ_one _ _ _
      have h4 : (rowZ .u64 96 (fun j => (drS width c j : Int))).size = 96 := rowZ_size _ _ _
      have h0 : (rowZ .u64 96 (fun _ => 0)).size = 96 := rowZ_size _ _ _
      clear HR1 HR0
      generalize hC : rowZ .u64 96 (fun j => (drS width c j : Int)) = C at *
      have HCE := hidD hC
      clear hC
      generalize rowZ .u64 96 (fun _ => 0) = C0 at *
      have hi : Hid ((Try.prog.info? 109).map (·.size) = some C.size) := by show _ = _; rw [HSZ.out, h4]
      have HSS : Hid (C0.size = C.size) := by show _ = _; rw [h0, h4]
      clear h0 h4
      go_wp2_with (first | (refine wpList_load_row rfl 109 _ rfl (g + 1) rfl 109 C (0, 0) _ HL.out Try.underlying109 rfl hi.out ?_) | (refine wpList_store_row rfl 109 _ _ rfl g C rfl rfl 109 C0 HO.out hi.out HSS.out HONE.out ?_))
      refine bodyPost_ret (results_cell_row (P := Try.prog) (p := 4) (ty := 109) (by kernel_rfl) _ _ g 109 C (0, 0) _ rfl (setRow_heap _ _ C0 C 109 (0, 0) HO.out) Try.underlying109 rfl hi.out) rfl ?_
      refine ⟨by rw [HCE.out], ?_⟩
      have hfin : Below g w (wr.setRow g C) := below_setRow HBL.out (Nat.le_refl _) _
      rw [HG.out]; exact hfin
end Go.Proofs.Ytnldpofljeodiaa
