/- What the document's Syndrome of what is no word, and its Decode answer. -/
import Derived.Test.YtjmaejdkdpiigaaW4
namespace Go.Proofs.Ytjmaejdkdpiigaa
open Go.RowKit
set_option linter.unusedVariables false

set_option maxRecDepth 100000 in
set_option maxHeartbeats 1600000 in
theorem refSyndrome_none {x : Int} (h : NoWid x) (D C : Nat) (w : World) : Calls Try.prog 17 #[.int .i64 x, .agg (wdC D C)] w fun e w' => e = .returned (.tuple #[.int .i64 0, .bool false, .int .i64 1]) ∧ Below w.heap.size w w' := by
  have HC : Hid (∀ w, Calls Try.prog 9 #[.int .i64 x] w fun e w' => e = .returned (.tuple #[.int .i64 0, .int .i64 1]) ∧ w' = w) := fun w => refChecks_no h w
  have HB : Hid (Below w.heap.size w (w.alloc (.cells (wdC D C) 26))) := (Below.refl _ _).alloc (Nat.le_refl _) _
  obtain ⟨k0, k1⟩ := wd_cells w D C 26
  clear h
  go_enter Try.func17, Try.ntmps17
  go_wp2_with (go_at_call 9; refine (HC.out _).mono ?_; rintro e w3 ⟨rfl, hb3⟩)
  all_goals try (apply False.elim; apply undef_bool0; assumption)
  refine bodyPost_ret (v := .tuple #[.int .i64 0, .bool false, .int .i64 1]) (by simp [results, Try.results17, go_sem]) rfl ⟨rfl, HB.out⟩
set_option maxRecDepth 100000 in
set_option maxHeartbeats 1600000 in
theorem refSyndrome_bad {W r : Nat} (h : Wid W r) (D C : Nat) (hD : D < 18446744073709551616) (hC : C < 256) (hbad : ¬ (D < 2 ^ W ∧ C < 2 ^ (r + 1))) (w : World) : Calls Try.prog 17 #[.int .i64 (W : Int), .agg (wdC D C)] w fun e w' => e = .returned (.tuple #[.int .i64 0, .bool false, .int .i64 1]) ∧ Below w.heap.size w w' := by
  have HV : Hid (∀ w, Calls Try.prog 12 #[.int .i64 (W : Int), .agg #[.int .u64 (D : Int), .int .u8 (C : Int)]] w fun e w' => e = .returned (.bool false) ∧ Below w.heap.size w w') := fun w => by have := refValid_any h D C hD hC w; rw [decide_eq_false hbad] at this; exact this
  have HC : Hid (∀ w, Calls Try.prog 9 #[.int .i64 (W : Int)] w fun e w' => e = .returned (.tuple #[.int .i64 (r : Int), .int .i64 0]) ∧ w' = w) := fun w => refChecks_ok h w
  have HB : Hid (Below w.heap.size w (w.alloc (.cells (wdC D C) 26))) := (Below.refl _ _).alloc (Nat.le_refl _) _
  obtain ⟨k0, k1⟩ := wd_cells w D C 26
  clear h hbad
  go_enter Try.func17, Try.ntmps17
  go_wp2_with (go_at_call 9; refine (HC.out _).mono ?_; rintro e w3 ⟨rfl, hb3⟩)
  go_at_call 12
  refine (HV.out _).mono ?_
  rintro e w2 ⟨rfl, hb2⟩
  have HBB := hidD (Below.next HB.out hb2)
  clear k0 k1 HV HC hb2
  go_wp2_with fail
  refine bodyPost_ret (v := .tuple #[.int .i64 0, .bool false, .int .i64 1]) (by simp [results, Try.results17, go_sem]) rfl ⟨rfl, HBB.out⟩
set_option maxRecDepth 100000 in
set_option maxHeartbeats 1600000 in
theorem refDecode_no (x : Int) (D C : Nat) (HS : Hid (∀ w, Calls Try.prog 17 #[.int .i64 x, .agg (wdC D C)] w fun e w' => e = .returned (.tuple #[.int .i64 0, .bool false, .int .i64 1]) ∧ Below w.heap.size w w')) (w : World) : Calls Try.prog 19 #[.int .i64 x, .agg (wdC D C)] w fun e w' => e = .returned (.tuple #[.int .u64 0, .int .i64 0, .int .i64 0, .int .i64 1]) ∧ Below w.heap.size w w' := by
  have HR : Hid ((w.alloc (.cells (wdC D C) (26 : TypeId))).heap[w.heap.size]? = some (.cells (wdC D C) (26 : TypeId) (0, 0))) := heap_alloc_last _ _
  have HB : Hid (Below w.heap.size w (w.alloc (.cells (wdC D C) 26))) := (Below.refl _ _).alloc (Nat.le_refl _) _
  obtain ⟨hz, hsz⟩ := zero_of_info Try.zeroRw
  have HI : Hid ((Try.prog.info? 26).map (·.size) = some 2) := hsz
  clear hsz hz
  go_enter Try.func19, Try.ntmps19
  go_wp2_with (first | (go_at_call 17; refine (HS.out _).mono ?_; rintro e w2 ⟨rfl, hb2⟩) | (refine wpList_load_row rfl 26 _ rfl w.heap.size rfl 26 (wdC D C) (0, 0) _ HR.out Try.underlying26 rfl HI.out ?_))
  refine bodyPost_ret (v := .tuple #[.int .u64 0, .int .i64 0, .int .i64 0, .int .i64 1]) (by simp [results, Try.results19, go_sem]) rfl ⟨rfl, Below.next HB.out hb2⟩

set_option maxRecDepth 100000 in
set_option maxHeartbeats 3200000 in
theorem refDecode_even {W r : Nat} (h : Wid W r) (D C : Nat) (hD : D < 2 ^ W) (hC : C < 2 ^ (r + 1)) (hp : parS D C = 0) (d e : Nat) (hres : (synS W r D C = 0 ∧ d = D ∧ e = 0) ∨ (synS W r D C ≠ 0 ∧ d = 0 ∧ e = 100)) (w : World) : Calls Try.prog 19 #[.int .i64 (W : Int), .agg (wdC D C)] w fun ee w' => ee = .returned (.tuple #[.int .u64 (d : Int), .int .i64 0, .int .i64 0, .int .i64 (e : Int)]) ∧ Below w.heap.size w w' := by
  have HC : Hid (∀ w, Calls Try.prog 9 #[.int .i64 (W : Int)] w fun e w' => e = .returned (.tuple #[.int .i64 (r : Int), .int .i64 0]) ∧ w' = w) := fun w => refChecks_ok h w
  have HS : Hid (∀ w, Calls Try.prog 17 #[.int .i64 (W : Int), .agg (wdC D C)] w fun e w' => e = .returned (.tuple #[.int .i64 (synS W r D C : Int), .bool false, .int .i64 0]) ∧ Below w.heap.size w w') := fun w => by have := refSyndrome_ok h D C hD hC w; rw [hp] at this; exact this
  have CB : Hid (∀ w2, Below (w.alloc (.cells (wdC D C) 26)).heap.size (w.alloc (.cells (wdC D C) 26)) w2 → w2.cell? ⟨w.heap.size, 0, none⟩ = some (.int .u64 (D : Int)) ∧ w2.cell? ⟨w.heap.size, 1, none⟩ = some (.int .u8 (C : Int)) ∧ w2.heap[w.heap.size]? = some (.cells (wdC D C) 26 (0, 0)) ∧ Below w.heap.size w w2) := fun w2 hb => wd_next w D C _ w2 hb
  have HR : Hid ((w.alloc (.cells (wdC D C) (26 : TypeId))).heap[w.heap.size]? = some (.cells (wdC D C) (26 : TypeId) (0, 0))) := heap_alloc_last _ _
  obtain ⟨hz, hsz⟩ := zero_of_info Try.zeroRw
  have HI : Hid ((Try.prog.info? 26).map (·.size) = some 2) := hsz
  clear hsz hz hD hC hp
  generalize synS W r D C = S at *
  rcases hres with ⟨h0, h1, h2⟩ | ⟨h0, h1, h2⟩
  · subst h0; subst d; subst e
    go_enter Try.func19, Try.ntmps19
    go_wp2_with (first | (go_at_call 17; refine (HS.out _).mono ?_; rintro e w2 ⟨rfl, hb2⟩; obtain ⟨c0, c1, hrow, hbel⟩ := CB.out _ hb2) | (go_at_call 9; refine (HC.out _).mono ?_; rintro e w4 ⟨rfl, hb4⟩) | (refine wpList_load_row rfl 26 _ rfl w.heap.size rfl 26 (wdC D C) (0, 0) _ HR.out Try.underlying26 rfl HI.out ?_))
    refine bodyPost_ret (v := .tuple #[.int .u64 (D : Int), .int .i64 0, .int .i64 0, .int .i64 0]) (by simp [results, Try.results19, go_sem]) rfl ⟨rfl, hbel⟩
  · subst d; subst e
    have hS : ((S : Int) == 0) = false := by simp; exact h0
    go_enter Try.func19, Try.ntmps19
    go_wp2_with (first | (go_at_call 17; refine (HS.out _).mono ?_; rintro e w2 ⟨rfl, hb2⟩; obtain ⟨c0, c1, hrow, hbel⟩ := CB.out _ hb2) | (go_at_call 9; refine (HC.out _).mono ?_; rintro e w4 ⟨rfl, hb4⟩) | (refine wpList_load_row rfl 26 _ rfl w.heap.size rfl 26 (wdC D C) (0, 0) _ HR.out Try.underlying26 rfl HI.out ?_))
    refine bodyPost_ret (v := .tuple #[.int .u64 0, .int .i64 0, .int .i64 0, .int .i64 100]) (by simp [results, Try.results19, go_sem]) rfl ⟨rfl, hbel⟩
set_option maxRecDepth 100000 in
set_option maxHeartbeats 1600000 in
theorem refDecode_zero {W r : Nat} (h : Wid W r) (D C : Nat) (hD : D < 2 ^ W) (hC : C < 2 ^ (r + 1)) (hp : parS D C = 1) (h0 : synS W r D C = 0) (w : World) : Calls Try.prog 19 #[.int .i64 (W : Int), .agg (wdC D C)] w fun ee w' => ee = .returned (.tuple #[.int .u64 (D : Int), .int .i64 2, .int .i64 (r : Int), .int .i64 0]) ∧ Below w.heap.size w w' := by
  have HC : Hid (∀ w, Calls Try.prog 9 #[.int .i64 (W : Int)] w fun e w' => e = .returned (.tuple #[.int .i64 (r : Int), .int .i64 0]) ∧ w' = w) := fun w => refChecks_ok h w
  have HS : Hid (∀ w, Calls Try.prog 17 #[.int .i64 (W : Int), .agg (wdC D C)] w fun e w' => e = .returned (.tuple #[.int .i64 0, .bool true, .int .i64 0]) ∧ Below w.heap.size w w') := fun w => by have := refSyndrome_ok h D C hD hC w; rw [hp, h0] at this; exact this
  have CB : Hid (∀ w2, Below (w.alloc (.cells (wdC D C) 26)).heap.size (w.alloc (.cells (wdC D C) 26)) w2 → w2.cell? ⟨w.heap.size, 0, none⟩ = some (.int .u64 (D : Int)) ∧ w2.cell? ⟨w.heap.size, 1, none⟩ = some (.int .u8 (C : Int)) ∧ w2.heap[w.heap.size]? = some (.cells (wdC D C) 26 (0, 0)) ∧ Below w.heap.size w w2) := fun w2 hb => wd_next w D C _ w2 hb
  have HR : Hid ((w.alloc (.cells (wdC D C) (26 : TypeId))).heap[w.heap.size]? = some (.cells (wdC D C) (26 : TypeId) (0, 0))) := heap_alloc_last _ _
  obtain ⟨hz, hsz⟩ := zero_of_info Try.zeroRw
  have HI : Hid ((Try.prog.info? 26).map (·.size) = some 2) := hsz
  clear hsz hz hD hC hp h0
  go_enter Try.func19, Try.ntmps19
  go_wp2_with (first | (go_at_call 17; refine (HS.out _).mono ?_; rintro e w2 ⟨rfl, hb2⟩; obtain ⟨c0, c1, hrow, hbel⟩ := CB.out _ hb2) | (go_at_call 9; refine (HC.out _).mono ?_; rintro e w4 ⟨rfl, hb4⟩) | (refine wpList_load_row rfl 26 _ rfl w.heap.size rfl 26 (wdC D C) (0, 0) _ HR.out Try.underlying26 rfl HI.out ?_))
  all_goals try (apply False.elim; apply undef_bool0; assumption)
  refine bodyPost_ret (v := .tuple #[.int .u64 (D : Int), .int .i64 2, .int .i64 (r : Int), .int .i64 0]) (by simp [results, Try.results19, go_sem]) rfl ⟨rfl, hbel⟩
set_option maxRecDepth 100000 in
set_option maxHeartbeats 6400000 in
theorem refDecode_odd {W r : Nat} (h : Wid W r) (D C : Nat) (hD : D < 2 ^ W) (hC : C < 2 ^ (r + 1)) (hp : parS D C = 1) (h0 : synS W r D C ≠ 0) (a b : Nat) (har : a ≤ r) (hab : ∀ j < a, synS W r D C ≠ 2 ^ j) (haa : a < r → synS W r D C = 2 ^ a) (hbW : b ≤ W) (hbb : ∀ j < b, synS W r D C ≠ posS j) (hba : b < W → synS W r D C = posS b) (d k i e : Nat) (hres : (a < r ∧ d = D ∧ k = 2 ∧ i = a ∧ e = 0) ∨ (a = r ∧ b < W ∧ d = D ^^^ 2 ^ b ∧ k = 1 ∧ i = b ∧ e = 0) ∨ (a = r ∧ b = W ∧ d = 0 ∧ k = 0 ∧ i = 0 ∧ e = 100)) (w : World) : Calls Try.prog 19 #[.int .i64 (W : Int), .agg (wdC D C)] w fun ee w' => ee = .returned (.tuple #[.int .u64 (d : Int), .int .i64 (k : Int), .int .i64 (i : Int), .int .i64 (e : Int)]) ∧ Below w.heap.size w w' := by
  have hr := h.le
  have hD64 : D < 18446744073709551616 := Nat.lt_of_lt_of_le hD (Nat.pow_le_pow_right (n := 2) (by decide) hr.1)
  have hsl : synS W r D C < 128 := Nat.lt_of_lt_of_le (syn_lt h D C) (Nat.pow_le_pow_right (n := 2) (by decide) hr.2.1)
  have HC : Hid (∀ w, Calls Try.prog 9 #[.int .i64 (W : Int)] w fun e w' => e = .returned (.tuple #[.int .i64 (r : Int), .int .i64 0]) ∧ w' = w) := fun w => refChecks_ok h w
  have HPOS : Hid (∀ j : Nat, j < W → ∀ w, Calls Try.prog 38 #[.int .i64 (j : Int)] w fun e w' => e = .returned (.int .i64 (posS j : Int)) ∧ w' = w) := fun j hj w => refPosition_any j (by omega) w
  have HS : Hid (∀ w, Calls Try.prog 17 #[.int .i64 (W : Int), .agg (wdC D C)] w fun e w' => e = .returned (.tuple #[.int .i64 (synS W r D C : Int), .bool true, .int .i64 0]) ∧ Below w.heap.size w w') := fun w => by have := refSyndrome_ok h D C hD hC w; rw [hp] at this; exact this
  have CB : Hid (∀ w2, Below (w.alloc (.cells (wdC D C) 26)).heap.size (w.alloc (.cells (wdC D C) 26)) w2 → w2.cell? ⟨w.heap.size, 0, none⟩ = some (.int .u64 (D : Int)) ∧ w2.cell? ⟨w.heap.size, 1, none⟩ = some (.int .u8 (C : Int)) ∧ w2.heap[w.heap.size]? = some (.cells (wdC D C) 26 (0, 0)) ∧ Below w.heap.size w w2) := fun w2 hb => wd_next w D C _ w2 hb
  have HR : Hid ((w.alloc (.cells (wdC D C) (26 : TypeId))).heap[w.heap.size]? = some (.cells (wdC D C) (26 : TypeId) (0, 0))) := heap_alloc_last _ _
  obtain ⟨hz, hsz⟩ := zero_of_info Try.zeroRw
  have HI : Hid ((Try.prog.info? 26).map (·.size) = some 2) := hsz
  generalize synS W r D C = S at *
  have hS : ((S : Int) == 0) = false := by simp; exact h0
  have HAB := hidD hab
  have HAA := hidD haa
  have HBB := hidD hbb
  have HBA := hidD hba
  have HRES := hidD hres
  clear hsz hz hD hC hp h0 hab haa hbb hba hres
  go_enter Try.func19, Try.ntmps19
  go_wp2_with (first | (go_at_call 17; refine (HS.out _).mono ?_; rintro e w2 ⟨rfl, hb2⟩; obtain ⟨c0, c1, hrow, hbel⟩ := CB.out _ hb2) | (go_at_call 9; refine (HC.out _).mono ?_; rintro e w4 ⟨rfl, hb4⟩) | (refine wpList_load_row rfl 26 _ rfl w.heap.size rfl 26 (wdC D C) (0, 0) _ HR.out Try.underlying26 rfl HI.out ?_))
  all_goals try (apply False.elim; apply undef_bool0; assumption)
  have HBEL := hidD hbel
  clear HS HC CB HR hrow hbel hb2 c1
  go_loopw [13] (fun v wr => ∃ q : Nat, q ≤ a ∧ v = .int .i64 q ∧ wr = w2) (fun v _ => r - (intOf v).toNat)
  case atStart => exact ⟨0, Nat.zero_le _, rfl, rfl⟩
  case round =>
    obtain ⟨q, hq, rfl, rfl⟩ := hrel
    by_cases hlt : q < a
    · have hlti : (q : Int) < r := by omega
      have hne : ¬ (S : Int) = (2 : Int) ^ q := by
        have := HAB.out q hlt
        have h2 : ((2 ^ q : Nat) : Int) = (2 : Int) ^ q := by simp
        rw [← h2]; omega
      have hlt2 : (2 : Int) ^ q < 128 := by
        have h3 : 2 ^ q < 2 ^ 7 := Nat.pow_lt_pow_right (by decide) (by omega)
        have h2 : ((2 ^ q : Nat) : Int) = (2 : Int) ^ q := by simp
        rw [← h2]; omega
      have hge2 : (0 : Int) < (2 : Int) ^ q := Int.pow_pos (by decide)
      go_wp2_with fail
      go_roundw
      case rel => exact ⟨q + 1, by omega, by go_num, trivial⟩
      case measure => simp [intOf]; omega
    · obtain rfl : q = a := by omega
      by_cases hr2 : q < r
      · have hlti : (q : Int) < r := by omega
        have he : (S : Int) = (2 : Int) ^ q := by rw [HAA.out hr2]; simp
        have hlt2 : (2 : Int) ^ q < 128 := by rw [← he]; omega
        have hge2 : (0 : Int) < (2 : Int) ^ q := Int.pow_pos (by decide)
        go_wp2_with fail
        rcases HRES.out with ⟨_, rfl, rfl, rfl, rfl⟩ | ⟨g1, _⟩ | ⟨g1, _⟩
        · refine bodyPost_ret (v := .tuple #[.int .u64 (d : Int), .int .i64 2, .int .i64 (i : Int), .int .i64 0]) (by simp [results, Try.results19, go_sem]) rfl ⟨rfl, HBEL.out⟩
        · exact absurd g1 (by omega)
        · exact absurd g1 (by omega)
      · have hlti : ¬ (q : Int) < r := by omega
        obtain ⟨wo, hwo⟩ : ∃ wo, wo = wr := ⟨_, rfl⟩
        subst hwo
        go_wp2_with fail
        go_loopw [14] (fun v wr => ∃ j : Nat, j ≤ b ∧ v = .int .i64 j ∧ wr = wo) (fun v _ => W - (intOf v).toNat)
        case atStart => exact ⟨0, Nat.zero_le _, rfl, rfl⟩
        case round =>
          obtain ⟨j, hj, rfl, rfl⟩ := hrel
          by_cases hjlt : j < b
          · have hjli : (j : Int) < W := by omega
            have hne : ¬ (posS j : Int) = (S : Int) := by have := HBB.out j hjlt; omega
            have HPos := hidD (HPOS.out j (by omega))
            generalize posS j = PP at *
            go_wp2_with (go_at_call 38; refine (HPos.out _).mono ?_; rintro e wx ⟨rfl, hbx⟩)
            go_roundw
            case rel => exact ⟨j + 1, by omega, by go_num, trivial⟩
            case measure => simp [intOf]; omega
          · obtain rfl : j = b := by omega
            by_cases hjW : j < W
            · have hjli : (j : Int) < W := by omega
              have hje : (posS j : Int) = (S : Int) := by rw [HBA.out hjW]
              have HPos := hidD (HPOS.out j (by omega))
              rcases HRES.out with ⟨g1, _⟩ | ⟨_, _, g1, rfl, rfl, rfl⟩ | ⟨_, g1, _⟩
              · exact absurd g1 hr2
              · have h2A : 2 ^ i < 2 ^ 64 := Nat.pow_lt_pow_right (by decide) (by omega)
                have h2i : (2 : Int) ^ i = ((2 ^ i : Nat) : Int) := by simp
                have h2l : (2 : Int) ^ i < 18446744073709551616 := by rw [h2i]; omega
                have h2p : (0 : Int) < (2 : Int) ^ i := Int.pow_pos (by decide)
                have hm1 : (1 : Int) * 2 ^ i = 2 ^ i := Int.one_mul _
                have hm2 : (2 : Int) ^ i % 18446744073709551616 = 2 ^ i := by omega
                have hm3 : IntKind.u64.wrap ((2 : Int) ^ i) = 2 ^ i := hm2
                have hx : bits .xor .u64 (D : Int) ((2 : Int) ^ i) = (d : Int) := by rw [h2i, g1]; exact u64_xor_nat _ _ hD64 (by omega)
                have hA64 : i ≤ 64 := by omega
                clear h2A h2i g1
                generalize posS i = PP at *
                go_wp2_with (go_at_call 38; refine (HPos.out _).mono ?_; rintro e wx ⟨rfl, hbx⟩)
                refine bodyPost_ret (v := .tuple #[.int .u64 (d : Int), .int .i64 1, .int .i64 (i : Int), .int .i64 0]) (by simp [results, Try.results19, go_sem]) rfl ⟨rfl, HBEL.out⟩
              · exact absurd g1 (by omega)
            · have hjli : ¬ (j : Int) < W := by omega
              go_wp2_with fail
              rcases HRES.out with ⟨g1, _⟩ | ⟨_, g1, _⟩ | ⟨_, _, rfl, rfl, rfl, rfl⟩
              · exact absurd g1 hr2
              · exact absurd g1 hjW
              · refine bodyPost_ret (v := .tuple #[.int .u64 0, .int .i64 0, .int .i64 0, .int .i64 100]) (by simp [results, Try.results19, go_sem]) rfl ⟨rfl, HBEL.out⟩
/- all of it -/
theorem refDecode_ok {W r : Nat} (h : Wid W r) (D C : Nat) (hD : D < 2 ^ W) (hC : C < 2 ^ (r + 1)) (d k i e : Nat) (hdec : DecIs W r D C d k i e) (w : World) : Calls Try.prog 19 #[.int .i64 (W : Int), .agg (wdC D C)] w fun ee w' => ee = .returned (.tuple #[.int .u64 (d : Int), .int .i64 (k : Int), .int .i64 (i : Int), .int .i64 (e : Int)]) ∧ Below w.heap.size w w' := by
  cases hdec with
  | fine h0 hp => exact refDecode_even h D C hD hC hp D 0 (Or.inl ⟨h0, rfl, rfl⟩) w
  | two h0 hp => exact refDecode_even h D C hD hC hp 0 100 (Or.inr ⟨h0, rfl, rfl⟩) w
  | data _ hA hs hp =>
    rw [pat_data hA] at hs
    obtain ⟨q0, q1⟩ := chk_data h hA
    exact refDecode_odd h D C hD hC hp (by rw [← hs]; exact q0) r i (Nat.le_refl _) (fun j hj => by rw [← hs]; exact q1 j hj) (fun hlt => absurd hlt (Nat.lt_irrefl _)) (by omega) (fun j hj => by rw [← hs]; exact dat_before h hA j hj) (fun _ => hs.symm) _ _ _ _ (Or.inr (Or.inl ⟨rfl, hA, rfl, rfl, rfl, rfl⟩)) w
  | check A hW hA hs hp =>
    by_cases hl : A < W + r
    · have he := pat_check h (show A - W < r by omega)
      rw [show W + (A - W) = A by omega] at he
      have hp0 := Nat.two_pow_pos (A - W)
      have hs2 : synS W r D C = 2 ^ (A - W) := by rw [← hs, he]
      exact refDecode_odd h D C hD hC hp (by omega) (A - W) W (by omega) (fun j hj => by rw [hs2]; exact pow_before _ j hj) (fun _ => hs2) (Nat.le_refl _) (fun j hj e => (chk_data h hj).2 (A - W) (by omega) (by rw [← e, hs2])) (fun hlt => absurd hlt (Nat.lt_irrefl _)) _ _ _ _ (Or.inl ⟨by omega, rfl, rfl, rfl, rfl⟩) w
    · obtain rfl : A = W + r := by omega
      have := refDecode_zero h D C hD hC hp (by rw [← hs, pat_last h]) w
      rw [show W + r - W = r by omega]; exact this
  | lost hn hp =>
    exact refDecode_odd h D C hD hC hp (fun e => hn (W + r) (Nat.le_refl _) (by rw [pat_last h, e])) r W (Nat.le_refl _) (fun j hj e => hn (W + j) (by omega) (by rw [pat_check h hj, e])) (fun hlt => absurd hlt (Nat.lt_irrefl _)) (Nat.le_refl _) (fun j hj e => hn j (by omega) (by rw [pat_data hj, e])) (fun hlt => absurd hlt (Nat.lt_irrefl _)) _ _ _ _ (Or.inr (Or.inr ⟨rfl, rfl, rfl, rfl, rfl, rfl⟩)) w
end Go.Proofs.Ytjmaejdkdpiigaa
