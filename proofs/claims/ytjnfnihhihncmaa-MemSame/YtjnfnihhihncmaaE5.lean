/- What Decode of ecc answers. -/
import Derived.Test.YtjnfnihhihncmaaE4
namespace Go.Proofs.Ytjnfnihhihncmaa
open Go.RowKit
set_option linter.unusedVariables false

/- what a decoder tells of a word: data, kind, bit, error -/
inductive DecIs (W r D C : Nat) : Nat → Nat → Nat → Nat → Prop
  | fine : synS W r D C = 0 → parS D C = 0 → DecIs W r D C D 0 0 0
  | two : synS W r D C ≠ 0 → parS D C = 0 → DecIs W r D C 0 0 0 100
  | data (A : Nat) : A < W → patS W r A = synS W r D C → parS D C = 1 → DecIs W r D C (D ^^^ 2 ^ A) 1 A 0
  | check (A : Nat) : W ≤ A → A ≤ W + r → patS W r A = synS W r D C → parS D C = 1 → DecIs W r D C D 2 (A - W) 0
  | lost : (∀ A, A ≤ W + r → patS W r A ≠ synS W r D C) → parS D C = 1 → DecIs W r D C 0 0 0 100
theorem dec_some (W r D C : Nat) : ∃ d k i e, DecIs W r D C d k i e := by
  rcases par_two D C with h | h
  · by_cases h0 : synS W r D C = 0
    · exact ⟨_, _, _, _, .fine h0 h⟩
    · exact ⟨_, _, _, _, .two h0 h⟩
  · by_cases hA : ∃ A, A ≤ W + r ∧ patS W r A = synS W r D C
    · obtain ⟨A, h1, h2⟩ := hA
      by_cases h3 : A < W
      · exact ⟨_, _, _, _, .data A h3 h2 h⟩
      · exact ⟨_, _, _, _, .check A (by omega) h1 h2 h⟩
    · exact ⟨_, _, _, _, .lost (fun A h1 h2 => hA ⟨A, h1, h2⟩) h⟩
theorem pat_check {W r j : Nat} (h : Wid W r) (hj : j < r) : patS W r (W + j) = 2 ^ j := by
  unfold patS; rw [if_neg (by omega), if_pos (by omega)]; congr 1; omega
theorem pat_last {W r : Nat} (h : Wid W r) : patS W r (W + r) = 0 := by
  unfold patS; rw [if_neg (by omega), if_neg (by omega)]
theorem pat_data {W r j : Nat} (hj : j < W) : patS W r j = posS j := by unfold patS; rw [if_pos hj]
/- the first place at which checkBitAt and dataBitAt find a syndrome -/
theorem chk_data {W r A : Nat} (h : Wid W r) (hA : A < W) : posS A ≠ 0 ∧ ∀ j < r, posS A ≠ 2 ^ j := by
  have hp := (pat_ok h).1
  constructor
  · intro e
    have := hp A (by omega) (W + r) (Nat.le_refl _) (by rw [pat_data hA, pat_last h, e])
    omega
  · intro j hj e
    have := hp A (by omega) (W + j) (by omega) (by rw [pat_data hA, pat_check h hj, e])
    omega
theorem dat_before {W r A : Nat} (h : Wid W r) (hA : A < W) : ∀ j < A, posS A ≠ posS j := fun j hj e => by
  have := (pat_ok h).1 A (by omega) j (by omega) (by rw [pat_data hA, pat_data (by omega), e])
  omega
theorem pow_before (A : Nat) : ∀ j < A, 2 ^ A ≠ 2 ^ j := fun j hj e => by
  have := Nat.pow_lt_pow_right (a := 2) (by decide) hj
  omega

set_option maxRecDepth 100000 in
set_option maxHeartbeats 1600000 in
theorem decode_no (x : Int) (D C : Nat) (HV : Hid (∀ w, Calls Try.prog 58 #[.int .i64 x, .agg (wdC D C)] w fun e w' => e = .returned (.bool false) ∧ Below w.heap.size w w')) (w : World) : Calls Try.prog 51 #[.int .i64 x, .agg (wdC D C)] w fun e w' => e = .returned (.tuple #[.int .u64 0, .int .i64 0, .int .i64 0, .int .i64 1]) ∧ Below w.heap.size w w' := by
  have HS : Hid (∀ w, Calls Try.prog 71 #[.int .i64 x, .agg (wdC D C)] w fun e w' => e = .returned (.tuple #[.int .i64 0, .bool false, .int .i64 1]) ∧ Below w.heap.size w w') := fun w => syndrome_no x D C HV w
  have HR : Hid ((w.alloc (.cells (wdC D C) (58 : TypeId))).heap[w.heap.size]? = some (.cells (wdC D C) (58 : TypeId) (0, 0))) := heap_alloc_last _ _
  have HB : Hid (Below w.heap.size w (w.alloc (.cells (wdC D C) 58))) := (Below.refl _ _).alloc (Nat.le_refl _) _
  obtain ⟨hz, hsz⟩ := zero_of_info Try.zeroWd
  have HI : Hid ((Try.prog.info? 58).map (·.size) = some 2) := hsz
  clear hsz hz HV
  go_enter Try.func51, Try.ntmps51
  go_wp2_with (first | (go_at_call 71; refine (HS.out _).mono ?_; rintro e w2 ⟨rfl, hb2⟩) | (refine wpList_load_row rfl 58 _ rfl w.heap.size rfl 58 (wdC D C) (0, 0) _ HR.out Try.underlying58 rfl HI.out ?_))
  refine bodyPost_ret (v := .tuple #[.int .u64 0, .int .i64 0, .int .i64 0, .int .i64 1]) (by simp [results, Try.results51, go_sem]) rfl ⟨rfl, Below.next HB.out hb2⟩

set_option maxRecDepth 100000 in
set_option maxHeartbeats 3200000 in
theorem decode_ok {W r : Nat} (h : Wid W r) (D C : Nat) (hD : D < 2 ^ W) (hC : C < 2 ^ (r + 1)) (d k i e : Nat) (hdec : DecIs W r D C d k i e) (w : World) : Calls Try.prog 51 #[.int .i64 (W : Int), .agg (wdC D C)] w fun ee w' => ee = .returned (.tuple #[.int .u64 (d : Int), .int .i64 (k : Int), .int .i64 (i : Int), .int .i64 (e : Int)]) ∧ Below w.heap.size w w' := by
  have hr := h.le
  have hD64 : D < 18446744073709551616 := Nat.lt_of_lt_of_le hD (Nat.pow_le_pow_right (n := 2) (by decide) hr.1)
  have HS : Hid (∀ w, Calls Try.prog 71 #[.int .i64 (W : Int), .agg (wdC D C)] w fun e w' => e = .returned (.tuple #[.int .i64 (synS W r D C : Int), .bool (decide (parS D C = 1)), .int .i64 0]) ∧ Below w.heap.size w w') := fun w => syndrome_ok h D C hD hC w
  have CB : Hid (∀ w2, Below (w.alloc (.cells (wdC D C) 58)).heap.size (w.alloc (.cells (wdC D C) 58)) w2 → w2.cell? ⟨w.heap.size, 0, none⟩ = some (.int .u64 (D : Int)) ∧ w2.cell? ⟨w.heap.size, 1, none⟩ = some (.int .u8 (C : Int)) ∧ w2.heap[w.heap.size]? = some (.cells (wdC D C) 58 (0, 0)) ∧ Below w.heap.size w w2) := fun w2 hb => wd_next w D C _ w2 hb
  have HR : Hid ((w.alloc (.cells (wdC D C) (58 : TypeId))).heap[w.heap.size]? = some (.cells (wdC D C) (58 : TypeId) (0, 0))) := heap_alloc_last _ _
  obtain ⟨hz, hsz⟩ := zero_of_info Try.zeroWd
  have HI : Hid ((Try.prog.info? 58).map (·.size) = some 2) := hsz
  clear hsz hz
  have hsl : synS W r D C < 128 := Nat.lt_of_lt_of_le (syn_lt h D C) (Nat.pow_le_pow_right (n := 2) (by decide) hr.2.1)
  cases hdec with
  | fine h0 hp =>
    rw [h0, hp] at HS
    go_enter Try.func51, Try.ntmps51
    go_wp2_with (first | (go_at_call 71; refine (HS.out _).mono ?_; rintro e w2 ⟨rfl, hb2⟩; obtain ⟨c0, c1, hrow, hbel⟩ := CB.out _ hb2) | (refine wpList_load_row rfl 58 _ rfl w.heap.size rfl 58 (wdC D C) (0, 0) _ HR.out Try.underlying58 rfl HI.out ?_))
    refine bodyPost_ret (v := .tuple #[.int .u64 (D : Int), .int .i64 0, .int .i64 0, .int .i64 0]) (by simp [results, Try.results51, go_sem]) rfl ⟨rfl, hbel⟩
  | two h0 hp =>
    rw [hp] at HS
    generalize synS W r D C = S at *
    have hS : ((S : Int) == 0) = false := by simp; exact h0
    go_enter Try.func51, Try.ntmps51
    go_wp2_with (first | (go_at_call 71; refine (HS.out _).mono ?_; rintro e w2 ⟨rfl, hb2⟩; obtain ⟨c0, c1, hrow, hbel⟩ := CB.out _ hb2) | (refine wpList_load_row rfl 58 _ rfl w.heap.size rfl 58 (wdC D C) (0, 0) _ HR.out Try.underlying58 rfl HI.out ?_))
    refine bodyPost_ret (v := .tuple #[.int .u64 0, .int .i64 0, .int .i64 0, .int .i64 100]) (by simp [results, Try.results51, go_sem]) rfl ⟨rfl, hbel⟩
  | data _ hA hs hp =>
    rw [hp] at HS
    rw [pat_data hA] at hs
    obtain ⟨q0, q1⟩ := chk_data h hA
    have HK : Hid (∀ w, Calls Try.prog 72 #[.int .i64 (posS i : Int), .int .i64 (W : Int)] w fun e w' => e = .returned (.tuple #[.int .i64 0, .bool false]) ∧ w' = w) := fun w => by
      have := checkBitAt_any h (posS i) r (by rw [hs]; exact hsl) q0 (Nat.le_refl _) (fun j hj => q1 j hj) (fun hlt => absurd hlt (Nat.lt_irrefl _)) w
      rw [if_neg (Nat.lt_irrefl _), decide_eq_false (Nat.lt_irrefl _)] at this; exact this
    have HDt : Hid (∀ w, Calls Try.prog 73 #[.int .i64 (posS i : Int), .int .i64 (W : Int)] w fun e w' => e = .returned (.tuple #[.int .i64 (i : Int), .bool true]) ∧ w' = w) := fun w => by
      have := dataBitAt_any h (posS i) i (by rw [hs]; exact hsl) (by omega) (dat_before h hA) (fun _ => rfl) w
      rw [if_pos hA, decide_eq_true hA] at this; exact this
    have hS : ((posS i : Int) == 0) = false := by simp; exact q0
    rw [← hs] at HS hsl
    have h2A : 2 ^ i < 2 ^ 64 := Nat.pow_lt_pow_right (by decide) (by omega)
    have h2i : (2 : Int) ^ i = ((2 ^ i : Nat) : Int) := by simp
    have h2l : (2 : Int) ^ i < 18446744073709551616 := by rw [h2i]; omega
    have h2p : (0 : Int) < (2 : Int) ^ i := Int.pow_pos (by decide)
    have hm1 : (1 : Int) * 2 ^ i = 2 ^ i := Int.one_mul _
    have hm2 : (2 : Int) ^ i % 18446744073709551616 = 2 ^ i := by omega
    have hm3 : IntKind.u64.wrap ((2 : Int) ^ i) = 2 ^ i := hm2
    have hx : bits .xor .u64 (D : Int) ((2 : Int) ^ i) = ((D ^^^ 2 ^ i : Nat) : Int) := by rw [h2i]; exact u64_xor_nat _ _ hD64 (by omega)
    have hA64 : i ≤ 64 := by omega
    clear q0 q1 hs hD hC h2i h2A
    generalize posS i = S at *
    generalize D ^^^ 2 ^ i = R at *
    go_enter Try.func51, Try.ntmps51
    go_wp2_with (first | (go_at_call 71; refine (HS.out _).mono ?_; rintro e w2 ⟨rfl, hb2⟩; obtain ⟨c0, c1, hrow, hbel⟩ := CB.out _ hb2) | (go_at_call 72; refine (HK.out _).mono ?_; rintro e w3 ⟨rfl, hb3⟩) | (go_at_call 73; refine (HDt.out _).mono ?_; rintro e w3 ⟨rfl, hb3⟩) | (refine wpList_load_row rfl 58 _ rfl w.heap.size rfl 58 (wdC D C) (0, 0) _ HR.out Try.underlying58 rfl HI.out ?_))
    go_quiet (fail)
    go_wp2_with fail
    refine bodyPost_ret (v := .tuple #[.int .u64 (R : Int), .int .i64 1, .int .i64 (i : Int), .int .i64 0]) (by simp [results, Try.results51, go_sem]) rfl ⟨rfl, below_drewN hbel _⟩
  | check A hW hA hs hp =>
    rw [hp] at HS
    have HK : Hid (∀ w, Calls Try.prog 72 #[.int .i64 (synS W r D C : Int), .int .i64 (W : Int)] w fun e w' => e = .returned (.tuple #[.int .i64 ((A - W : Nat) : Int), .bool true]) ∧ w' = w) := fun w => by
      by_cases hl : A < W + r
      · have he := pat_check h (show A - W < r by omega)
        rw [show W + (A - W) = A by omega] at he
        rw [← hs, he]
        have hp0 := Nat.two_pow_pos (A - W)
        have := checkBitAt_any h (2 ^ (A - W)) (A - W) (by rw [← he, hs]; exact hsl) (by omega) (by omega) (pow_before _) (fun _ => rfl) w
        rw [if_pos (by omega), decide_eq_true (by omega)] at this; exact this
      · obtain rfl : A = W + r := by omega
        rw [← hs, pat_last h, show W + r - W = r by omega]
        exact checkBitAt_zero h w
    clear hs
    have hAW : A - W ≤ 8 := by omega
    generalize A - W = J at *
    generalize synS W r D C = S at *
    rcases Nat.eq_zero_or_pos S with hS0 | hS0
    · subst hS0
      go_enter Try.func51, Try.ntmps51
      go_wp2_with (first | (go_at_call 71; refine (HS.out _).mono ?_; rintro e w2 ⟨rfl, hb2⟩; obtain ⟨c0, c1, hrow, hbel⟩ := CB.out _ hb2) | (go_at_call 72; refine (HK.out _).mono ?_; rintro e w3 ⟨rfl, hb3⟩) | (refine wpList_load_row rfl 58 _ rfl w.heap.size rfl 58 (wdC D C) (0, 0) _ HR.out Try.underlying58 rfl HI.out ?_))
      refine bodyPost_ret (v := .tuple #[.int .u64 (D : Int), .int .i64 2, .int .i64 (J : Int), .int .i64 0]) (by simp [results, Try.results51, go_sem]) rfl ⟨rfl, hbel⟩
    · have hS : ((S : Int) == 0) = false := by simp; omega
      go_enter Try.func51, Try.ntmps51
      go_wp2_with (first | (go_at_call 71; refine (HS.out _).mono ?_; rintro e w2 ⟨rfl, hb2⟩; obtain ⟨c0, c1, hrow, hbel⟩ := CB.out _ hb2) | (go_at_call 72; refine (HK.out _).mono ?_; rintro e w3 ⟨rfl, hb3⟩) | (refine wpList_load_row rfl 58 _ rfl w.heap.size rfl 58 (wdC D C) (0, 0) _ HR.out Try.underlying58 rfl HI.out ?_))
      refine bodyPost_ret (v := .tuple #[.int .u64 (D : Int), .int .i64 2, .int .i64 (J : Int), .int .i64 0]) (by simp [results, Try.results51, go_sem]) rfl ⟨rfl, hbel⟩
  | lost hn hp =>
    rw [hp] at HS
    have q0 : synS W r D C ≠ 0 := fun e => hn (W + r) (Nat.le_refl _) (by rw [pat_last h, e])
    have HK : Hid (∀ w, Calls Try.prog 72 #[.int .i64 (synS W r D C : Int), .int .i64 (W : Int)] w fun e w' => e = .returned (.tuple #[.int .i64 0, .bool false]) ∧ w' = w) := fun w => by
      have := checkBitAt_any h (synS W r D C) r hsl q0 (Nat.le_refl _) (fun j hj e => hn (W + j) (by omega) (by rw [pat_check h hj, e])) (fun hlt => absurd hlt (Nat.lt_irrefl _)) w
      rw [if_neg (Nat.lt_irrefl _), decide_eq_false (Nat.lt_irrefl _)] at this; exact this
    have HDt : Hid (∀ w, Calls Try.prog 73 #[.int .i64 (synS W r D C : Int), .int .i64 (W : Int)] w fun e w' => e = .returned (.tuple #[.int .i64 0, .bool false]) ∧ w' = w) := fun w => by
      have := dataBitAt_any h (synS W r D C) W hsl (Nat.le_refl _) (fun j hj e => hn j (by omega) (by rw [pat_data hj, e])) (fun hlt => absurd hlt (Nat.lt_irrefl _)) w
      rw [if_neg (Nat.lt_irrefl _), decide_eq_false (Nat.lt_irrefl _)] at this; exact this
    clear hn
    generalize synS W r D C = S at *
    have hS : ((S : Int) == 0) = false := by simp; exact q0
    go_enter Try.func51, Try.ntmps51
    go_wp2_with (first | (go_at_call 71; refine (HS.out _).mono ?_; rintro e w2 ⟨rfl, hb2⟩; obtain ⟨c0, c1, hrow, hbel⟩ := CB.out _ hb2) | (go_at_call 72; refine (HK.out _).mono ?_; rintro e w3 ⟨rfl, hb3⟩) | (go_at_call 73; refine (HDt.out _).mono ?_; rintro e w3 ⟨rfl, hb3⟩) | (refine wpList_load_row rfl 58 _ rfl w.heap.size rfl 58 (wdC D C) (0, 0) _ HR.out Try.underlying58 rfl HI.out ?_))
    refine bodyPost_ret (v := .tuple #[.int .u64 0, .int .i64 0, .int .i64 0, .int .i64 100]) (by simp [results, Try.results51, go_sem]) rfl ⟨rfl, hbel⟩
end Go.Proofs.Ytjnfnihhihncmaa
