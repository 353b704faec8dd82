/- Texts of one proof, one behind the other. -/
import Derived.Test.YtgefampdfhbmbaaAs7
import Derived.Laws.StructEq
/- Plain facts: the substitution's parts as the program works them out. -/
namespace Go.Proofs.Ytgefampdfhbmbaa
set_option linter.unusedVariables false

/- Affine and its inverse by turned bytes -/
def affQ (b : Nat) : Bool := (b ^^^ rolS b 1 ^^^ rolS b 2 ^^^ rolS b 3 ^^^ rolS b 4 ^^^ 99) == (affS (UInt8.ofNat b)).toNat
theorem affQ_all : ((List.range 256).all fun b => affQ b) = true := by decide +kernel
theorem aff_turns {b : Nat} (h : b < 256) : b ^^^ rolS b 1 ^^^ rolS b 2 ^^^ rolS b 3 ^^^ rolS b 4 ^^^ 99 = (affS (UInt8.ofNat b)).toNat :=
  eq_of_beq (List.all_eq_true.1 affQ_all b (by simpa using h))
def unaS (b : Nat) : Nat := rolS b 1 ^^^ rolS b 3 ^^^ rolS b 6 ^^^ 5
def unaQ (b : Nat) : Bool := Nat.blt (unaS b) 256 && (ivs (UInt8.ofNat (unaS b))).toNat == usN b
theorem unaQ_all : ((List.range 256).all fun b => unaQ b) = true := by decide +kernel
theorem una_at {b : Nat} (h : b < 256) : unaS b < 256 ∧ (inv 27 (UInt8.ofNat (unaS b))).toNat = usN b := by
  obtain ⟨h1, h2⟩ := Bool.and_eq_true_iff.1 (List.all_eq_true.1 unaQ_all b (by simpa using h))
  exact ⟨by simpa using h1, by rw [inv_ivs]; exact eq_of_beq h2⟩
/- a column of one byte -/
theorem mix_same {c : Nat → UInt8} (h1 : c 1 = c 0) (h2 : c 2 = c 0) (h3 : c 3 = c 0) {m : Nat → UInt8} (hm : (m 0 ^^^ m 1 ^^^ m 2 ^^^ m 3) = 1) {i : Nat} (hi : i < 4) : mixS c m i = c i := by
  have hc : ∀ j, c (j % 4) = c 0 := fun j => by
    have : j % 4 = 0 ∨ j % 4 = 1 ∨ j % 4 = 2 ∨ j % 4 = 3 := by omega
    rcases this with h | h | h | h <;> rw [h] <;> assumption
  have : mixS c m i = bm 27 (c 0) (m 0 ^^^ m 1 ^^^ m 2 ^^^ m 3) := by
    rw [bm_xor', bm_xor', bm_xor']
    unfold mixS
    simp only [mixTo, hc]
    simp
  rw [this, hm, bm_one]
  have := hc i
  rw [Nat.mod_eq_of_lt hi] at this; exact this.symm
end Go.Proofs.Ytgefampdfhbmbaa
/- What the program's Affine, Sub, Unsub answer. -/
namespace Go.Proofs.Ytgefampdfhbmbaa
open Go.RowKit
set_option linter.unusedVariables false

theorem turned_any (b k : Nat) (hb : b < 256) (hk1 : 1 ≤ k) (hk2 : k ≤ 7) (w : World) : Calls Try.prog 88 #[.int .u8 (b : Int), .int .i64 (k : Int)] w fun e w' => e = .returned (.int .u8 ((rolS b k : Nat) : Int)) ∧ Below w.heap.size w w' := by
  have HS := hidD (rol_walk (b := b) (k := k) hb)
  have hk8 : (8 : Int) - k = ((8 - k : Nat) : Int) := by omega
  have hwr : IntKind.i64.wrap ((8 : Int) - k) = ((8 - k : Nat) : Int) := by rw [IntKind.wrap_i64]; omega
  have hd : 1 ≤ 8 - k := by omega
  have hd2 : 8 - k ≤ 8 := by omega
  generalize 8 - k = d at *
  clear hk8
  go_enter Try.func88, Try.ntmps88
  go_wp2_with fail
  go_quiet (fail)
  go_wp2_with fail
  refine bodyPost_ret (v := .int .u8 ((rolS b k : Nat) : Int)) (by simp [results, Try.results88, go_sem]; exact HS.out) rfl ?_
  exact ⟨rfl, below_drewN (Below.refl _ _) _⟩
set_option maxRecDepth 100000 in
set_option maxHeartbeats 400000 in
theorem pAffine_any (b : UInt8) (w : World) : Calls Try.prog 80 #[.int .u8 (b.toNat : Int)] w fun e w' => e = .returned (.int .u8 ((affS b).toNat : Int)) ∧ Below w.heap.size w w' := by
  have hb : b.toNat < 256 := b.toNat_lt
  have HE : Hid (bits .xor .u8 (bits .xor .u8 (bits .xor .u8 (bits .xor .u8 (bits .xor .u8 (b.toNat : Int) ((rolS b.toNat 1 : Nat) : Int)) ((rolS b.toNat 2 : Nat) : Int)) ((rolS b.toNat 3 : Nat) : Int)) ((rolS b.toNat 4 : Nat) : Int)) 99 = ((affS b).toNat : Int)) := by
    show _ = _
    have h1 := rol_lt (k := 1) hb
    have h2 := rol_lt (k := 2) hb
    have h3 := rol_lt (k := 3) hb
    have h4 := rol_lt (k := 4) hb
    rw [u8_xor_nat _ _ hb h1, u8_xor_nat _ _ (xor256 hb h1) h2, u8_xor_nat _ _ (xor256 (xor256 hb h1) h2) h3, u8_xor_nat _ _ (xor256 (xor256 (xor256 hb h1) h2) h3) h4]
    rw [show (99 : Int) = ((99 : Nat) : Int) from rfl, u8_xor_nat _ _ (xor256 (xor256 (xor256 (xor256 hb h1) h2) h3) h4) (by omega), aff_turns hb]
    congr 2
    rw [UInt8.ofNat_toNat]
  have HT1 : Hid (∀ w, Calls Try.prog 88 #[.int .u8 (b.toNat : Int), .int .i64 1] w fun e w' => e = .returned (.int .u8 ((rolS b.toNat 1 : Nat) : Int)) ∧ Below w.heap.size w w') := fun w => turned_any b.toNat 1 hb (by omega) (by omega) w
  have HT2 : Hid (∀ w, Calls Try.prog 88 #[.int .u8 (b.toNat : Int), .int .i64 2] w fun e w' => e = .returned (.int .u8 ((rolS b.toNat 2 : Nat) : Int)) ∧ Below w.heap.size w w') := fun w => turned_any b.toNat 2 hb (by omega) (by omega) w
  have HT3 : Hid (∀ w, Calls Try.prog 88 #[.int .u8 (b.toNat : Int), .int .i64 3] w fun e w' => e = .returned (.int .u8 ((rolS b.toNat 3 : Nat) : Int)) ∧ Below w.heap.size w w') := fun w => turned_any b.toNat 3 hb (by omega) (by omega) w
  have HT4 : Hid (∀ w, Calls Try.prog 88 #[.int .u8 (b.toNat : Int), .int .i64 4] w fun e w' => e = .returned (.int .u8 ((rolS b.toNat 4 : Nat) : Int)) ∧ Below w.heap.size w w') := fun w => turned_any b.toNat 4 hb (by omega) (by omega) w
  generalize ((rolS b.toNat 1 : Nat) : Int) = r1 at *
  generalize ((rolS b.toNat 2 : Nat) : Int) = r2 at *
  generalize ((rolS b.toNat 3 : Nat) : Int) = r3 at *
  generalize ((rolS b.toNat 4 : Nat) : Int) = r4 at *
  generalize ((affS b).toNat : Int) = R at *
  generalize (b.toNat : Int) = B at *
  clear hb
  go_enter Try.func80, Try.ntmps80
  go_wp2_with (first | (go_at_call 88; refine (HT1.out _).mono ?_; rintro e w1 ⟨rfl, hb1⟩; clear HT1) | (go_at_call 88; refine (HT2.out _).mono ?_; rintro e w2 ⟨rfl, hb2⟩; clear HT2) | (go_at_call 88; refine (HT3.out _).mono ?_; rintro e w3 ⟨rfl, hb3⟩; clear HT3) | (go_at_call 88; refine (HT4.out _).mono ?_; rintro e w4 ⟨rfl, hb4⟩; clear HT4))
  refine bodyPost_ret (v := .int .u8 R) (by simp [results, Try.results80, go_sem]; exact HE.out) rfl ?_
  exact ⟨rfl, ((Below.next (Below.next (Below.next hb1 hb2) hb3) hb4))⟩

set_option maxRecDepth 100000 in
set_option maxHeartbeats 400000 in
theorem pUna_any (b : Nat) (hb : b < 256) (w : World) : Calls Try.prog 87 #[.int .u8 (b : Int)] w fun e w' => e = .returned (.int .u8 ((unaS b : Nat) : Int)) ∧ Below w.heap.size w w' := by
  have HE : Hid (bits .xor .u8 (bits .xor .u8 (bits .xor .u8 ((rolS b 1 : Nat) : Int) ((rolS b 3 : Nat) : Int)) ((rolS b 6 : Nat) : Int)) 5 = ((unaS b : Nat) : Int)) := by
    show _ = _
    have h1 := rol_lt (k := 1) hb
    have h3 := rol_lt (k := 3) hb
    have h6 := rol_lt (k := 6) hb
    rw [u8_xor_nat _ _ h1 h3, u8_xor_nat _ _ (xor256 h1 h3) h6]
    rw [show (5 : Int) = ((5 : Nat) : Int) from rfl, u8_xor_nat _ _ (xor256 (xor256 h1 h3) h6) (by omega)]
    rfl
  have HT1 : Hid (∀ w, Calls Try.prog 88 #[.int .u8 (b : Int), .int .i64 1] w fun e w' => e = .returned (.int .u8 ((rolS b 1 : Nat) : Int)) ∧ Below w.heap.size w w') := fun w => turned_any b 1 hb (by omega) (by omega) w
  have HT3 : Hid (∀ w, Calls Try.prog 88 #[.int .u8 (b : Int), .int .i64 3] w fun e w' => e = .returned (.int .u8 ((rolS b 3 : Nat) : Int)) ∧ Below w.heap.size w w') := fun w => turned_any b 3 hb (by omega) (by omega) w
  have HT6 : Hid (∀ w, Calls Try.prog 88 #[.int .u8 (b : Int), .int .i64 6] w fun e w' => e = .returned (.int .u8 ((rolS b 6 : Nat) : Int)) ∧ Below w.heap.size w w') := fun w => turned_any b 6 hb (by omega) (by omega) w
  generalize ((rolS b 1 : Nat) : Int) = r1 at *
  generalize ((rolS b 3 : Nat) : Int) = r3 at *
  generalize ((rolS b 6 : Nat) : Int) = r6 at *
  generalize ((unaS b : Nat) : Int) = R at *
  generalize (b : Int) = B at *
  clear hb
  go_enter Try.func87, Try.ntmps87
  go_wp2_with (first | (go_at_call 88; refine (HT1.out _).mono ?_; rintro e w1 ⟨rfl, hb1⟩; clear HT1) | (go_at_call 88; refine (HT3.out _).mono ?_; rintro e w3 ⟨rfl, hb3⟩; clear HT3) | (go_at_call 88; refine (HT6.out _).mono ?_; rintro e w6 ⟨rfl, hb6⟩; clear HT6))
  refine bodyPost_ret (v := .int .u8 R) (by simp [results, Try.results87, go_sem]; exact HE.out) rfl ?_
  exact ⟨rfl, Below.next (Below.next hb1 hb3) hb6⟩

theorem pSub_any (b : UInt8) (w : World) : Calls Try.prog 68 #[.int .u8 (b.toNat : Int)] w fun e w' => e = .returned (.int .u8 ((subS b).toNat : Int)) ∧ Below w.heap.size w w' := by
  have HI := hidD (fun w => inverse_any b w)
  have HA := hidD (fun w => pAffine_any (inv 27 b) w)
  rw [show affS (inv 27 b) = subS b from rfl] at HA
  generalize ((inv 27 b).toNat : Int) = X at *
  generalize ((subS b).toNat : Int) = R at *
  go_enter Try.func68, Try.ntmps68
  go_wp2_with (first | (go_at_call 81; refine (HI.out _).mono ?_; rintro e w2 ⟨rfl, rfl⟩; clear HI) | (go_at_call 80; refine (HA.out _).mono ?_; rintro e w3 ⟨rfl, hb3⟩))
  go_ret
  exact ⟨rfl, hb3⟩
theorem pUnsub_any (b : UInt8) (w : World) : Calls Try.prog 78 #[.int .u8 (b.toNat : Int)] w fun e w' => e = .returned (.int .u8 (unsS b : Int)) ∧ Below w.heap.size w w' := by
  have hu := una_at b.toNat_lt
  have HA := hidD (fun w => pUna_any b.toNat b.toNat_lt w)
  have HI : Hid (∀ w, Calls Try.prog 81 #[.int .u8 ((unaS b.toNat : Nat) : Int)] w fun e w' => e = .returned (.int .u8 (unsS b : Int)) ∧ w' = w) := fun w => by
    have := inverse_any (UInt8.ofNat (unaS b.toNat)) w
    rw [u8_nat hu.1, hu.2] at this
    exact this
  clear hu
  generalize ((unaS b.toNat : Nat) : Int) = X at *
  generalize (unsS b : Int) = R at *
  go_enter Try.func78, Try.ntmps78
  go_wp2_with (first | (go_at_call 87; refine (HA.out _).mono ?_; rintro e w3 ⟨rfl, hb3⟩) | (go_at_call 81; refine (HI.out _).mono ?_; rintro e w2 ⟨rfl, rfl⟩; clear HI))
  go_ret
  exact ⟨rfl, hb3⟩
end Go.Proofs.Ytgefampdfhbmbaa
/- What the program's Mix, Unmix, Column and Round answer. -/
namespace Go.Proofs.Ytgefampdfhbmbaa
open Go.RowKit
set_option linter.unusedVariables false

theorem eqP22 (a : Int) (w : World) : (Op.equalIn 10000 64 (.agg #[.int .u8 a, .int .u8 a, .int .u8 a, .int .u8 a]) (.agg #[.int .u8 a, .int .u8 a, .int .u8 a, .int .u8 a])).run Try.prog w = .ok true w := by
  have u5 := Try.underlying5
  have a5 := Try.isAgg5
  have z5 := Try.sizeOf5
  rw [show (10000 : Nat) = 9999 + 1 from rfl, Op.equalIn]
  simp only [Sem.run_bind, run_underlying Try.underlying64, Result.andThen_ok]
  simp only [Std.Legacy.Range.forIn_eq_forIn_range', Std.Legacy.Range.size, Nat.sub_zero, Nat.add_sub_cancel, Nat.div_one, List.range'_succ, List.range'_zero, List.forIn_cons, List.forIn_nil]
  go_simp
theorem neP22 (a b c d : Int) (h : ¬ (b = a ∧ c = a ∧ d = a)) (w : World) : (Op.equalIn 10000 64 (.agg #[.int .u8 a, .int .u8 b, .int .u8 c, .int .u8 d]) (.agg #[.int .u8 a, .int .u8 a, .int .u8 a, .int .u8 a])).run Try.prog w = .ok false w := by
  have u5 := Try.underlying5
  have a5 := Try.isAgg5
  have z5 := Try.sizeOf5
  rw [show (10000 : Nat) = 9999 + 1 from rfl, Op.equalIn]
  simp only [Sem.run_bind, run_underlying Try.underlying64, Result.andThen_ok]
  simp only [Std.Legacy.Range.forIn_eq_forIn_range', Std.Legacy.Range.size, Nat.sub_zero, Nat.add_sub_cancel, Nat.div_one, List.range'_succ, List.range'_zero, List.forIn_cons, List.forIn_nil]
  by_cases hb : b = a
  · subst hb
    by_cases hc : c = b
    · subst hc
      have hd : ¬ d = c := fun hd => h ⟨rfl, rfl, hd⟩
      have hd' : (d == c) = false := by simpa using hd
      clear h
      go_simp
    · have hc' : (c == b) = false := by simpa using hc
      clear h
      go_simp
  · have hb' : (b == a) = false := by simpa using hb
    clear h
    go_simp
theorem index4 (C : Array Value) (k : Nat) (u : Value) (hk : k < 4) (h : C[k]? = some u) (w : World) : (Instr.index 64 (.agg C) (.int .i64 (k : Int))).run Try.prog w = .ok u w := by
  have hu : Try.prog.underlying 64 = some (.array 4 5) := by kernel_rfl
  have hpk : Try.prog.plainKey 5 = true := by kernel_rfl
  have hc : Try.prog.cellsOf 5 = 1 := by kernel_rfl
  obtain ⟨i0, hi, _⟩ := info_parts Try.info5
  have hn : (0 : Int) ≤ (k : Int) ∧ (k : Int) < ((4 : Nat) : Int) := by omega
  have hp := run_part_plain (P := Try.prog) (w := w) hpk (xs := C) (off := k) (v := u) h
  simp only [Instr.index, asIntOf, Sem.run_bind, Sem.run_pure, Result.andThen_ok, run_underlying hu, if_pos hn, run_sizeOf w hi, hc, Nat.mul_one, Int.toNat_natCast, hp]
set_option maxRecDepth 100000 in
set_option maxHeartbeats 800000 in
theorem pMixed_same (c0 m0 m1 m2 m3 : Int) (w : World) : Calls Try.prog 82 #[.agg #[.int .u8 c0, .int .u8 c0, .int .u8 c0, .int .u8 c0], .agg #[.int .u8 m0, .int .u8 m1, .int .u8 m2, .int .u8 m3]] w fun e w' => e = .returned (.agg #[.int .u8 c0, .int .u8 c0, .int .u8 c0, .int .u8 c0]) ∧ Below w.heap.size w w' := by
  obtain ⟨hz, hsz⟩ := zero_of_info Try.zero64'
  have heq := fun w => eqP22 c0 w
  have HONE : Hid ((#[.int .u8 c0, .int .u8 c0, .int .u8 c0, .int .u8 c0] : Array Value).all (·.oneCell') = true) := rowZ_one .u8 4 (fun _ => c0)
  obtain ⟨b1, b2, b3, b4, b5⟩ := three_blocks w #[.int .u8 c0, .int .u8 c0, .int .u8 c0, .int .u8 c0] #[.int .u8 m0, .int .u8 m1, .int .u8 m2, .int .u8 m3] #[.int .u8 0, .int .u8 0, .int .u8 0, .int .u8 0] 64
  have B1 := hidD b1
  have B3 := hidD b3
  have B4 := hidD b4
  have B5 := hidD b5
  clear b1 b2 b3 b4 b5
  go_enter Try.func82, Try.ntmps82
  go_wp2_with (first | (refine wpList_load_row rfl 64 _ rfl w.heap.size rfl 64 #[.int .u8 c0, .int .u8 c0, .int .u8 c0, .int .u8 c0] (0, 0) _ B1.out Try.underlying64 rfl (by rw [hsz]; rfl) ?_; generalize hW : World.alloc _ (Obj.cells #[.int .u8 0, .int .u8 0, .int .u8 0, .int .u8 0] (64 : TypeId)) = W; have W1 : W.heap[w.heap.size]? = some (.cells #[.int .u8 c0, .int .u8 c0, .int .u8 c0, .int .u8 c0] (64 : TypeId) (0, 0)) := (by rw [← hW]; exact B1.out); have W3 : Hid (W.heap[w.heap.size + 1 + 1]? = some (.cells #[.int .u8 0, .int .u8 0, .int .u8 0, .int .u8 0] (64 : TypeId) (0, 0))) := (by rw [← hW]; exact B3.out); have W4 : Hid (Below w.heap.size w W) := (by rw [← hW]; exact B4.out); have hcell := (col_cells W1).1; have HW1 := hidD W1; clear hW W1 B1 B3 B4) | (refine wpList_load_row rfl 64 _ rfl w.heap.size rfl 64 #[.int .u8 c0, .int .u8 c0, .int .u8 c0, .int .u8 c0] (0, 0) _ HW1.out Try.underlying64 rfl (by rw [hsz]; rfl) ?_) | (refine wpList_store_row rfl 64 _ _ rfl (w.heap.size + 1 + 1) #[.int .u8 c0, .int .u8 c0, .int .u8 c0, .int .u8 c0] rfl rfl 64 #[.int .u8 0, .int .u8 0, .int .u8 0, .int .u8 0] W3.out (by rw [hsz]; rfl) rfl HONE.out ?_))
  refine bodyPost_ret (results_cell_row (P := Try.prog) (p := 4) (ty := 64) (by kernel_rfl) _ _ (w.heap.size + 1 + 1) 64 #[.int .u8 c0, .int .u8 c0, .int .u8 c0, .int .u8 c0] (0, 0) _ rfl (setRow_heap _ _ #[.int .u8 0, .int .u8 0, .int .u8 0, .int .u8 0] #[.int .u8 c0, .int .u8 c0, .int .u8 c0, .int .u8 c0] 64 (0, 0) W3.out) Try.underlying64 rfl (by rw [hsz]; rfl)) rfl ?_
  exact ⟨rfl, below_setRow W4.out (by omega) _⟩
set_option maxRecDepth 100000 in
set_option maxHeartbeats 1600000 in
theorem pMixed_any (c m : Nat → UInt8) (hm : (m 0 ^^^ m 1 ^^^ m 2 ^^^ m 3) = 1) (w : World) : Calls Try.prog 82 #[.agg (colR c), .agg (colR m)] w fun e w' => e = .returned (.agg (colR (mixS c m))) ∧ Below w.heap.size w w' := by
  by_cases hsame : c 1 = c 0 ∧ c 2 = c 0 ∧ c 3 = c 0
  · have hr : colR (mixS c m) = colR c := rowZ_congr .u8 fun i hi => by rw [mix_same hsame.1 hsame.2.1 hsame.2.2 hm hi]
    have hcc : colR c = #[.int .u8 ((c 0).toNat : Int), .int .u8 ((c 0).toNat : Int), .int .u8 ((c 0).toNat : Int), .int .u8 ((c 0).toNat : Int)] := by rw [colR_lit, hsame.1, hsame.2.1, hsame.2.2]
    rw [hr, hcc, colR_lit m]
    exact pMixed_same _ _ _ _ _ w
  have hne : ¬ (((c 1).toNat : Int) = ((c 0).toNat : Int) ∧ ((c 2).toNat : Int) = ((c 0).toNat : Int) ∧ ((c 3).toNat : Int) = ((c 0).toNat : Int)) := fun h => hsame ⟨UInt8.toNat.inj (by have := h.1; omega), UInt8.toNat.inj (by have := h.2.1; omega), UInt8.toNat.inj (by have := h.2.2; omega)⟩
  have hneq := fun w => neP22 ((c 0).toNat : Int) ((c 1).toNat : Int) ((c 2).toNat : Int) ((c 3).toNat : Int) hne w
  clear hsame hne
  have HC : Hid (∀ a b w, Calls Try.prog 89 #[.int .u8 (UInt8.toNat a : Int), .int .u8 (UInt8.toNat b : Int)] w fun e w' => e = .returned (.int .u8 ((bm 27 a b).toNat : Int)) ∧ w' = w) := fun a b w => gmul_any a b w
  have HIX : Hid (∀ k : Nat, k < 4 → ∀ w, (Instr.index 64 (.agg (colR m)) (.int .i64 (k : Int))).run Try.prog w = .ok (.int .u8 ((m k).toNat : Int)) w) := fun k hk w => index4 _ k _ hk (rowZ_get .u8 4 _ k hk) w
  obtain ⟨hz, hsz⟩ := zero_of_info Try.zero64
  obtain ⟨b1, b2, b3, b4, b5⟩ := three_blocks w (colR c) (colR m) (rowZ .u8 4 (fun _ => 0)) 64
  have HRA : Hid (RowZ ((((w.alloc (.cells (colR c) (64 : TypeId))).alloc (.cells (colR m) (64 : TypeId))).alloc (.cells (rowZ .u8 4 (fun _ => 0)) (64 : TypeId)))) w.heap.size .u8 4 64 (fun i => ((c i).toNat : Int))) := b1
  have HRB : Hid (RowZ ((((w.alloc (.cells (colR c) (64 : TypeId))).alloc (.cells (colR m) (64 : TypeId))).alloc (.cells (rowZ .u8 4 (fun _ => 0)) (64 : TypeId)))) (w.heap.size + 1) .u8 4 64 (fun i => ((m i).toNat : Int))) := b2
  have HRC : Hid (RowZ ((((w.alloc (.cells (colR c) (64 : TypeId))).alloc (.cells (colR m) (64 : TypeId))).alloc (.cells (rowZ .u8 4 (fun _ => 0)) (64 : TypeId)))) (w.heap.size + 1 + 1) .u8 4 64 (fun _ => 0)) := b3
  have HBW := hidD b4
  have HSW := hidD b5
  have hs1 : (colR c).size = 4 := rowZ_size _ _ _
  have hs2 : (colR m).size = 4 := rowZ_size _ _ _
  have hi1 : (Try.prog.info? 64).map (·.size) = some (colR c).size := by rw [hsz, hs1]
  have hi2 : (Try.prog.info? 64).map (·.size) = some (colR m).size := by rw [hsz, hs2]
  rw [← colR_lit c] at hneq
  have hneq' : ∀ w, (Op.equalIn 10000 64 (.agg (colR c)) (.agg (((((rowZ .u8 4 fun _ => 0).setIfInBounds 0 (.int .u8 ((c 0).toNat : Int))).setIfInBounds 1 (.int .u8 ((c 0).toNat : Int))).setIfInBounds 2 (.int .u8 ((c 0).toNat : Int))).setIfInBounds 3 (.int .u8 ((c 0).toNat : Int))))).run Try.prog w = .ok false w := fun w => hneq w
  clear b1 b2 b3 b4 b5 hm hneq
  go_enter Try.func82, Try.ntmps82
  go_wp2_with (first | (refine wpList_load_row rfl 64 _ rfl w.heap.size rfl 64 (colR c) (0, 0) _ HRA.out Try.underlying64 rfl hi1 ?_; generalize hW : World.alloc _ (Obj.cells (rowZ .u8 4 (fun _ => 0)) (64 : TypeId)) = W; have W1 : RowZ W w.heap.size .u8 4 64 (fun i => ((c i).toNat : Int)) := (by rw [← hW]; exact HRA.out); have W2 : Hid (RowZ W (w.heap.size + 1) .u8 4 64 (fun i => ((m i).toNat : Int))) := (by rw [← hW]; exact HRB.out); have W3 : Hid (RowZ W (w.heap.size + 1 + 1) .u8 4 64 (fun _ => 0)) := (by rw [← hW]; exact HRC.out); have W4 : Hid (Below w.heap.size w W) := (by rw [← hW]; exact HBW.out); have W5 : Hid (W.heap.size = w.heap.size + 3) := (by rw [← hW]; exact HSW.out); have hcell := W1.cell (k := 0) (by omega); have HW1 := hidD W1; clear hW W1 HRA HRB HRC HBW HSW))
  clear hcell hneq'
  have HRD : Hid (RowZ (W.alloc (.cells (rowZ .u8 4 (fun _ => 0)) (64 : TypeId))) (w.heap.size + 3) .u8 4 64 (fun _ => 0)) := by
    have := RowZ.new W .u8 4 64 (fun _ => 0)
    rw [W5.out] at this; exact this
  have HW2 : Hid (Below W.heap.size W (W.alloc (.cells (rowZ .u8 4 (fun _ => 0)) (64 : TypeId)))) := (Below.refl _ _).alloc (Nat.le_refl _) _
  rw [W5.out]
  have V1 := hidD (HW1.out.next HW2.out)
  have V2 := hidD (W2.out.next HW2.out)
  have V3 := hidD (W3.out.next HW2.out)
  have V4 : Hid (Below w.heap.size w (W.alloc (.cells (rowZ .u8 4 (fun _ => 0)) (64 : TypeId)))) := Below.next W4.out HW2.out
  clear HW1 W2 W3 W4 W5 HW2
  generalize W.alloc (.cells (rowZ .u8 4 (fun _ => 0)) (64 : TypeId)) = U at *
  clear W
  rw [show w.heap.size + 1 + 1 = w.heap.size + 2 from rfl] at *
  have hg3 : w.heap.size < w.heap.size + 3 := by omega
  generalize hg : w.heap.size = g at *
  have HG := hidD hg
  clear hg
  go_loopw [21] (fun i wr => ∃ j : Nat, j ≤ 4 ∧ i = .int .i64 j ∧ RowZ wr (g + 3) .u8 4 64 (fun i => ((mixAt c m j 0 i).toNat : Int)) ∧ Below (g + 3) U wr) (fun i _ => 4 - (intOf i).toNat)
  case atStart => exact ⟨0, Nat.zero_le _, rfl, HRD.out.congr fun i _ => by rw [mixAt_zero]; rfl, Below.refl _ _⟩
  case round =>
    obtain ⟨j, hj, rfl, hrow, hbel⟩ := hrel
    have HBL := hidD hbel
    have HRW := hidD hrow
    by_cases hlt : j < 4
    · have hlti : (j : Int) < 4 := by omega
      have HVB : Hid (wr.heap[g + 1]? = some (.cells (colR m) (64 : TypeId) (0, 0))) := V2.out.below hbel (by omega)
      clear hbel hrow
      go_wp2_with (refine wpList_load_row rfl 64 _ rfl (g + 1) rfl 64 (colR m) (0, 0) _ HVB.out Try.underlying64 rfl hi2 ?_)
      go_loopw [25] (fun i wr => ∃ k : Nat, k ≤ 4 ∧ i = .int .i64 k ∧ RowZ wr (g + 3) .u8 4 64 (fun i => ((mixAt c m j k i).toNat : Int)) ∧ Below (g + 3) U wr) (fun i _ => 4 - (intOf i).toNat)
      case atStart => exact ⟨0, Nat.zero_le _, rfl, HRW.out, HBL.out⟩
      case round =>
        obtain ⟨k, hk, rfl, hrow, hbel⟩ := hrel
        have HBL := hidD hbel
        have HRW := hidD hrow
        by_cases hlk : k < 4
        · have hlki : (k : Int) < 4 := by omega
          have hi4 : (j + k) % 4 < 4 := Nat.mod_lt _ (by omega)
          have hmod : ((j : Int) + k).tmod 4 = (((j + k) % 4 : Nat) : Int) := by rw [Int.tmod_eq_emod_of_nonneg (by omega)]; omega
          have hwr : IntKind.i64.wrap ((j : Int) + k) = (j : Int) + k := by rw [IntKind.wrap_i64]; omega
          have hix := fun w => HIX.out k hlk w
          have hca : ∀ i : BW wr, i.v.cell? ⟨g, (j + k) % 4, none⟩ = some (.int .u8 ((c ((j + k) % 4)).toNat : Int)) := fun i => (i.below.cell (p := ⟨g, (j + k) % 4, none⟩) (V1.out.below hbel (by omega)).lt).trans ((V1.out.below hbel (by omega)).cell hi4)
          have hcd : ∀ i : BW wr, i.v.cell? ⟨g + 3, j, none⟩ = some (.int .u8 ((mixTo c m j k).toNat : Int)) := fun i => by rw [← mixAt_here]; exact (i.below.cell (p := ⟨g + 3, j, none⟩) hrow.lt).trans (hrow.cell hlt)
          have hfd : ∀ i : BW wr, i.v.frozen? ⟨g + 3, j, none⟩ = false := fun i => (i.below.frozen (p := ⟨g + 3, j, none⟩) hrow.lt).trans (hrow.frozen j)
          have hxr := u8_xor_nat (mixTo c m j k).toNat (bm 27 (c ((j + k) % 4)) (m k)).toNat (u8_lt _) (u8_lt _)
          rw [← UInt8.toNat_xor] at hxr
          have HCK : Hid (∀ w, Calls Try.prog 89 #[.int .u8 ((m k).toNat : Int), .int .u8 ((c ((j + k) % 4)).toNat : Int)] w fun e w' => e = .returned (.int .u8 ((bm 27 (c ((j + k) % 4)) (m k)).toNat : Int)) ∧ Below w.heap.size w w') := fun w => (HC.out (m k) (c ((j + k) % 4)) w).mono fun e w' h => ⟨by rw [bm_comm]; exact h.1, by rw [h.2]; exact Below.refl _ _⟩
          have HST : Hid (∀ i : BW wr, RowZ (i.v.setCell ⟨g + 3, j, none⟩ (.int .u8 ((mixTo c m j k ^^^ bm 27 (c ((j + k) % 4)) (m k)).toNat : Int))) (g + 3) .u8 4 64 (fun i => ((mixAt c m j (k + 1) i).toNat : Int))) := fun i => by
            refine ((hrow.next i.below).set hlt _).congr fun i hi => ?_
            rw [← mixAt_step]; split <;> rfl
          have HSB : Hid (∀ (i : BW wr) v, Below (g + 3) U (i.v.setCell ⟨g + 3, j, none⟩ v)) := fun i v => below_setCell (hbel.trans (i.below.mono (Nat.le_of_lt hrow.lt))) (Nat.le_refl _) _ v
          generalize (mixTo c m j k ^^^ bm 27 (c ((j + k) % 4)) (m k)).toNat = V at *
          generalize (bm 27 (c ((j + k) % 4)) (m k)).toNat = X at *
          generalize (mixTo c m j k).toNat = Y at *
          generalize (c ((j + k) % 4)).toNat = ca at *
          generalize (m k).toNat = cb at *
          generalize (j + k) % 4 = d at *
          clear hbel hrow
          go_wp2_with fail
          refine wp_region_put (by simp) (by kernel_rfl) rfl (by kernel_rfl) (by kernel_rfl) (by kernel_rfl) ?_
          simp only [List.dropLast_cons_cons, List.dropLast_singleton, List.getLast_cons_cons, List.getLast_singleton, List.cons_append, List.nil_append, mute]
          repeat (go_big_quiet_step ((go_at_call 89; exact Calls.below_of (HCK.out _))))
          refine wpQuiet_nil ?_
          intro i
          go_wp2_with fail
          go_roundw
          case rel => exact ⟨k + 1, by omega, by go_num, HST.out _, HSB.out _ _⟩
          case measure => simp [intOf]; omega
        · obtain rfl : k = 4 := by omega
          have HRN : Hid (RowZ wr (g + 3) .u8 4 64 (fun i => ((mixAt c m (j + 1) 0 i).toNat : Int))) := hrow.congr fun i _ => by rw [mixAt_next]
          clear hrow hbel
          go_wp2_with fail
          go_roundw
          case rel => exact ⟨j + 1, by omega, by go_num, HRN.out, HBL.out⟩
          case measure => simp [intOf]; omega
    · obtain rfl : j = 4 := by omega
      have HRN : Hid (RowZ wr (g + 3) .u8 4 64 (fun i => ((mixS c m i).toNat : Int))) := HRW.out.congr fun i hi => by rw [mixAt_all c m hi]
      have HO : Hid (wr.heap[g + 2]? = some (.cells (rowZ .u8 4 (fun _ => 0)) (64 : TypeId) (0, 0))) := V3.out.below HBL.out (by omega)
      have HL : Hid (wr.heap[g + 3]? = some (.cells (colR (mixS c m)) (64 : TypeId) (0, 0))) := HRN.out
      have HONE : Hid ((colR (mixS c m)).all (·.oneCell') = true) := rowZ_one _ _ _
      have h4 : (colR (mixS c m)).size = 4 := rowZ_size _ _ _
      have h0 : (rowZ .u8 4 (fun _ => 0)).size = 4 := rowZ_size _ _ _
      clear hrow hbel
      generalize hC : colR (mixS c m) = C at *
      have HCE := hidD hC
      clear hC
      generalize rowZ .u8 4 (fun _ => 0) = C0 at *
      have hi : (Try.prog.info? 64).map (·.size) = some C.size := by rw [hsz, h4]
      go_wp2_with (first | (refine wpList_load_row rfl 64 _ rfl (g + 3) rfl 64 C (0, 0) _ HL.out Try.underlying64 rfl hi ?_) | (refine wpList_store_row rfl 64 _ _ rfl (g + 2) C rfl rfl 64 C0 HO.out hi (by rw [h0, h4]) HONE.out ?_))
      refine bodyPost_ret (results_cell_row (P := Try.prog) (p := 4) (ty := 64) (by kernel_rfl) _ _ (g + 2) 64 C (0, 0) _ rfl (setRow_heap _ _ C0 C 64 (0, 0) HO.out) Try.underlying64 rfl hi) rfl ?_
      refine ⟨by rw [HCE.out], ?_⟩
      have hfin : Below g w (wr.setRow (g + 2) C) := below_setRow (V4.out.trans (HBL.out.mono (by omega))) (by omega) _
      rw [HG.out]; exact hfin
end Go.Proofs.Ytgefampdfhbmbaa
/- What the program's Mix, Unmix, Column and Round answer. -/
namespace Go.Proofs.Ytgefampdfhbmbaa
open Go.RowKit
set_option linter.unusedVariables false

set_option maxRecDepth 100000 in
set_option maxHeartbeats 400000 in
theorem pMix_any (c : Nat → UInt8) (w : World) : Calls Try.prog 70 #[.agg (colR c)] w fun e w' => e = .returned (.agg (colR (mixS c mixM))) ∧ Below w.heap.size w w' := by
  have HM := hidD (fun w => pMixed_any c mixM (by decide) w)
  rw [mixM_row, colR_lit c, colR_lit (mixS c mixM)] at HM
  have HONE : Hid ((colR (mixS c mixM)).all (·.oneCell') = true) := rowZ_one _ _ _
  rw [colR_lit (mixS c mixM)] at HONE
  rw [colR_lit c, colR_lit (mixS c mixM)]
  obtain ⟨hz, hsz⟩ := zero_of_info Try.zero64'
  generalize ((c 0).toNat : Int) = c0 at *
  generalize ((c 1).toNat : Int) = c1 at *
  generalize ((c 2).toNat : Int) = c2 at *
  generalize ((c 3).toNat : Int) = c3 at *
  generalize ((mixS c mixM 0).toNat : Int) = r0 at *
  generalize ((mixS c mixM 1).toNat : Int) = r1 at *
  generalize ((mixS c mixM 2).toNat : Int) = r2 at *
  generalize ((mixS c mixM 3).toNat : Int) = r3 at *
  obtain ⟨b1, b2, b3, b4⟩ := two_blocks w #[.int .u8 c0, .int .u8 c1, .int .u8 c2, .int .u8 c3] #[.int .u8 0, .int .u8 0, .int .u8 0, .int .u8 0] 64
  have B2 := hidD b2
  have B3 := hidD b3
  have B4 := hidD b4
  clear b1 b2 b3 b4
  go_enter Try.func70, Try.ntmps70
  go_wp2_with (first | (go_at_call 82; refine (HM.out _).mono ?_; rintro e w3 ⟨rfl, hb3⟩; have HB3 := hidD hb3; clear hb3; have HO : Hid (w3.heap[w.heap.size + 1]? = some (.cells #[.int .u8 0, .int .u8 0, .int .u8 0, .int .u8 0] (64 : TypeId) (0, 0))) := (HB3.out.block _ (by rw [B4.out]; omega)).trans B2.out) | (refine wpList_store_row rfl 64 _ _ rfl (w.heap.size + 1) #[.int .u8 r0, .int .u8 r1, .int .u8 r2, .int .u8 r3] rfl rfl 64 #[.int .u8 0, .int .u8 0, .int .u8 0, .int .u8 0] HO.out (by rw [hsz]; rfl) rfl HONE.out ?_))
  refine bodyPost_ret (results_cell_row (P := Try.prog) (p := 2) (ty := 64) (by kernel_rfl) _ _ (w.heap.size + 1) 64 #[.int .u8 r0, .int .u8 r1, .int .u8 r2, .int .u8 r3] (0, 0) _ rfl (setRow_heap _ _ #[.int .u8 0, .int .u8 0, .int .u8 0, .int .u8 0] #[.int .u8 r0, .int .u8 r1, .int .u8 r2, .int .u8 r3] 64 (0, 0) HO.out) Try.underlying64 rfl (by rw [hsz]; rfl)) rfl ?_
  exact ⟨rfl, below_setRow (B3.out.trans (HB3.out.mono (by rw [B4.out]; omega))) (by omega) _⟩
set_option maxRecDepth 100000 in
set_option maxHeartbeats 400000 in
theorem pUnmix_any (c : Nat → UInt8) (w : World) : Calls Try.prog 77 #[.agg (colR c)] w fun e w' => e = .returned (.agg (colR (mixS c unmM))) ∧ Below w.heap.size w w' := by
  have HM := hidD (fun w => pMixed_any c unmM (by decide) w)
  rw [unmM_row, colR_lit c, colR_lit (mixS c unmM)] at HM
  have HONE : Hid ((colR (mixS c unmM)).all (·.oneCell') = true) := rowZ_one _ _ _
  rw [colR_lit (mixS c unmM)] at HONE
  rw [colR_lit c, colR_lit (mixS c unmM)]
  obtain ⟨hz, hsz⟩ := zero_of_info Try.zero64'
  generalize ((c 0).toNat : Int) = c0 at *
  generalize ((c 1).toNat : Int) = c1 at *
  generalize ((c 2).toNat : Int) = c2 at *
  generalize ((c 3).toNat : Int) = c3 at *
  generalize ((mixS c unmM 0).toNat : Int) = r0 at *
  generalize ((mixS c unmM 1).toNat : Int) = r1 at *
  generalize ((mixS c unmM 2).toNat : Int) = r2 at *
  generalize ((mixS c unmM 3).toNat : Int) = r3 at *
  obtain ⟨b1, b2, b3, b4⟩ := two_blocks w #[.int .u8 c0, .int .u8 c1, .int .u8 c2, .int .u8 c3] #[.int .u8 0, .int .u8 0, .int .u8 0, .int .u8 0] 64
  have B2 := hidD b2
  have B3 := hidD b3
  have B4 := hidD b4
  clear b1 b2 b3 b4
  go_enter Try.func77, Try.ntmps77
  go_wp2_with (first | (go_at_call 82; refine (HM.out _).mono ?_; rintro e w3 ⟨rfl, hb3⟩; have HB3 := hidD hb3; clear hb3; have HO : Hid (w3.heap[w.heap.size + 1]? = some (.cells #[.int .u8 0, .int .u8 0, .int .u8 0, .int .u8 0] (64 : TypeId) (0, 0))) := (HB3.out.block _ (by rw [B4.out]; omega)).trans B2.out) | (refine wpList_store_row rfl 64 _ _ rfl (w.heap.size + 1) #[.int .u8 r0, .int .u8 r1, .int .u8 r2, .int .u8 r3] rfl rfl 64 #[.int .u8 0, .int .u8 0, .int .u8 0, .int .u8 0] HO.out (by rw [hsz]; rfl) rfl HONE.out ?_))
  refine bodyPost_ret (results_cell_row (P := Try.prog) (p := 2) (ty := 64) (by kernel_rfl) _ _ (w.heap.size + 1) 64 #[.int .u8 r0, .int .u8 r1, .int .u8 r2, .int .u8 r3] (0, 0) _ rfl (setRow_heap _ _ #[.int .u8 0, .int .u8 0, .int .u8 0, .int .u8 0] #[.int .u8 r0, .int .u8 r1, .int .u8 r2, .int .u8 r3] 64 (0, 0) HO.out) Try.underlying64 rfl (by rw [hsz]; rfl)) rfl ?_
  exact ⟨rfl, below_setRow (B3.out.trans (HB3.out.mono (by rw [B4.out]; omega))) (by omega) _⟩
def wTo (m : Nat → UInt8) : Nat → Nat
  | 0 => 0
  | k + 1 => wTo m k * 256 ||| (m k).toNat
theorem wTo_lt (m : Nat → UInt8) : ∀ k, wTo m k < 2 ^ (8 * k)
  | 0 => by show 0 < 1; omega
  | k + 1 => by
    have h1 := wTo_lt m k
    have h2 : 2 ^ (8 * (k + 1)) = 2 ^ (8 * k) * 256 := by rw [show 8 * (k + 1) = 8 * k + 8 from rfl, Nat.pow_add]
    rw [wTo]
    refine Nat.or_lt_two_pow (by rw [h2]; omega) (Nat.lt_of_lt_of_le (u8_lt (m k)) (Nat.pow_le_pow_right (by omega) (by omega)))
theorem or_mul (a b : Nat) (k : Nat) : (a ||| b) * 2 ^ k = a * 2 ^ k ||| b * 2 ^ k := by
  rw [← Nat.shiftLeft_eq, ← Nat.shiftLeft_eq, ← Nat.shiftLeft_eq, Nat.shiftLeft_or_distrib]
theorem wTo_word (m : Nat → UInt8) : wTo m 4 = wordS m := by
  unfold wordS
  simp only [wTo]
  rw [show (256 : Nat) = 2 ^ 8 from rfl, Nat.zero_mul, Nat.zero_or, or_mul, or_mul, or_mul, Nat.mul_assoc, Nat.mul_assoc, Nat.mul_assoc]
set_option maxRecDepth 100000 in
set_option maxHeartbeats 400000 in
theorem pRound_low (n : Int) (h : n < 1) (w : World) : Calls Try.prog 84 #[.int .i64 n] w fun e w' => e = .returned (.int .u8 0) ∧ w' = w := by
  go_enter Try.func84, Try.ntmps84
  go_wp2_with fail
  go_ret
  exact ⟨rfl, rfl⟩
set_option maxRecDepth 100000 in
set_option maxHeartbeats 400000 in
theorem pRound_same (n : Int) (h : n < 9223372036854775808) (w : World) : Calls Try.prog 84 #[.int .i64 n] w fun e w' => e = .returned (.int .u8 (rndS n : Int)) ∧ w' = w := by
  by_cases h1 : n < 1
  · have := pRound_low n h1 w
    unfold rndS; rw [if_pos h1]; exact this
  · obtain ⟨M, hM⟩ : ∃ M : Nat, (n - 1) % 51 = (M : Int) := ⟨((n - 1) % 51).toNat, by omega⟩
    have hMl : M < 51 := by omega
    have ht : (n - 1).tmod 51 = (M : Int) := by rw [Int.tmod_eq_emod_of_nonneg (by omega)]; exact hM
    have HR : Hid (rndS n = (pw 27 2 M).toNat) := by unfold rndS; rw [if_neg h1, hM]; rfl
    have HC : Hid (∀ k w, Calls Try.prog 89 #[.int .u8 ((pw 27 2 k).toNat : Int), .int .u8 2] w fun e w' => e = .returned (.int .u8 ((pw 27 2 (k + 1)).toNat : Int)) ∧ w' = w) := fun k w => gmul_any (pw 27 2 k) 2 w
    generalize rndS n = R at *
    clear hM
    go_enter Try.func84, Try.ntmps84
    go_wp2_with fail
    go_loopw [3, 9] (fun x i wr => ∃ k : Nat, k ≤ M ∧ i = .int .i64 k ∧ x = .int .u8 ((pw 27 2 k).toNat : Int) ∧ wr = w) (fun _ i _ => M - (intOf i).toNat)
    case atStart => exact ⟨0, Nat.zero_le _, rfl, rfl, rfl⟩
    case round =>
      obtain ⟨k, hk, rfl, rfl, rfl⟩ := hrel
      by_cases hlt : k < M
      · have hlti : (k : Int) < M := by omega
        have HCk := hidD (HC.out k)
        generalize hx : ((pw 27 2 (k + 1)).toNat : Int) = X at *
        have HX := hidD hx
        clear hx
        generalize ((pw 27 2 k).toNat : Int) = Y at *
        go_wp2_with (go_at_call 89; refine (HCk.out _).mono ?_; rintro e w3 ⟨rfl, hb3⟩)
        go_roundw
        case rel => exact ⟨k + 1, by omega, by go_num, by rw [HX.out], by first | trivial | exact hb3⟩
        case measure => simp [intOf]; omega
      · obtain rfl : k = M := by omega
        rw [← HR.out]
        go_wp2_with fail
        go_ret
        exact ⟨rfl, rfl⟩
theorem pRound_any (n : Int) (hn : n < 9223372036854775808) (w : World) : Calls Try.prog 84 #[.int .i64 n] w fun e w' => e = .returned (.int .u8 (rndS n : Int)) ∧ Below w.heap.size w w' := (pRound_same n hn w).mono fun e w' ⟨h1, h2⟩ => ⟨h1, by rw [h2]; exact Below.refl _ _⟩
end Go.Proofs.Ytgefampdfhbmbaa
