/- What Valid and Encode of ecc answer. -/
import Derived.Test.YtjnfnihhihncmaaE2
import Derived.Laws.ResultCell
import Derived.Laws.Build
namespace Go.Proofs.Ytjnfnihhihncmaa
open Go.RowKit
set_option linter.unusedVariables false

/- a word's cells -/
def wdC (D C : Nat) : Array Value := #[.int .u64 (D : Int), .int .u8 (C : Int)]
theorem wd_cells (w : World) (D C : Nat) (ty : TypeId) : (w.alloc (.cells (wdC D C) ty)).cell? ⟨w.heap.size, 0, none⟩ = some (.int .u64 (D : Int)) ∧ (w.alloc (.cells (wdC D C) ty)).cell? ⟨w.heap.size, 1, none⟩ = some (.int .u8 (C : Int)) := by
  constructor
  · rw [cell_of_row _ _ _ _ _ _ (heap_alloc_last _ _)]; rfl
  · rw [cell_of_row _ _ _ _ _ _ (heap_alloc_last _ _)]; rfl

theorem Try.zeroWd : (Try.prog.info? 58).map (fun i => (i.zero, i.size)) = some (some (.agg #[.int .u64 0, .int .u8 0]), 2) := by kernel_rfl
theorem wd_size (D C : Nat) : (wdC D C).size = 2 := rfl
theorem wd_one (D C : Nat) : (wdC D C).all (·.oneCell') = true := by simp [wdC, Value.oneCell']
theorem res_word {fn : Func} {p u : Tmp} {ty : TypeId} (h : fn.results = #[.cell p ty, .tmp u]) (tmps : Array Value) (w : World) (g : Nat) (cs : Array Value) {fs} (hp : tmps.getD p undef = .pointer (some ⟨g, 0, none⟩)) (hg : w.heap[g]? = some (.cells cs ty (0, 0))) (hu : Try.prog.underlying ty = some (.struct fs)) (hi : (Try.prog.info? ty).map (·.size) = some cs.size) : (results fn tmps).run Try.prog w = .ok (.tuple #[.agg cs, tmps.getD u undef]) w := by
  rw [results_cell_tmp h, hp]
  rw [show (asAddr (.pointer (some ⟨g, 0, none⟩))).run Try.prog w = .ok ⟨g, 0, none⟩ w from rfl]
  rw [Result.andThen_ok, run_loadVar_row _ g ty ty cs (0, 0) _ hg hu rfl hi]
  rfl

set_option maxRecDepth 100000 in
set_option maxHeartbeats 800000 in
theorem valid_any {W r : Nat} (h : Wid W r) (D C : Nat) (hD : D < 18446744073709551616) (hC : C < 256) (w : World) : Calls Try.prog 58 #[.int .i64 (W : Int), .agg (wdC D C)] w fun e w' => e = .returned (.bool (decide (D < 2 ^ W ∧ C < 2 ^ (r + 1)))) ∧ Below w.heap.size w w' := by
  have HC : Hid (∀ w, Calls Try.prog 75 #[.int .i64 (W : Int)] w fun e w' => e = .returned (.tuple #[.int .i64 (r : Int), .int .i64 0]) ∧ w' = w) := fun w => checks_ok h w
  have hr := h.le
  have HF : Hid (∀ w, Calls Try.prog 76 #[.int .u64 (D : Int), .int .i64 (W : Int)] w fun e w' => e = .returned (.bool (decide (D < 2 ^ W))) ∧ w' = w) := fun w => fits_any D W hD hr.1 w
  obtain ⟨h0, h1⟩ := wd_cells w D C 58
  have HB : Hid (Below w.heap.size w (w.alloc (.cells (wdC D C) 58))) := (Below.refl _ _).alloc (Nat.le_refl _) _
  unfold wdC at *
  generalize hb1 : decide (D < 2 ^ W) = B1 at *
  have HQ : Hid (decide (D < 2 ^ W ∧ C < 2 ^ (r + 1)) = (B1 && decide (C < 2 ^ (r + 1)))) := by show _ = _; rw [← hb1, Bool.decide_and]
  have hsum : (r : Int) + 1 = ((r + 1 : Nat) : Int) := by omega
  have hq : (C : Int) / 2 ^ (r + 1) = ((C / 2 ^ (r + 1) : Nat) : Int) := by simp
  have HZ : Hid ((((C / 2 ^ (r + 1) : Nat) : Int) == 0) = decide (C < 2 ^ (r + 1))) := by
    show _ = _
    by_cases h : C < 2 ^ (r + 1)
    · rw [decide_eq_true h, Nat.div_eq_of_lt h]; rfl
    · have : 0 < C / 2 ^ (r + 1) := Nat.div_pos (by omega) (Nat.two_pow_pos _)
      rw [decide_eq_false h]; simp; omega
  have hr8 : r + 1 ≤ 8 := by omega
  generalize ((C / 2 ^ (r + 1) : Nat) : Int) = q at *
  generalize r + 1 = r1 at *
  clear hb1
  cases B1
  · go_enter Try.func58, Try.ntmps58
    go_wp2_with (first | (go_at_call 75; refine (HC.out _).mono ?_; rintro e w2 ⟨rfl, hb2⟩) | (go_at_call 76; refine (HF.out _).mono ?_; rintro e w2 ⟨rfl, hb3⟩))
    go_ret
    exact ⟨by rw [HQ.out]; rfl, HB.out⟩
  · go_enter Try.func58, Try.ntmps58
    go_wp2_with (first | (go_at_call 75; refine (HC.out _).mono ?_; rintro e w2 ⟨rfl, hb2⟩) | (go_at_call 76; refine (HF.out _).mono ?_; rintro e w2 ⟨rfl, hb3⟩))
    go_ret
    exact ⟨by rw [HQ.out, ← HZ.out]; rfl, HB.out⟩
set_option maxRecDepth 100000 in
theorem valid_none {x : Int} (h : NoWid x) (D C : Nat) (w : World) : Calls Try.prog 58 #[.int .i64 x, .agg (wdC D C)] w fun e w' => e = .returned (.bool false) ∧ Below w.heap.size w w' := by
  have HC : Hid (∀ w, Calls Try.prog 75 #[.int .i64 x] w fun e w' => e = .returned (.tuple #[.int .i64 0, .int .i64 1]) ∧ w' = w) := fun w => checks_no h w
  have HB : Hid (Below w.heap.size w (w.alloc (.cells (wdC D C) 58))) := (Below.refl _ _).alloc (Nat.le_refl _) _
  unfold wdC at *
  go_enter Try.func58, Try.ntmps58
  go_wp2_with (go_at_call 75; refine (HC.out _).mono ?_; rintro e w2 ⟨rfl, hb2⟩)
  go_ret
  exact ⟨rfl, HB.out⟩

set_option maxRecDepth 100000 in
set_option maxHeartbeats 800000 in
theorem encode_ok {W r : Nat} (h : Wid W r) (d : Nat) (hd : d < 2 ^ W) (w : World) : Calls Try.prog 74 #[.int .i64 (W : Int), .int .u64 (d : Int)] w fun e w' => e = .returned (.tuple #[.agg (wdC d (encS W r d)), .int .i64 0]) ∧ Below w.heap.size w w' := by
  have hr := h.le
  have hd64 : d < 18446744073709551616 := Nat.lt_of_lt_of_le hd (Nat.pow_le_pow_right (n := 2) (by decide) hr.1)
  have HC : Hid (∀ w, Calls Try.prog 75 #[.int .i64 (W : Int)] w fun e w' => e = .returned (.tuple #[.int .i64 (r : Int), .int .i64 0]) ∧ w' = w) := fun w => checks_ok h w
  have HF : Hid (∀ w, Calls Try.prog 76 #[.int .u64 (d : Int), .int .i64 (W : Int)] w fun e w' => e = .returned (.bool true) ∧ w' = w) := fun w => by have := fits_any d W hd64 hr.1 w; rw [decide_eq_true hd] at this; exact this
  have HP : Hid (∀ w, Calls Try.prog 90 #[.int .u64 (d : Int), .int .i64 (W : Int)] w fun e w' => e = .returned (.int .u8 (pxTo d W : Int)) ∧ w' = w) := fun w => positionsOf_any d W hd64 hr.1 w
  have hpl := px_lt128 d W hr.1
  have HY : Hid (∀ w, Calls Try.prog 91 #[.int .u64 (d : Int), .int .u8 (pxTo d W : Int)] w fun e w' => e = .returned (.int .u8 (parS d (pxTo d W) : Int)) ∧ w' = w) := fun w => parityOf_any d _ hd64 (by omega) w
  have hp2 := par_lt d (pxTo d W)
  have h2r : 2 ^ r ≤ 128 := Nat.pow_le_pow_right (n := 2) (by decide) hr.2.1
  have hmul : parS d (pxTo d W) * 2 ^ r ≤ 128 := by
    rcases par_two d (pxTo d W) with hz | hz <;> rw [hz] <;> omega
  have hsh : (parS d (pxTo d W) : Int) * 2 ^ r % 256 = ((parS d (pxTo d W) * 2 ^ r : Nat) : Int) := by
    have : (parS d (pxTo d W) : Int) * 2 ^ r = ((parS d (pxTo d W) * 2 ^ r : Nat) : Int) := by simp
    rw [this]; omega
  have hor : bits .or .u8 (pxTo d W : Int) ((parS d (pxTo d W) : Int) * 2 ^ r) = (encS W r d : Int) := by
    rw [show (parS d (pxTo d W) : Int) * 2 ^ r = ((parS d (pxTo d W) * 2 ^ r : Nat) : Int) by simp, u8_or_nat _ _ (by omega) (by omega), enc_or h]
  have HB : Hid (∀ cs, Below w.heap.size w ((w.alloc (.cells #[.int .u64 0, .int .u8 0] 58)).setRow w.heap.size cs)) := fun cs => below_setRow ((Below.refl _ _).alloc (Nat.le_refl _) _) (Nat.le_refl _) cs
  have HR : Hid ((w.alloc (.cells #[.int .u64 0, .int .u8 0] (58 : TypeId))).heap[w.heap.size]? = some (.cells #[.int .u64 0, .int .u8 0] (58 : TypeId) (0, 0))) := heap_alloc_last _ _
  obtain ⟨hz, hsz⟩ := zero_of_info Try.zeroWd
  have HI : Hid ((Try.prog.info? 58).map (·.size) = some 2) := hsz
  clear hsz
  generalize encS W r d = E at *
  generalize parS d (pxTo d W) = Y at *
  generalize pxTo d W = P at *
  go_enter Try.func74, Try.ntmps74
  go_wp2_with (first | (go_at_call 75; refine (HC.out _).mono ?_; rintro e w2 ⟨rfl, hb2⟩) | (go_at_call 76; refine (HF.out _).mono ?_; rintro e w2 ⟨rfl, hb3⟩) | (go_at_call 90; refine (HP.out _).mono ?_; rintro e w2 ⟨rfl, hb3⟩) | (go_at_call 91; refine (HY.out _).mono ?_; rintro e w2 ⟨rfl, hb3⟩) | (refine wpList_store_row rfl 58 _ _ rfl w.heap.size (wdC d E) rfl (by first | rfl | (show Value.agg #[.int .u64 (d : Int), .int .u8 (bits .or .u8 (P : Int) ((Y : Int) * 2 ^ r))] = _; rw [hor]; rfl)) 58 #[.int .u64 0, .int .u8 0] HR.out HI.out rfl (wd_one d E) ?_))
  refine bodyPost_ret (v := .tuple #[.agg (wdC d E), .int .i64 0]) ?_ rfl ?_
  · exact res_word (p := 4) (u := 5) (by kernel_rfl) _ _ w.heap.size (wdC d E) rfl (setRow_heap _ _ _ _ _ _ HR.out) Try.underlying58 HI.out
  exact ⟨rfl, HB.out _⟩
set_option maxRecDepth 100000 in
set_option maxHeartbeats 800000 in
theorem encode_no {x : Int} (h : NoWid x) (d : Nat) (w : World) : Calls Try.prog 74 #[.int .i64 x, .int .u64 (d : Int)] w fun e w' => e = .returned (.tuple #[.agg (wdC 0 0), .int .i64 1]) ∧ Below w.heap.size w w' := by
  have HC : Hid (∀ w, Calls Try.prog 75 #[.int .i64 x] w fun e w' => e = .returned (.tuple #[.int .i64 0, .int .i64 1]) ∧ w' = w) := fun w => checks_no h w
  have HB : Hid (∀ cs, Below w.heap.size w ((w.alloc (.cells #[.int .u64 0, .int .u8 0] 58)).setRow w.heap.size cs)) := fun cs => below_setRow ((Below.refl _ _).alloc (Nat.le_refl _) _) (Nat.le_refl _) cs
  have HR : Hid ((w.alloc (.cells #[.int .u64 0, .int .u8 0] (58 : TypeId))).heap[w.heap.size]? = some (.cells #[.int .u64 0, .int .u8 0] (58 : TypeId) (0, 0))) := heap_alloc_last _ _
  obtain ⟨hz, hsz⟩ := zero_of_info Try.zeroWd
  have HI : Hid ((Try.prog.info? 58).map (·.size) = some 2) := hsz
  clear hsz
  go_enter Try.func74, Try.ntmps74
  go_wp2_with (first | (go_at_call 75; refine (HC.out _).mono ?_; rintro e w2 ⟨rfl, hb2⟩) | (refine wpList_store_row rfl 58 _ _ rfl w.heap.size (wdC 0 0) rfl rfl 58 #[.int .u64 0, .int .u8 0] HR.out HI.out rfl (wd_one 0 0) ?_))
  refine bodyPost_ret (v := .tuple #[.agg (wdC 0 0), .int .i64 1]) ?_ rfl ?_
  · exact res_word (p := 4) (u := 5) (by kernel_rfl) _ _ w.heap.size (wdC 0 0) rfl (setRow_heap _ _ _ _ _ _ HR.out) Try.underlying58 HI.out
  exact ⟨rfl, HB.out _⟩
set_option maxRecDepth 100000 in
set_option maxHeartbeats 800000 in
theorem encode_big {W r : Nat} (h : Wid W r) (d : Nat) (hd : ¬ d < 2 ^ W) (hd64 : d < 18446744073709551616) (w : World) : Calls Try.prog 74 #[.int .i64 (W : Int), .int .u64 (d : Int)] w fun e w' => e = .returned (.tuple #[.agg (wdC 0 0), .int .i64 1]) ∧ Below w.heap.size w w' := by
  have hr := h.le
  have HC : Hid (∀ w, Calls Try.prog 75 #[.int .i64 (W : Int)] w fun e w' => e = .returned (.tuple #[.int .i64 (r : Int), .int .i64 0]) ∧ w' = w) := fun w => checks_ok h w
  have HF : Hid (∀ w, Calls Try.prog 76 #[.int .u64 (d : Int), .int .i64 (W : Int)] w fun e w' => e = .returned (.bool false) ∧ w' = w) := fun w => by have := fits_any d W hd64 hr.1 w; rw [decide_eq_false hd] at this; exact this
  have HB : Hid (∀ cs, Below w.heap.size w ((w.alloc (.cells #[.int .u64 0, .int .u8 0] 58)).setRow w.heap.size cs)) := fun cs => below_setRow ((Below.refl _ _).alloc (Nat.le_refl _) _) (Nat.le_refl _) cs
  have HR : Hid ((w.alloc (.cells #[.int .u64 0, .int .u8 0] (58 : TypeId))).heap[w.heap.size]? = some (.cells #[.int .u64 0, .int .u8 0] (58 : TypeId) (0, 0))) := heap_alloc_last _ _
  obtain ⟨hz, hsz⟩ := zero_of_info Try.zeroWd
  have HI : Hid ((Try.prog.info? 58).map (·.size) = some 2) := hsz
  clear hsz hd
  go_enter Try.func74, Try.ntmps74
  go_wp2_with (first | (go_at_call 75; refine (HC.out _).mono ?_; rintro e w2 ⟨rfl, hb2⟩) | (go_at_call 76; refine (HF.out _).mono ?_; rintro e w2 ⟨rfl, hb3⟩) | (refine wpList_store_row rfl 58 _ _ rfl w.heap.size (wdC 0 0) rfl rfl 58 #[.int .u64 0, .int .u8 0] HR.out HI.out rfl (wd_one 0 0) ?_))
  refine bodyPost_ret (v := .tuple #[.agg (wdC 0 0), .int .i64 1]) ?_ rfl ?_
  · exact res_word (p := 4) (u := 5) (by kernel_rfl) _ _ w.heap.size (wdC 0 0) rfl (setRow_heap _ _ _ _ _ _ HR.out) Try.underlying58 HI.out
  exact ⟨rfl, HB.out _⟩
end Go.Proofs.Ytjnfnihhihncmaa
