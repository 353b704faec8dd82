/- Peek, Lay, Turn. -/
import Derived.Test.YtjnfnihhihncmaaMmf
import Derived.Test.YtjnfnihhihncmaaE6
namespace Go.Proofs.Ytjnfnihhihncmaa
open Go.RowKit
set_option linter.unusedVariables false

theorem cell_nil (a : Int) (w : World) : Calls Try.prog 18 #[.pointer none, .int .i64 a] w fun e w' => e = .returned (.tuple #[.agg (wdC 0 0), .int .i64 2]) ∧ Below w.heap.size w w' :=
  cell_err (.pointer none) a 0 0 0 2 (by decide) w fun w1 _ => regionOf_nil a w1
set_option maxRecDepth 100000 in
set_option maxHeartbeats 800000 in
theorem peek_err (pv : Value) (a er : Int) (her : er ≠ 0) (w : World) (HC : Hid (∀ w1, Below w.heap.size w w1 → Calls Try.prog 18 #[pv, .int .i64 a] w1 fun e w' => e = .returned (.tuple #[.agg (wdC 0 0), .int .i64 er]) ∧ Below w1.heap.size w1 w')) :
    Calls Try.prog 17 #[pv, .int .i64 a] w fun e w' => e = .returned (.tuple #[.int .u8 0, .int .i64 er]) ∧ Below w.heap.size w w' := by
  have HC0 := hidD (HC.out w (Below.refl _ _))
  clear HC
  unfold wdC at HC0
  go_enter Try.func17, Try.ntmps17
  go_wp2_with (go_at_call 18; refine HC0.out.mono ?_; rintro e w2 ⟨rfl, hb2⟩
               have HB2 := hidD (hb2.trans (((Below.refl _ _).alloc (Nat.le_refl _) (.cells #[.int .u64 ((0 : Nat) : Int), .int .u8 ((0 : Nat) : Int)] 58)).mono hb2.size)); clear hb2)
  refine bodyPost_ret (v := .tuple #[.int .u8 0, .int .i64 er]) (by simp [results, Try.results17, go_sem]) rfl ?_
  exact ⟨rfl, HB2.out⟩
set_option maxRecDepth 100000 in
set_option maxHeartbeats 800000 in
theorem peek_with (m : Nat) (a : Int) (z : Nat × Nat) (hz : z.1 < 256 ∧ z.2 < 32) (d q i er : Nat) (hd : decS z = (d, q, i, er)) (w : World) (HC : Hid (Calls Try.prog 18 #[.pointer (some ⟨m, 0, none⟩), .int .i64 a] w fun e w' => e = .returned (.tuple #[.agg (wdC z.1 z.2), .int .i64 0]) ∧ Below w.heap.size w w')) :
    Calls Try.prog 17 #[.pointer (some ⟨m, 0, none⟩), .int .i64 a] w fun e w' => e = .returned (.tuple #[.int .u8 (d : Int), .int .i64 (if er = 0 then 0 else 232)]) ∧ Below w.heap.size w w' := by
  have HD : Hid (∀ w, Calls Try.prog 51 #[.int .i64 8, .agg (wdC z.1 z.2)] w fun ee w' => ee = .returned (.tuple #[.int .u64 (d : Int), .int .i64 (q : Int), .int .i64 (i : Int), .int .i64 (er : Int)]) ∧ Below w.heap.size w w') := fun w => dec_call z hz hd w
  have hdl : d < 256 := by have := dec_lt hz.1; rw [hd] at this; exact this
  have hcv : (d : Int) % 256 = d := by omega
  have he := dec_err z
  rw [hd] at he
  change er = 0 ∨ (er = 100 ∧ d = 0) at he
  obtain ⟨D, C⟩ := z
  change Hid (∀ w, Calls Try.prog 51 #[.int .i64 8, .agg #[.int .u64 (D : Int), .int .u8 (C : Int)]] w _) at HD
  change Hid (Calls Try.prog 18 #[.pointer (some ⟨m, 0, none⟩), .int .i64 a] w fun e w' => e = .returned (.tuple #[.agg #[.int .u64 (D : Int), .int .u8 (C : Int)], .int .i64 0]) ∧ Below w.heap.size w w') at HC
  clear hd hdl hz
  rcases he with rfl | ⟨rfl, rfl⟩
  · rw [if_pos rfl]
    go_enter Try.func17, Try.ntmps17
    go_wp2_with (first
      | (go_at_call 18; refine HC.out.mono ?_; rintro e w2 ⟨rfl, hb2⟩
         obtain ⟨g0, g1⟩ := wd_cells w2 D C 58
         unfold wdC at g0 g1
         have HB2 := hidD (hb2.trans (((Below.refl _ _).alloc (Nat.le_refl _) (.cells #[.int .u64 (D : Int), .int .u8 (C : Int)] 58)).mono hb2.size)); clear hb2)
      | (go_at_call 51; refine (HD.out _).mono ?_; rintro e w3 ⟨rfl, hb3⟩; have HB3 := hidD (HB2.out.trans (hb3.mono HB2.out.size)); clear hb3))
    refine bodyPost_ret (v := .tuple #[.int .u8 (d : Int), .int .i64 0]) (by simp [results, Try.results17, go_sem]) rfl ?_
    exact ⟨rfl, HB3.out⟩
  · rw [if_neg (by decide)]
    go_enter Try.func17, Try.ntmps17
    go_wp2_with (first
      | (go_at_call 18; refine HC.out.mono ?_; rintro e w2 ⟨rfl, hb2⟩
         obtain ⟨g0, g1⟩ := wd_cells w2 D C 58
         unfold wdC at g0 g1
         have HB2 := hidD (hb2.trans (((Below.refl _ _).alloc (Nat.le_refl _) (.cells #[.int .u64 (D : Int), .int .u8 (C : Int)] 58)).mono hb2.size)); clear hb2)
      | (go_at_call 51; refine (HD.out _).mono ?_; rintro e w3 ⟨rfl, hb3⟩; have HB3 := hidD (HB2.out.trans (hb3.mono HB2.out.size)); clear hb3))
    refine bodyPost_ret (v := .tuple #[.int .u8 0, .int .i64 232]) (by simp [results, Try.results17, go_sem]) rfl ?_
    exact ⟨rfl, HB3.out⟩
theorem peek_ok {w : World} {k : Mk} {Z : Nat → Nat × Nat} {x y : Int} (h : MeAt w k Z x y) (a : Nat) (f t kd : Int) (hq : rgo k.R a = ((f, t, kd), 0)) (hkd : kd = 1 ∨ kd = 2) :
    Calls Try.prog 17 #[.pointer (some ⟨k.m, 0, none⟩), .int .i64 a] w fun e w' => e = .returned (.tuple #[.int .u8 ((decS (Z a)).1 : Int), .int .i64 (rdE (Z a))]) ∧ Below w.heap.size w w' := by
  have hp := rgo_place hq
  have hz := (h.ce.cell (i := a) (by omega)).2
  exact peek_with k.m a (Z a) hz _ _ _ _ rfl w (cell_ok h a f t kd hq hkd)
/- Lay -/
theorem wd_at (w : World) (D C : Nat) : (w.alloc (.cells #[.int .u64 (D : Int), .int .u8 (C : Int)] 58)).cell? ⟨w.heap.size, 0, none⟩ = some (.int .u64 (D : Int)) ∧ (w.alloc (.cells #[.int .u64 (D : Int), .int .u8 (C : Int)] 58)).cell? ⟨w.heap.size, 1, none⟩ = some (.int .u8 (C : Int)) := wd_cells w D C 58
set_option maxRecDepth 100000 in
set_option maxHeartbeats 800000 in
theorem lay_nil (a : Int) (D C : Nat) (w : World) : Calls Try.prog 23 #[.pointer none, .int .i64 a, .agg (wdC D C)] w fun e w' => e = .returned (.int .i64 2) ∧ Below w.heap.size w w' := by
  have HC : Hid (∀ w, Calls Try.prog 18 #[.pointer none, .int .i64 a] w fun e w' => e = .returned (.tuple #[.agg #[.int .u64 ((0 : Nat) : Int), .int .u8 ((0 : Nat) : Int)], .int .i64 2]) ∧ Below w.heap.size w w') := fun w => cell_nil a w
  have HB1 : Hid (Below w.heap.size w (w.alloc (.cells #[.int .u64 (D : Int), .int .u8 (C : Int)] 58))) := (Below.refl _ _).alloc (Nat.le_refl _) _
  unfold wdC
  go_enter Try.func23, Try.ntmps23
  go_wp2_with (go_at_call 18; refine (HC.out _).mono ?_; rintro e w2 ⟨rfl, hb2⟩
               have HB2 := hidD (HB1.out.trans ((hb2.trans (((Below.refl _ _).alloc (Nat.le_refl _) (.cells #[.int .u64 ((0 : Nat) : Int), .int .u8 ((0 : Nat) : Int)] 58)).mono hb2.size)).mono HB1.out.size)); clear hb2)
  go_ret
  exact ⟨rfl, HB2.out⟩
set_option maxRecDepth 100000 in
set_option maxHeartbeats 3200000 in
theorem lay_ok {w : World} {k : Mk} {Z : Nat → Nat × Nat} {x y : Int} (h : MeAt w k Z x y) (a : Nat) (f t kd : Int) (hq : rgo k.R a = ((f, t, kd), 0)) (hkd : kd = 1 ∨ kd = 2) (D C : Nat) (hD : D < 256) (hC : C < 32) :
    Calls Try.prog 23 #[.pointer (some ⟨k.m, 0, none⟩), .int .i64 a, .agg (wdC D C)] w fun e w' => e = .returned (.int .i64 0) ∧ MeAt w' k (upd Z a (D, C)) x y ∧ Chg k.own w w' := by
  have hp := rgo_place hq
  have ha : a < 65536 := by omega
  have hai : (a : Int) < 65536 := by omega
  have HB1 : Hid (Below w.heap.size w (w.alloc (.cells #[.int .u64 (D : Int), .int .u8 (C : Int)] 58))) := (Below.refl _ _).alloc (Nat.le_refl _) _
  have HM1 := hidD (h.next HB1.out)
  have HC1 : Hid (Calls Try.prog 18 #[.pointer (some ⟨k.m, 0, none⟩), .int .i64 a] (w.alloc (.cells #[.int .u64 (D : Int), .int .u8 (C : Int)] 58)) fun e w' => e = .returned (.tuple #[.agg #[.int .u64 ((Z a).1 : Int), .int .u8 ((Z a).2 : Int)], .int .i64 0]) ∧ Below (w.alloc (.cells #[.int .u64 (D : Int), .int .u8 (C : Int)] 58)).heap.size (w.alloc (.cells #[.int .u64 (D : Int), .int .u8 (C : Int)] 58)) w') := cell_ok HM1.out a f t kd hq hkd
  have HV : Hid (∀ w, Calls Try.prog 58 #[.int .i64 8, .agg #[.int .u64 (D : Int), .int .u8 (C : Int)]] w fun e w' => e = .returned (.bool true) ∧ Below w.heap.size w w') := fun w => by
    have := valid_any wid8 D C (by omega) (by omega) w
    rw [decide_eq_true (show D < 2 ^ 8 ∧ C < 2 ^ (4 + 1) from ⟨hD, hC⟩)] at this
    exact this
  have HDC := hidD (And.intro hD hC)
  have HBW := hidD (Chg.of (S := k.own) HB1.out)
  have HA1 : Hid ((w.alloc (.cells #[.int .u64 (D : Int), .int .u8 (C : Int)] (58 : TypeId))).heap[w.heap.size]? = some (.cells #[.int .u64 (D : Int), .int .u8 (C : Int)] (58 : TypeId) (0, 0))) := heap_alloc_last _ _
  have HCW := hidD (And.intro HA1.out HBW.out)
  obtain ⟨hzz, hsz⟩ := zero_of_info Try.zeroWd
  have HI : Hid ((Try.prog.info? 58).map (·.size) = some 2) := hsz
  clear h hp hzz hsz hq hkd hD hC
  generalize Z a = z at *
  obtain ⟨D0, C0⟩ := z
  change Hid (Calls Try.prog 18 #[.pointer (some ⟨k.m, 0, none⟩), .int .i64 a] (w.alloc (.cells #[.int .u64 (D : Int), .int .u8 (C : Int)] 58)) fun e w' => e = .returned (.tuple #[.agg #[.int .u64 (D0 : Int), .int .u8 (C0 : Int)], .int .i64 0]) ∧ Below (w.alloc (.cells #[.int .u64 (D : Int), .int .u8 (C : Int)] 58)).heap.size (w.alloc (.cells #[.int .u64 (D : Int), .int .u8 (C : Int)] 58)) w') at HC1
  unfold wdC
  go_enter Try.func23, Try.ntmps23
  go_wp2_with (first
    | (go_at_call 18; refine HC1.out.mono ?_; rintro e w2 ⟨rfl, hb2⟩
       have HB2 := hidD (hb2.trans (((Below.refl _ _).alloc (Nat.le_refl _) (.cells #[.int .u64 (D0 : Int), .int .u8 (C0 : Int)] 58)).mono hb2.size))
       clear hb2
       have HR2 := hidD ((HB2.out.block _ (row_lt HA1.out)).trans HA1.out)
       have e0 : (w2.alloc (.cells #[.int .u64 (D0 : Int), .int .u8 (C0 : Int)] 58)).cell? ⟨w.heap.size, 0, none⟩ = some (.int .u64 (D : Int)) := by rw [cell_of_row _ _ _ _ _ _ HR2.out]; rfl
       have e1 : (w2.alloc (.cells #[.int .u64 (D0 : Int), .int .u8 (C0 : Int)] 58)).cell? ⟨w.heap.size, 1, none⟩ = some (.int .u8 (C : Int)) := by rw [cell_of_row _ _ _ _ _ _ HR2.out]; rfl)
    | (go_at_call 58; refine (HV.out _).mono ?_; rintro e w3 ⟨rfl, hb3⟩
       have HB3 := hidD (HB2.out.trans (hb3.mono HB2.out.size))
       have HM3 := hidD (HM1.out.next HB3.out)
       have HC3 := hidD (HBW.out.trans (Chg.of HB3.out))
       have HR3 := hidD ((HB3.out.block _ (row_lt HA1.out)).trans HA1.out)
       clear hb3))
  have q2 : ∀ i : BW w3, i.v.cell? ⟨k.m, 2, none⟩ = some (.slice (some ⟨k.c, 0, none⟩) 65536 65536) := fun i => (i.cell HM3.out.lt.1).trans HM3.out.cells.2.2.1
  have q3 : ∀ i : BW w3, i.v.cell? ⟨w.heap.size, 0, none⟩ = some (.int .u64 (D : Int)) := fun i => (i.cell (row_lt HR3.out)).trans (by rw [cell_of_row _ _ _ _ _ _ HR3.out]; rfl)
  have q4 : ∀ i : BW w3, i.v.cell? ⟨w.heap.size, 1, none⟩ = some (.int .u8 (C : Int)) := fun i => (i.cell (row_lt HR3.out)).trans (by rw [cell_of_row _ _ _ _ _ _ HR3.out]; rfl)
  refine wp_region_put (by simp) (by kernel_rfl) rfl (by kernel_rfl) (by kernel_rfl) (by kernel_rfl) ?_
  simp only [List.dropLast_cons_cons, List.dropLast_singleton, List.getLast_cons_cons, List.getLast_singleton, List.cons_append, List.nil_append, mute]
  repeat (go_big_quiet_step (fail))
  refine wpQuiet_nil ?_
  intro i
  have HMI := hidD (HM3.out.next i.below)
  have HCI := hidD (HC3.out.trans (Chg.of i.below))
  refine wpList_store_mid rfl 58 _ _ rfl k.c (a * 2) #[.int .u64 (D : Int), .int .u8 (C : Int)] rfl rfl (HMI.out.ce.there ha) HI.out (wd_one D C) ?_
  have HF := hidD (HMI.out.put ha D C HDC.out.1 HDC.out.2)
  have HG := hidD (HCI.out.put k.c (Or.inr rfl) (a * 2) [.int .u64 (D : Int), .int .u8 (C : Int)])
  change Hid (MeAt (World.setCells i.v k.c (a * 2) (#[.int .u64 (D : Int), .int .u8 (C : Int)] : Array Value).toList) k (upd Z a (D, C)) x y) at HF
  change Hid (Chg k.own w (World.setCells i.v k.c (a * 2) (#[.int .u64 (D : Int), .int .u8 (C : Int)] : Array Value).toList)) at HG
  generalize World.setCells _ _ _ _ = w5 at *
  go_wp2_with fail
  go_ret
  exact ⟨rfl, HF.out, HG.out⟩
/- Turn -/
set_option maxRecDepth 100000 in
theorem turn_nil (a b : Int) (w : World) : Calls Try.prog 22 #[.pointer none, .int .i64 a, .int .i64 b] w fun e w' => e = .returned (.int .i64 2) ∧ Below w.heap.size w w' := by
  go_enter Try.func22, Try.ntmps22
  go_wp2_with fail
  go_ret
  exact ⟨rfl, Below.refl _ _⟩
set_option maxRecDepth 100000 in
set_option maxHeartbeats 1600000 in
theorem memTurn_no {w : World} {k : Mk} {Z : Nat → Nat × Nat} {x y : Int} (h : MeAt w k Z x y) (a : Nat) (ha : a < 65536) (b : Int) (hb : b < 0 ∨ 12 < b) :
    Calls Try.prog 22 #[.pointer (some ⟨k.m, 0, none⟩), .int .i64 a, .int .i64 b] w fun e w' => e = .returned (.int .i64 1) ∧ Below w.heap.size w w' := by
  obtain ⟨⟨z0, z1⟩, hz⟩ := h.ce.cell ha
  have HP : Hid (∀ w, Calls Try.prog 56 #[.int .i64 (a : Int)] w fun e w' => e = .returned (.bool true) ∧ w' = w) := fun w => by have := isPlace_any (a : Int) w; rw [decide_eq_true (by omega)] at this; exact this
  have HT : Hid (∀ w, Calls Try.prog 57 #[.int .i64 8, .agg (wdC (Z a).1 (Z a).2), .int .i64 b] w fun e w' => e = .returned (.tuple #[.agg (wdC 0 0), .int .i64 1]) ∧ Below w.heap.size w w') := fun w =>
    turn_no 8 (Z a).1 (Z a).2 b 4 0 (fun w => checks_ok wid8 w) (Or.inr (Or.inr ⟨rfl, fun w => by
      have := valid_any wid8 (Z a).1 (Z a).2 (by omega) (by omega) w
      rw [decide_eq_true (show (Z a).1 < 2 ^ 8 ∧ (Z a).2 < 2 ^ (4 + 1) from hz)] at this
      exact this, by decide, by decide, by decide, by decide, by omega⟩)) w
  obtain ⟨-, -, c2, -⟩ := h.cells
  have hai : (a : Int) < 65536 := by omega
  clear h hz hb
  generalize k.m = m at *
  generalize k.c = c at *
  generalize Z a = z at *
  obtain ⟨D, C⟩ := z
  change w.cell? ⟨c, a * 2, none⟩ = some (.int .u64 (D : Int)) at z0
  change w.cell? ⟨c, a * 2 + 1, none⟩ = some (.int .u8 (C : Int)) at z1
  change Hid (∀ w, Calls Try.prog 57 #[.int .i64 8, .agg #[.int .u64 (D : Int), .int .u8 (C : Int)], .int .i64 b] w fun e w' => e = .returned (.tuple #[.agg #[.int .u64 ((0 : Nat) : Int), .int .u8 ((0 : Nat) : Int)], .int .i64 1]) ∧ Below w.heap.size w w') at HT
  go_enter Try.func22, Try.ntmps22
  go_wp2_with (first
    | (go_at_call 56; refine (HP.out _).mono ?_; rintro e w1 ⟨rfl, rfl⟩)
    | (go_at_call 57; refine (HT.out _).mono ?_; rintro e w2 ⟨rfl, hb2⟩
       have HB2 := hidD (hb2.trans (((Below.refl _ _).alloc (Nat.le_refl _) (.cells #[.int .u64 ((0 : Nat) : Int), .int .u8 ((0 : Nat) : Int)] 58)).mono hb2.size)); clear hb2))
  go_ret
  exact ⟨rfl, HB2.out⟩
set_option maxRecDepth 100000 in
set_option maxHeartbeats 1600000 in
theorem memTurn_ok {w : World} {k : Mk} {Z : Nat → Nat × Nat} {x y : Int} (h : MeAt w k Z x y) (a : Nat) (f t kd : Int) (hq : rgo k.R a = ((f, t, kd), 0)) (hkd : kd = 1 ∨ kd = 2) (b : Nat) (hb : b < 13) :
    Calls Try.prog 22 #[.pointer (some ⟨k.m, 0, none⟩), .int .i64 a, .int .i64 b] w fun e w' => e = .returned (.int .i64 0) ∧ MeAt w' k (upd Z a (turZ (Z a) b)) x y ∧ Chg k.own w w' := by
  have hp := rgo_place hq
  have ha : a < 65536 := by omega
  obtain ⟨⟨z0, z1⟩, hz⟩ := h.ce.cell ha
  have HP : Hid (∀ w, Calls Try.prog 56 #[.int .i64 (a : Int)] w fun e w' => e = .returned (.bool true) ∧ w' = w) := fun w => by have := isPlace_any (a : Int) w; rw [decide_eq_true (by omega)] at this; exact this
  have HT : Hid (∀ w, Calls Try.prog 57 #[.int .i64 8, .agg (wdC (Z a).1 (Z a).2), .int .i64 (b : Int)] w fun e w' => e = .returned (.tuple #[.agg (wdC (turZ (Z a) b).1 (turZ (Z a) b).2), .int .i64 0]) ∧ Below w.heap.size w w') := fun w => turn_ok wid8 (Z a).1 (Z a).2 hz.1 hz.2 b (by omega) w
  have hl := turZ_lt hz hb
  have HL : Hid (∀ w1, Below w.heap.size w w1 → Calls Try.prog 23 #[.pointer (some ⟨k.m, 0, none⟩), .int .i64 a, .agg (wdC (turZ (Z a) b).1 (turZ (Z a) b).2)] w1 fun e w' => e = .returned (.int .i64 0) ∧ MeAt w' k (upd Z a (turZ (Z a) b)) x y ∧ Chg k.own w1 w') := fun w1 hb1 => lay_ok (h.next hb1) a f t kd hq hkd _ _ hl.1 hl.2
  obtain ⟨-, -, c2, -⟩ := h.cells
  have hai : (a : Int) < 65536 := by omega
  clear h hz hb hq hkd hp hl
  generalize turZ (Z a) b = T at *
  generalize Z a = z at *
  obtain ⟨D, C⟩ := z
  obtain ⟨TD, TC⟩ := T
  change w.cell? ⟨k.c, a * 2, none⟩ = some (.int .u64 (D : Int)) at z0
  change w.cell? ⟨k.c, a * 2 + 1, none⟩ = some (.int .u8 (C : Int)) at z1
  change Hid (∀ w, Calls Try.prog 57 #[.int .i64 8, .agg #[.int .u64 (D : Int), .int .u8 (C : Int)], .int .i64 (b : Int)] w fun e w' => e = .returned (.tuple #[.agg #[.int .u64 (TD : Int), .int .u8 (TC : Int)], .int .i64 0]) ∧ Below w.heap.size w w') at HT
  change Hid (∀ w1, Below w.heap.size w w1 → Calls Try.prog 23 #[.pointer (some ⟨k.m, 0, none⟩), .int .i64 a, .agg #[.int .u64 (TD : Int), .int .u8 (TC : Int)]] w1 fun e w' => e = .returned (.int .i64 0) ∧ MeAt w' k (upd Z a (TD, TC)) x y ∧ Chg k.own w1 w') at HL
  go_enter Try.func22, Try.ntmps22
  go_wp2_with (first
    | (go_at_call 56; refine (HP.out _).mono ?_; rintro e w1 ⟨rfl, rfl⟩)
    | (go_at_call 57; refine (HT.out _).mono ?_; rintro e w2 ⟨rfl, hb2⟩
       obtain ⟨g0, g1⟩ := wd_at w2 TD TC
       have HB2 := hidD (hb2.trans (((Below.refl _ _).alloc (Nat.le_refl _) (.cells #[.int .u64 (TD : Int), .int .u8 (TC : Int)] 58)).mono hb2.size)); clear hb2)
    | (go_at_call 23; refine (HL.out _ HB2.out).mono ?_; rintro e w3 ⟨rfl, hm3, hc3⟩; have HM3 := hidD hm3; have HC3 := hidD ((Chg.of HB2.out).trans hc3); clear hm3 hc3))
  go_ret
  exact ⟨rfl, HM3.out, HC3.out⟩
end Go.Proofs.Ytjnfnihhihncmaa
