/- readCell: a cell is read, and laid anew if a bit was turned. -/
import Derived.Test.YtjnfnihhihncmaaMme
import Derived.Test.YtjnfnihhihncmaaQuietL
namespace Go.Proofs.Ytjnfnihhihncmaa
open Go.RowKit
set_option linter.unusedVariables false

theorem MeAt.froz {w : World} {k : Mk} {Z : Nat → Nat × Nat} {x y : Int} (h : MeAt w k Z x y) (j : Nat) : w.frozen? ⟨k.m, j, none⟩ = false := frozen_of_row _ _ _ _ _ h.row
theorem dec_call (z : Nat × Nat) (hz : z.1 < 256 ∧ z.2 < 32) {d k i e : Nat} (h : decS z = (d, k, i, e)) (w : World) : Calls Try.prog 51 #[.int .i64 8, .agg (wdC z.1 z.2)] w fun ee w' => ee = .returned (.tuple #[.int .u64 (d : Int), .int .i64 (k : Int), .int .i64 (i : Int), .int .i64 (e : Int)]) ∧ Below w.heap.size w w' :=
  decode_ok wid8 z.1 z.2 hz.1 hz.2 d k i e (by have := dec_is z; rw [h] at this; exact this) w
set_option maxRecDepth 100000 in
set_option maxHeartbeats 1600000 in
theorem readCell_fine {w : World} {k : Mk} {Z : Nat → Nat × Nat} {x y : Int} (h : MeAt w k Z x y) (a : Nat) (ha : a < 65536) (d i : Nat) (hd : decS (Z a) = (d, 0, i, 0)) :
    Calls Try.prog 50 #[.pointer (some ⟨k.m, 0, none⟩), .int .i64 a] w fun e w' => e = .returned (.tuple #[.int .u8 (d : Int), .int .i64 0]) ∧ Below w.heap.size w w' := by
  obtain ⟨⟨z0, z1⟩, hz⟩ := h.ce.cell ha
  have HD : Hid (∀ w, Calls Try.prog 51 #[.int .i64 8, .agg (wdC (Z a).1 (Z a).2)] w fun ee w' => ee = .returned (.tuple #[.int .u64 (d : Int), .int .i64 0, .int .i64 (i : Int), .int .i64 0]) ∧ Below w.heap.size w w') := fun w => dec_call (Z a) hz hd w
  have hdl : d < 256 := by have := dec_lt hz.1; rw [hd] at this; exact this
  have hcv : (d : Int) % 256 = d := by omega
  obtain ⟨-, -, c2, -⟩ := h.cells
  clear h hd hdl
  generalize k.m = m at *
  generalize k.c = c at *
  generalize Z a = z at *
  obtain ⟨D, C⟩ := z
  change w.cell? ⟨c, a * 2, none⟩ = some (.int .u64 (D : Int)) at z0
  change w.cell? ⟨c, a * 2 + 1, none⟩ = some (.int .u8 (C : Int)) at z1
  change Hid (∀ w, Calls Try.prog 51 #[.int .i64 8, .agg #[.int .u64 (D : Int), .int .u8 (C : Int)]] w _) at HD
  go_enter Try.func50, Try.ntmps50
  go_wp2_with (go_at_call 51; refine (HD.out _).mono ?_; rintro e w2 ⟨rfl, hb2⟩; have HB := hidD hb2; clear hb2)
  refine bodyPost_ret (v := .tuple #[.int .u8 (d : Int), .int .i64 0]) (by simp [results, Try.results50, go_sem]) rfl ?_
  exact ⟨rfl, HB.out⟩
set_option maxRecDepth 100000 in
set_option maxHeartbeats 1600000 in
theorem readCell_lost {w : World} {k : Mk} {Z : Nat → Nat × Nat} {x y : Int} (h : MeAt w k Z x y) (a : Nat) (ha : a < 65536) (d q i : Nat) (hd : decS (Z a) = (d, q, i, 100)) (hy : 0 ≤ y ∧ y < 4611686018427387904) :
    Calls Try.prog 50 #[.pointer (some ⟨k.m, 0, none⟩), .int .i64 a] w fun e w' => e = .returned (.tuple #[.int .u8 0, .int .i64 232]) ∧ MeAt w' k Z x (y + 1) ∧ Chg k.own w w' := by
  obtain ⟨⟨z0, z1⟩, hz⟩ := h.ce.cell ha
  have HD : Hid (∀ w, Calls Try.prog 51 #[.int .i64 8, .agg (wdC (Z a).1 (Z a).2)] w fun ee w' => ee = .returned (.tuple #[.int .u64 (d : Int), .int .i64 (q : Int), .int .i64 (i : Int), .int .i64 100]) ∧ Below w.heap.size w w') := fun w => dec_call (Z a) hz hd w
  have hwr : (y + 1 + 9223372036854775808) % 18446744073709551616 - 9223372036854775808 = y + 1 := by omega
  obtain ⟨-, -, c2, -⟩ := h.cells
  have HM := hidD h
  clear h hd
  generalize Z a = z at *
  obtain ⟨D, C⟩ := z
  change w.cell? ⟨k.c, a * 2, none⟩ = some (.int .u64 (D : Int)) at z0
  change w.cell? ⟨k.c, a * 2 + 1, none⟩ = some (.int .u8 (C : Int)) at z1
  change Hid (∀ w, Calls Try.prog 51 #[.int .i64 8, .agg #[.int .u64 (D : Int), .int .u8 (C : Int)]] w _) at HD
  go_enter Try.func50, Try.ntmps50
  go_wp2_with (go_at_call 51; refine (HD.out _).mono ?_; rintro e w2 ⟨rfl, hb2⟩; have HM2 := hidD (HM.out.next hb2); have HC2 := hidD (Chg.of (S := k.own) hb2); clear hb2; obtain ⟨-, -, -, -, d4⟩ := HM2.out.cells; have f4 := HM2.out.froz 4)
  refine bodyPost_ret (v := .tuple #[.int .u8 0, .int .i64 232]) (by simp [results, Try.results50, go_sem]) rfl ?_
  refine ⟨rfl, ?_, HC2.out.set ⟨k.m, 4, none⟩ (Or.inl rfl) _⟩
  have := HM2.out.putY (y + 1)
  exact this
set_option maxRecDepth 100000 in
set_option maxHeartbeats 3200000 in
theorem readCell_mend {w : World} {k : Mk} {Z : Nat → Nat × Nat} {x y : Int} (h : MeAt w k Z x y) (a : Nat) (ha : a < 65536) (d q i : Nat) (hd : decS (Z a) = (d, q, i, 0)) (hq : q ≠ 0) (hx : 0 ≤ x ∧ x < 4611686018427387904) :
    Calls Try.prog 50 #[.pointer (some ⟨k.m, 0, none⟩), .int .i64 a] w fun e w' => e = .returned (.tuple #[.int .u8 (d : Int), .int .i64 0]) ∧ MeAt w' k (upd Z a (encZ d)) (x + 1) y ∧ Chg k.own w w' := by
  obtain ⟨⟨z0, z1⟩, hz⟩ := h.ce.cell ha
  have HD : Hid (∀ w, Calls Try.prog 51 #[.int .i64 8, .agg (wdC (Z a).1 (Z a).2)] w fun ee w' => ee = .returned (.tuple #[.int .u64 (d : Int), .int .i64 (q : Int), .int .i64 (i : Int), .int .i64 0]) ∧ Below w.heap.size w w') := fun w => dec_call (Z a) hz hd w
  have hwr : (x + 1 + 9223372036854775808) % 18446744073709551616 - 9223372036854775808 = x + 1 := by omega
  have hdl : d < 256 := by have := dec_lt hz.1; rw [hd] at this; exact this
  have hcv : (d : Int) % 256 = d := by omega
  have hq2 : ¬ (q : Int) = 0 := by omega
  have HCO : Hid (∀ w, Calls Try.prog 54 #[.int .u8 (d : Int)] w fun e w' => e = .returned (.agg (wdC (encZ d).1 (encZ d).2)) ∧ Below w.heap.size w w') := fun w => cellOf_any d hdl w
  have HEL := hidD (encZ_lt hdl)
  obtain ⟨-, -, c2, -⟩ := h.cells
  have HM := hidD h
  have hai : (a : Int) < 65536 := by omega
  obtain ⟨hzz, hsz⟩ := zero_of_info Try.zeroWd
  have HI : Hid ((Try.prog.info? 58).map (·.size) = some 2) := hsz
  clear h hd hzz hsz hq hdl hai
  generalize (q : Int) = q' at *
  generalize Z a = z at *
  obtain ⟨D, C⟩ := z
  change w.cell? ⟨k.c, a * 2, none⟩ = some (.int .u64 (D : Int)) at z0
  change w.cell? ⟨k.c, a * 2 + 1, none⟩ = some (.int .u8 (C : Int)) at z1
  change Hid (∀ w, Calls Try.prog 51 #[.int .i64 8, .agg #[.int .u64 (D : Int), .int .u8 (C : Int)]] w _) at HD
  generalize encZ d = E at *
  obtain ⟨ED, EC⟩ := E
  change Hid (∀ w, Calls Try.prog 54 #[.int .u8 (d : Int)] w fun e w' => e = .returned (.agg #[.int .u64 (ED : Int), .int .u8 (EC : Int)]) ∧ Below w.heap.size w w') at HCO
  go_enter Try.func50, Try.ntmps50
  go_wp2_with (go_at_call 51; refine (HD.out _).mono ?_; rintro e w2 ⟨rfl, hb2⟩; have HM2 := hidD (HM.out.next hb2); have HC2 := hidD (Chg.of (S := k.own) hb2); clear hb2; obtain ⟨-, -, -, d3, -⟩ := HM2.out.cells; have f3 := HM2.out.froz 3)
  have HM3 := hidD (HM2.out.putX (x + 1))
  have HC3 := hidD (HC2.out.set ⟨k.m, 3, none⟩ (Or.inl rfl) (.int .i64 (x + 1)))
  generalize World.setCell _ _ _ = w3 at *
  have q2 : ∀ i : BW w3, i.v.cell? ⟨k.m, 2, none⟩ = some (.slice (some ⟨k.c, 0, none⟩) 65536 65536) := fun i => (i.cell HM3.out.lt.1).trans HM3.out.cells.2.2.1
  refine wp_region_put (by simp) (by kernel_rfl) rfl (by kernel_rfl) (by kernel_rfl) (by kernel_rfl) ?_
  simp only [List.dropLast_cons_cons, List.dropLast_singleton, List.getLast_cons_cons, List.getLast_singleton, List.cons_append, List.nil_append, mute]
  repeat (go_big_quiet_step ((go_at_call 54; exact Calls.below_of (HCO.out _))))
  refine wpQuiet_nil ?_
  intro i
  have HMI := hidD (HM3.out.next i.below)
  have HCI := hidD (HC3.out.trans (Chg.of i.below))
  refine wpList_store_mid rfl 58 _ _ rfl k.c (a * 2) #[.int .u64 (ED : Int), .int .u8 (EC : Int)] rfl rfl (HMI.out.ce.there ha) HI.out (wd_one ED EC) ?_
  have HF := hidD (HMI.out.put ha ED EC HEL.out.1 HEL.out.2)
  have HG := hidD (HCI.out.put k.c (Or.inr rfl) (a * 2) [.int .u64 (ED : Int), .int .u8 (EC : Int)])
  change Hid (MeAt (World.setCells i.v k.c (a * 2) (#[.int .u64 (ED : Int), .int .u8 (EC : Int)] : Array Value).toList) k (upd Z a (ED, EC)) (x + 1) y) at HF
  change Hid (Chg k.own w (World.setCells i.v k.c (a * 2) (#[.int .u64 (ED : Int), .int .u8 (EC : Int)] : Array Value).toList)) at HG
  generalize World.setCells _ _ _ _ = w5 at *
  go_wp2_with fail
  refine bodyPost_ret (v := .tuple #[.int .u8 (d : Int), .int .i64 0]) (by simp [results, Try.results50, go_sem]) rfl ?_
  exact ⟨rfl, HF.out, HG.out⟩
/- what a reading of a cell tells and does -/
noncomputable def rdE (z : Nat × Nat) : Int := if (decS z).2.2.2 = 0 then 0 else 232
noncomputable def mX (z : Nat × Nat) : Int := if (decS z).2.2.2 = 0 then (if (decS z).2.1 = 0 then 0 else 1) else 0
noncomputable def mY (z : Nat × Nat) : Int := if (decS z).2.2.2 = 0 then 0 else 1
noncomputable def mdZ (z : Nat × Nat) : Nat × Nat := if (decS z).2.2.2 = 0 then (if (decS z).2.1 = 0 then z else encZ (decS z).1) else z
theorem upd_own (Z : Nat → Nat × Nat) (a : Nat) : upd Z a (Z a) = Z := funext fun i => by unfold upd; split <;> simp_all
theorem readCell_any {w : World} {k : Mk} {Z : Nat → Nat × Nat} {x y : Int} (h : MeAt w k Z x y) (a : Nat) (ha : a < 65536) (hx : 0 ≤ x ∧ x < 4611686018427387904) (hy : 0 ≤ y ∧ y < 4611686018427387904) :
    Calls Try.prog 50 #[.pointer (some ⟨k.m, 0, none⟩), .int .i64 a] w fun e w' => e = .returned (.tuple #[.int .u8 ((decS (Z a)).1 : Int), .int .i64 (rdE (Z a))]) ∧ MeAt w' k (upd Z a (mdZ (Z a))) (x + mX (Z a)) (y + mY (Z a)) ∧ Chg k.own w w' := by
  have he := dec_err (Z a)
  unfold rdE mX mY mdZ
  rcases hd : decS (Z a) with ⟨d, q, i, e⟩
  rw [hd] at he
  change e = 0 ∨ (e = 100 ∧ d = 0) at he
  rcases he with rfl | ⟨rfl, rfl⟩
  · simp only [if_true]
    by_cases hq : q = 0
    · subst hq
      simp only [if_true, Int.add_zero]
      rw [upd_own]
      exact (readCell_fine h a ha d i hd).mono fun e w' ⟨e1, hb⟩ => ⟨e1, h.next hb, Chg.of hb⟩
    · simp only [if_neg hq, Int.add_zero]
      exact readCell_mend h a ha d q i hd hq hx
  · simp only [show ¬ (100 = 0) by decide, if_false, Int.add_zero]
    rw [upd_own]
    exact readCell_lost h a ha 0 q i hd hy
end Go.Proofs.Ytjnfnihhihncmaa
