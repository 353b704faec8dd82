/- Write; Read. -/
import Derived.Test.YtjnfnihhihncmaaMmg
import Derived.DeepKeys4
import Derived.Maps.Keyed
namespace Go.Proofs.Ytjnfnihhihncmaa
open Go.RowKit
set_option linter.unusedVariables false

set_option maxRecDepth 100000 in
set_option maxHeartbeats 800000 in
theorem write_err (pv : Value) (a : Int) (b : Nat) (f t kd er : Int) (her : er ≠ 0) (w : World) (HK : Hid (Calls Try.prog 48 #[pv, .int .i64 a] w fun e w' => e = .returned (.tuple #[.agg #[.int .i64 f, .int .i64 t, .int .i64 kd], .int .i64 er]) ∧ Below w.heap.size w w')) :
    Calls Try.prog 20 #[pv, .int .i64 a, .int .u8 (b : Int)] w fun e w' => e = .returned (.int .i64 er) ∧ Below w.heap.size w w' := by
  go_enter Try.func20, Try.ntmps20
  go_wp2_with (go_at_call 48; refine HK.out.mono ?_; rintro e w2 ⟨rfl, hb2⟩
               have HB2 := hidD (hb2.trans (((Below.refl _ _).alloc (Nat.le_refl _) (.cells #[.int .i64 f, .int .i64 t, .int .i64 kd] 35)).mono hb2.size)); clear hb2)
  go_ret
  exact ⟨rfl, HB2.out⟩
set_option maxRecDepth 100000 in
set_option maxHeartbeats 800000 in
theorem write_rom (pv : Value) (a : Int) (b : Nat) (f t : Int) (w : World) (HK : Hid (Calls Try.prog 48 #[pv, .int .i64 a] w fun e w' => e = .returned (.tuple #[.agg #[.int .i64 f, .int .i64 t, .int .i64 2], .int .i64 0]) ∧ Below w.heap.size w w')) :
    Calls Try.prog 20 #[pv, .int .i64 a, .int .u8 (b : Int)] w fun e w' => e = .returned (.int .i64 231) ∧ Below w.heap.size w w' := by
  go_enter Try.func20, Try.ntmps20
  go_wp2_with (go_at_call 48; refine HK.out.mono ?_; rintro e w2 ⟨rfl, hb2⟩
               obtain ⟨g0, g1, g2⟩ := rg_cells w2 f t 2
               have HB2 := hidD (hb2.trans (((Below.refl _ _).alloc (Nat.le_refl _) (.cells #[.int .i64 f, .int .i64 t, .int .i64 2] 35)).mono hb2.size)); clear hb2)
  go_ret
  exact ⟨rfl, HB2.out⟩
set_option maxRecDepth 100000 in
set_option maxHeartbeats 3200000 in
theorem write_ram {w : World} {k : Mk} {Z : Nat → Nat × Nat} {x y : Int} (h : MeAt w k Z x y) (a : Nat) (f t : Int) (hq : rgo k.R a = ((f, t, 1), 0)) (b : Nat) (hb : b < 256) :
    Calls Try.prog 20 #[.pointer (some ⟨k.m, 0, none⟩), .int .i64 a, .int .u8 (b : Int)] w fun e w' => e = .returned (.int .i64 0) ∧ MeAt w' k (upd Z a (encZ b)) x y ∧ Chg k.own w w' := by
  have hp := rgo_place hq
  have ha : a < 65536 := by omega
  have HK : Hid (Calls Try.prog 48 #[.pointer (some ⟨k.m, 0, none⟩), .int .i64 a] w fun e w' => e = .returned (.tuple #[.agg #[.int .i64 f, .int .i64 t, .int .i64 1], .int .i64 0]) ∧ Below w.heap.size w w') := reg_next h a (Below.refl _ _) hq
  have HCO : Hid (∀ w, Calls Try.prog 54 #[.int .u8 (b : Int)] w fun e w' => e = .returned (.agg (wdC (encZ b).1 (encZ b).2)) ∧ Below w.heap.size w w') := fun w => cellOf_any b hb w
  have HEL := hidD (encZ_lt hb)
  have HM := hidD h
  obtain ⟨hzz, hsz⟩ := zero_of_info Try.zeroWd
  have HI : Hid ((Try.prog.info? 58).map (·.size) = some 2) := hsz
  clear h hzz hsz hp hq
  generalize encZ b = E at *
  obtain ⟨ED, EC⟩ := E
  change Hid (∀ w, Calls Try.prog 54 #[.int .u8 (b : Int)] w fun e w' => e = .returned (.agg #[.int .u64 (ED : Int), .int .u8 (EC : Int)]) ∧ Below w.heap.size w w') at HCO
  go_enter Try.func20, Try.ntmps20
  go_wp2_with (go_at_call 48; refine HK.out.mono ?_; rintro e w2 ⟨rfl, hb2⟩
               obtain ⟨g0, g1, g2⟩ := rg_cells w2 f t 1
               have HB2 := hidD (hb2.trans (((Below.refl _ _).alloc (Nat.le_refl _) (.cells #[.int .i64 f, .int .i64 t, .int .i64 1] 35)).mono hb2.size)); clear hb2)
  have HM3 := hidD (HM.out.next HB2.out)
  have HC3 := hidD (Chg.of (S := k.own) HB2.out)
  generalize World.alloc _ _ = w3 at *
  have q2 : ∀ i : BW w3, i.v.cell? ⟨k.m, 2, none⟩ = some (.slice (some ⟨k.c, 0, none⟩) 65536 65536) := fun i => (i.cell HM3.out.lt.1).trans HM3.out.cells.2.2.1
  refine wp_region_put (by simp) (by kernel_rfl) rfl (by kernel_rfl) (by kernel_rfl) (by kernel_rfl) ?_
  simp only [List.dropLast_cons_cons, List.dropLast_singleton, List.getLast_cons_cons, List.getLast_singleton, List.cons_append, List.nil_append, mute]
  repeat (go_big_quiet_step ((go_at_call 54; exact Calls.below_of (HCO.out _))))
  refine wpQuiet_nil ?_
  intro i
  have HMI := hidD (HM3.out.next i.below)
  have HCI := hidD (HC3.out.trans (Chg.of i.below))
  refine wpList_store_mid rfl 58 _ _ rfl k.c (a * 2) #[.int .u64 (ED : Int), .int .u8 (EC : Int)] rfl rfl (HMI.out.ce.there ha) HI.out (wd_one ED EC) ?_
  have HF := hidD (HMI.out.put ha ED EC HEL.out.1 HEL.out.2)
  have HG := hidD (HCI.out.put k.c (Or.inr rfl) (a * 2) [.int .u64 (ED : Int), .int .u8 (EC : Int)])
  change Hid (MeAt (World.setCells i.v k.c (a * 2) (#[.int .u64 (ED : Int), .int .u8 (EC : Int)] : Array Value).toList) k (upd Z a (ED, EC)) x y) at HF
  change Hid (Chg k.own w (World.setCells i.v k.c (a * 2) (#[.int .u64 (ED : Int), .int .u8 (EC : Int)] : Array Value).toList)) at HG
  generalize World.setCells _ _ _ _ = w5 at *
  go_wp2_with fail
  go_ret
  exact ⟨rfl, HF.out, HG.out⟩
/- Read -/
set_option maxRecDepth 100000 in
set_option maxHeartbeats 800000 in
theorem read_err (pv : Value) (a : Int) (f t kd er : Int) (her : er ≠ 0) (w : World) (HK : Hid (Calls Try.prog 48 #[pv, .int .i64 a] w fun e w' => e = .returned (.tuple #[.agg #[.int .i64 f, .int .i64 t, .int .i64 kd], .int .i64 er]) ∧ Below w.heap.size w w')) :
    Calls Try.prog 16 #[pv, .int .i64 a] w fun e w' => e = .returned (.tuple #[.int .u8 0, .int .i64 er]) ∧ Below w.heap.size w w' := by
  go_enter Try.func16, Try.ntmps16
  go_wp2_with (go_at_call 48; refine HK.out.mono ?_; rintro e w2 ⟨rfl, hb2⟩
               have HB2 := hidD (hb2.trans (((Below.refl _ _).alloc (Nat.le_refl _) (.cells #[.int .i64 f, .int .i64 t, .int .i64 kd] 35)).mono hb2.size)); clear hb2)
  refine bodyPost_ret (v := .tuple #[.int .u8 0, .int .i64 er]) (by simp [results, Try.results16, go_sem]) rfl ?_
  exact ⟨rfl, HB2.out⟩
set_option maxRecDepth 100000 in
set_option maxHeartbeats 800000 in
theorem read_cell {w : World} {k : Mk} {Z : Nat → Nat × Nat} {x y : Int} (h : MeAt w k Z x y) (a : Nat) (f t kd : Int) (hq : rgo k.R a = ((f, t, kd), 0)) (hkd : kd = 1 ∨ kd = 2) (hx : 0 ≤ x ∧ x < 4611686018427387904) (hy : 0 ≤ y ∧ y < 4611686018427387904) :
    Calls Try.prog 16 #[.pointer (some ⟨k.m, 0, none⟩), .int .i64 a] w fun e w' => e = .returned (.tuple #[.int .u8 ((decS (Z a)).1 : Int), .int .i64 (rdE (Z a))]) ∧ MeAt w' k (upd Z a (mdZ (Z a))) (x + mX (Z a)) (y + mY (Z a)) ∧ Chg k.own w w' := by
  have hp := rgo_place hq
  have ha : a < 65536 := by omega
  have HK : Hid (Calls Try.prog 48 #[.pointer (some ⟨k.m, 0, none⟩), .int .i64 a] w fun e w' => e = .returned (.tuple #[.agg #[.int .i64 f, .int .i64 t, .int .i64 kd], .int .i64 0]) ∧ Below w.heap.size w w') := reg_next h a (Below.refl _ _) hq
  have HRC : Hid (∀ w1, Below w.heap.size w w1 → Calls Try.prog 50 #[.pointer (some ⟨k.m, 0, none⟩), .int .i64 a] w1 fun e w' => e = .returned (.tuple #[.int .u8 ((decS (Z a)).1 : Int), .int .i64 (rdE (Z a))]) ∧ MeAt w' k (upd Z a (mdZ (Z a))) (x + mX (Z a)) (y + mY (Z a)) ∧ Chg k.own w1 w') := fun w1 hb => readCell_any (h.next hb) a ha hx hy
  have hk3 : ¬ kd = 3 := by omega
  clear h hp hq hkd hx hy
  generalize ((decS (Z a)).1 : Int) = V at *
  generalize rdE (Z a) = ER at *
  go_enter Try.func16, Try.ntmps16
  go_wp2_with (first
    | (go_at_call 48; refine HK.out.mono ?_; rintro e w2 ⟨rfl, hb2⟩
       obtain ⟨g0, g1, g2⟩ := rg_cells w2 f t kd
       have HB2 := hidD (hb2.trans (((Below.refl _ _).alloc (Nat.le_refl _) (.cells #[.int .i64 f, .int .i64 t, .int .i64 kd] 35)).mono hb2.size)); clear hb2)
    | (go_at_call 50; refine (HRC.out _ HB2.out).mono ?_; rintro e w3 ⟨rfl, hm3, hc3⟩; have HM3 := hidD hm3; have HC3 := hidD ((Chg.of (S := k.own) HB2.out).trans hc3); clear hm3 hc3))
  refine bodyPost_ret (v := .tuple #[.int .u8 V, .int .i64 ER]) (by simp [results, Try.results16, go_sem]) rfl ?_
  exact ⟨rfl, HM3.out, HC3.out⟩
theorem nilF_in {P : Program} (w : World) (d : Nat) (t : TypeId) {a b c} (h : P.underlying t = some (.func a b c)) : (Op.equalIn (d + 1) t .nilFunc .nilFunc).run P w = .ok true w := by
  simp [Op.equalIn, run_underlying h]
theorem nilF_any {P : Program} (w : World) (t : TypeId) {a b c} (h : P.underlying t = some (.func a b c)) : (binOp .eql t .nilFunc .nilFunc).run P w = .ok (.bool true) w := by
  have : (Op.equal t .nilFunc .nilFunc).run P w = .ok true w := nilF_in w 9999 t h
  simp only [binOp]
  simp [this]
theorem nilF_get (w : World) : (binOp .eql 89 .nilFunc .nilFunc).run Try.prog w = .ok (.bool true) w := nilF_any w 89 Try.underlying89
set_option maxRecDepth 100000 in
theorem portRead_nil (pu : Value) (r : Int) (w : World) : Calls Try.prog 49 #[.agg #[.nilFunc, pu], .int .i64 r] w fun e w' => e = .returned (.int .u8 255) ∧ Below w.heap.size w w' := by
  have g0 : (w.alloc (.cells #[.nilFunc, pu] 104)).cell? ⟨w.heap.size, 0, none⟩ = some .nilFunc := by rw [cell_of_row _ _ _ _ _ _ (heap_alloc_last _ _)]; rfl
  have HB : Hid (Below w.heap.size w (w.alloc (.cells #[.nilFunc, pu] 104))) := (Below.refl _ _).alloc (Nat.le_refl _) _
  have hf := fun w => nilF_get w
  go_enter Try.func49, Try.ntmps49
  go_wp2_with fail
  go_ret
  exact ⟨rfl, HB.out⟩
theorem Try.zeroPt : (Try.prog.info? 104).map (fun i => i.zero) = some (some (.agg #[.nilFunc, .nilFunc])) := by kernel_rfl
theorem key_rg : Maps.Keyed Try.prog 35 := Maps.Keyed.of_law (deep_law_laid Try.laid0 (m := 5) (by decide) (of_decide_eq_true (by kernel_rfl)) (by kernel_rfl) (by kernel_rfl))
set_option maxRecDepth 100000 in
theorem look_empty {w : World} {p n : Nat} (h : w.heap[p]? = some (.map #[] n)) {key : Value} {kl : Lit} (hk : keyOf Try.prog 35 key = some kl) :
    (Instr.lookup 82 (.map (some p)) key false).run Try.prog w = .ok (.agg #[.nilFunc, .nilFunc]) w := by
  have hz : (zeroValue 104).run Try.prog w = .ok (.agg #[.nilFunc, .nilFunc]) w := by
    have hz0 := Try.zeroPt
    cases hi : Try.prog.info? 104 with
    | none => rw [hi] at hz0; simp at hz0
    | some i =>
      rw [hi] at hz0
      have hz1 : i.zero = some (.agg #[.nilFunc, .nilFunc]) := by simpa using hz0
      simp [zeroValue, typeInfo, hi, hz1, Sem.run_bind]
  have hf : (Instr.findKey 35 key []).run Try.prog w = .ok none w := rfl
  simp [Instr.lookup, run_underlying Try.underlying82, MapKept.run_getObj_map h, key_rg.check w _ hk, hf, hz, Result.andThen]
end Go.Proofs.Ytjnfnihhihncmaa
