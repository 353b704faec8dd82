/- What a round answers. -/
import Derived.Test.YtnldpofljeodiaaSh8
namespace Go.Proofs.Ytnldpofljeodiaa
open Go.RowKit
set_option linter.unusedVariables false

/- a round over words below M: the two sums, and the chain behind it -/
def chS (M e f g : Nat) : Nat := (e &&& f) ^^^ (((M - 1) ^^^ e) &&& g)
def maS (a b c : Nat) : Nat := ((a &&& b) ^^^ (a &&& c)) ^^^ (b &&& c)
def r1S (M t h ch s : Nat) : Nat := (((h + t) % M + ch) % M + s) % M
def r2S (M t ma : Nat) : Nat := (t + ma) % M
def rdS (M te ta s : Nat) (c : Nat → Nat) (j : Nat) : Nat :=
  if j = 0 then (r1S M te (c 7) (chS M (c 4) (c 5) (c 6)) s + r2S M ta (maS (c 0) (c 1) (c 2))) % M
  else if j = 4 then (c 3 + r1S M te (c 7) (chS M (c 4) (c 5) (c 6)) s) % M else c (j - 1)

theorem Try.zero61z : (Try.prog.info? 90).map (fun i => (i.zero, i.size)) = some (some (.agg (rowZ .u64 8 (fun _ => 0))), 8) := by kernel_rfl
set_option maxRecDepth 100000 in
set_option maxHeartbeats 1600000 in
theorem roundW_any (c : Nat → Nat) (hc : ∀ j, c j < 18446744073709551616) (s : Nat) (hs : s < 18446744073709551616) (w : World) : Calls Try.prog 73 #[.agg (rowZ .u64 8 (fun j => (c j : Int))), .int .u64 (s : Int), .agg shW] w fun e w' => e = .returned (.agg (rowZ .u64 8 (fun j => (rdS 18446744073709551616 (turnsS 64 (c 4) 14 18 41) (turnsS 64 (c 0) 28 34 39) s c j : Int)))) ∧ Below w.heap.size w w' := by
  obtain ⟨hz, hsz⟩ := zero_of_info Try.zero61z
  have HSZ := hidD hsz
  have HTE : Hid (∀ w, Calls Try.prog 83 #[.int .u64 (c 4 : Int), .agg #[.int .i64 14, .int .i64 18, .int .i64 41], .int .i64 64] w fun e w' => e = .returned (.int .u64 (turnsS 64 (c 4) 14 18 41 : Int)) ∧ Below w.heap.size w w') := fun w => turns64_any (c 4) 14 18 41 (hc 4) (by omega) (by omega) (by omega) w
  have HTA : Hid (∀ w, Calls Try.prog 83 #[.int .u64 (c 0 : Int), .agg #[.int .i64 28, .int .i64 34, .int .i64 39], .int .i64 64] w fun e w' => e = .returned (.int .u64 (turnsS 64 (c 0) 28 34 39 : Int)) ∧ Below w.heap.size w w') := fun w => turns64_any (c 0) 28 34 39 (hc 0) (by omega) (by omega) (by omega) w
  have HRJ : Hid (∀ j, j < 8 → (rdS 18446744073709551616 (turnsS 64 (c 4) 14 18 41) (turnsS 64 (c 0) 28 34 39) s c j : Int) = ((if j = 0 then (r1S 18446744073709551616 (turnsS 64 (c 4) 14 18 41) (c 7) (chS 18446744073709551616 (c 4) (c 5) (c 6)) s + r2S 18446744073709551616 (turnsS 64 (c 0) 28 34 39) (maS (c 0) (c 1) (c 2))) % 18446744073709551616 else if j = 4 then (c 3 + r1S 18446744073709551616 (turnsS 64 (c 4) 14 18 41) (c 7) (chS 18446744073709551616 (c 4) (c 5) (c 6)) s) % 18446744073709551616 else c (j - 1) : Nat) : Int)) := fun j hj => rfl
  have hte : turnsS 64 (c 4) 14 18 41 < 18446744073709551616 := turnsS_lt 64 (c 4) _ _ _ (hc 4)
  have hta : turnsS 64 (c 0) 28 34 39 < 18446744073709551616 := turnsS_lt 64 (c 0) _ _ _ (hc 0)
  generalize turnsS 64 (c 4) 14 18 41 = te at *
  generalize turnsS 64 (c 0) 28 34 39 = ta at *
  have hc0 := hc 0
  have hc1 := hc 1
  have hc2 := hc 2
  have hc3 := hc 3
  have hc4 := hc 4
  have hc5 := hc 5
  have hc6 := hc 6
  have hc7 := hc 7
  have a1 : IntKind.u64.wrap ((c 7 : Int) + (te : Int)) = (((c 7 + te) % 18446744073709551616 : Nat) : Int) := by rw [IntKind.wrap_u64]; omega
  have p1 : (c 7 + te) % 18446744073709551616 < 18446744073709551616 := Nat.mod_lt _ (by omega)
  have a2 : bits .and .u64 (c 4 : Int) (c 5 : Int) = ((c 4 &&& c 5 : Nat) : Int) := u64_and_nat _ _ hc4 hc5
  have a3 : bits .xor .u64 (if IntKind.u64.signed = true then -1 else IntKind.u64.max) (c 4 : Int) = (((18446744073709551616 - 1) ^^^ c 4 : Nat) : Int) := u64_xor_nat (18446744073709551616 - 1) (c 4) (by omega) hc4
  have p3 : ((18446744073709551616 - 1) ^^^ c 4) < 18446744073709551616 := Nat.xor_lt_two_pow (n := 64) (show 18446744073709551616 - 1 < 18446744073709551616 by omega) hc4
  have a4 : bits .and .u64 (((18446744073709551616 - 1) ^^^ c 4 : Nat) : Int) (c 6 : Int) = ((((18446744073709551616 - 1) ^^^ c 4) &&& c 6 : Nat) : Int) := u64_and_nat _ _ p3 hc6
  have p4 : (c 4 &&& c 5) < 18446744073709551616 := Nat.lt_of_le_of_lt Nat.and_le_left hc4
  have p5 : (((18446744073709551616 - 1) ^^^ c 4) &&& c 6) < 18446744073709551616 := Nat.lt_of_le_of_lt Nat.and_le_right hc6
  have a5 : bits .xor .u64 ((c 4 &&& c 5 : Nat) : Int) ((((18446744073709551616 - 1) ^^^ c 4) &&& c 6 : Nat) : Int) = (chS 18446744073709551616 (c 4) (c 5) (c 6) : Int) := u64_xor_nat _ _ p4 p5
  have p6 : chS 18446744073709551616 (c 4) (c 5) (c 6) < 18446744073709551616 := Nat.xor_lt_two_pow (n := 64) p4 p5
  have a6 : IntKind.u64.wrap ((((c 7 + te) % 18446744073709551616 : Nat) : Int) + (chS 18446744073709551616 (c 4) (c 5) (c 6) : Int)) = ((((c 7 + te) % 18446744073709551616 + chS 18446744073709551616 (c 4) (c 5) (c 6)) % 18446744073709551616 : Nat) : Int) := by rw [IntKind.wrap_u64]; omega
  have a7 : IntKind.u64.wrap (((((c 7 + te) % 18446744073709551616 + chS 18446744073709551616 (c 4) (c 5) (c 6)) % 18446744073709551616 : Nat) : Int) + (s : Int)) = (r1S 18446744073709551616 te (c 7) (chS 18446744073709551616 (c 4) (c 5) (c 6)) s : Int) := by unfold r1S; rw [IntKind.wrap_u64]; omega
  have p7 : r1S 18446744073709551616 te (c 7) (chS 18446744073709551616 (c 4) (c 5) (c 6)) s < 18446744073709551616 := Nat.mod_lt _ (by omega)
  have b1 : bits .and .u64 (c 0 : Int) (c 1 : Int) = ((c 0 &&& c 1 : Nat) : Int) := u64_and_nat _ _ hc0 hc1
  have b2 : bits .and .u64 (c 0 : Int) (c 2 : Int) = ((c 0 &&& c 2 : Nat) : Int) := u64_and_nat _ _ hc0 hc2
  have b3 : bits .and .u64 (c 1 : Int) (c 2 : Int) = ((c 1 &&& c 2 : Nat) : Int) := u64_and_nat _ _ hc1 hc2
  have q1 : (c 0 &&& c 1) < 18446744073709551616 := Nat.lt_of_le_of_lt Nat.and_le_left hc0
  have q2 : (c 0 &&& c 2) < 18446744073709551616 := Nat.lt_of_le_of_lt Nat.and_le_left hc0
  have q3 : (c 1 &&& c 2) < 18446744073709551616 := Nat.lt_of_le_of_lt Nat.and_le_left hc1
  have b4 : bits .xor .u64 ((c 0 &&& c 1 : Nat) : Int) ((c 0 &&& c 2 : Nat) : Int) = (((c 0 &&& c 1) ^^^ (c 0 &&& c 2) : Nat) : Int) := u64_xor_nat _ _ q1 q2
  have q4 : ((c 0 &&& c 1) ^^^ (c 0 &&& c 2)) < 18446744073709551616 := Nat.xor_lt_two_pow (n := 64) q1 q2
  have b5 : bits .xor .u64 (((c 0 &&& c 1) ^^^ (c 0 &&& c 2) : Nat) : Int) ((c 1 &&& c 2 : Nat) : Int) = (maS (c 0) (c 1) (c 2) : Int) := u64_xor_nat _ _ q4 q3
  have q5 : maS (c 0) (c 1) (c 2) < 18446744073709551616 := Nat.xor_lt_two_pow (n := 64) q4 q3
  have b6 : IntKind.u64.wrap ((ta : Int) + (maS (c 0) (c 1) (c 2) : Int)) = (r2S 18446744073709551616 ta (maS (c 0) (c 1) (c 2)) : Int) := by unfold r2S; rw [IntKind.wrap_u64]; omega
  have q6 : r2S 18446744073709551616 ta (maS (c 0) (c 1) (c 2)) < 18446744073709551616 := Nat.mod_lt _ (by omega)
  have f1 : IntKind.u64.wrap ((r1S 18446744073709551616 te (c 7) (chS 18446744073709551616 (c 4) (c 5) (c 6)) s : Int) + (r2S 18446744073709551616 ta (maS (c 0) (c 1) (c 2)) : Int)) = (((r1S 18446744073709551616 te (c 7) (chS 18446744073709551616 (c 4) (c 5) (c 6)) s + r2S 18446744073709551616 ta (maS (c 0) (c 1) (c 2))) % 18446744073709551616 : Nat) : Int) := by rw [IntKind.wrap_u64]; omega
  have f2 : IntKind.u64.wrap ((c 3 : Int) + (r1S 18446744073709551616 te (c 7) (chS 18446744073709551616 (c 4) (c 5) (c 6)) s : Int)) = (((c 3 + r1S 18446744073709551616 te (c 7) (chS 18446744073709551616 (c 4) (c 5) (c 6)) s) % 18446744073709551616 : Nat) : Int) := by rw [IntKind.wrap_u64]; omega
  clear p1 p3 p4 p5 p6 p7 q1 q2 q3 q4 q5 q6 hc0 hc1 hc2 hc3 hc4 hc5 hc6 hc7 hte hta hs
  generalize (r1S 18446744073709551616 te (c 7) (chS 18446744073709551616 (c 4) (c 5) (c 6)) s + r2S 18446744073709551616 ta (maS (c 0) (c 1) (c 2))) % 18446744073709551616 = N0 at *
  generalize (c 3 + r1S 18446744073709551616 te (c 7) (chS 18446744073709551616 (c 4) (c 5) (c 6)) s) % 18446744073709551616 = N4 at *
  generalize r1S 18446744073709551616 te (c 7) (chS 18446744073709551616 (c 4) (c 5) (c 6)) s = ONE at *
  generalize r2S 18446744073709551616 ta (maS (c 0) (c 1) (c 2)) = TWO at *
  generalize ((c 7 + te) % 18446744073709551616 + chS 18446744073709551616 (c 4) (c 5) (c 6)) % 18446744073709551616 = T2 at *
  generalize (c 7 + te) % 18446744073709551616 = T1 at *
  generalize chS 18446744073709551616 (c 4) (c 5) (c 6) = CH at *
  generalize maS (c 0) (c 1) (c 2) = MA at *
  generalize (((18446744073709551616 - 1) ^^^ c 4) &&& c 6) = N6 at *
  generalize ((18446744073709551616 - 1) ^^^ c 4) = N5 at *
  generalize ((c 0 &&& c 1) ^^^ (c 0 &&& c 2)) = M3 at *
  generalize (c 0 &&& c 1) = M0 at *
  generalize (c 0 &&& c 2) = M1 at *
  generalize (c 1 &&& c 2) = M2 at *
  generalize (c 4 &&& c 5) = N7 at *
  obtain ⟨b1, b2, b3, b4⟩ := three_blocks w (rowZ .u64 8 (fun j => (c j : Int))) shW (rowZ .u64 8 (fun _ => 0)) 90 96 90
  have W1 := hidD b1
  have W2 := hidD b2
  have W3 := hidD b3
  have W4 := hidD b4
  clear b1 b2 b3 b4 hsz
  go_enter Try.func73, Try.ntmps73
  go_wp2_with fail
  generalize hW : World.alloc (World.alloc (World.alloc w _) _) _ = W
  have R1 : Hid (RowZ W w.heap.size .u64 8 90 (fun j => (c j : Int))) := by rw [← hW]; exact W1.out
  have R2 : Hid (W.heap[w.heap.size + 1]? = some (.cells shW (96 : TypeId) (0, 0))) := by rw [← hW]; exact W2.out
  have R3 : Hid (W.heap[w.heap.size + 2]? = some (.cells (rowZ .u64 8 (fun _ => 0)) (90 : TypeId) (0, 0))) := by rw [← hW]; exact W3.out
  have R4 : Hid (Below w.heap.size w W) := by rw [← hW]; exact W4.out
  clear hW W1 W2 W3 W4 hz
  generalize hg : w.heap.size = g at *
  have HG := hidD hg
  clear hg
  have C0 : Hid (∀ wA, Below W.heap.size W wA → wA.cell? ⟨g, 0, none⟩ = some (.int .u64 (c 0 : Int))) := fun wA h => (R1.out.next h).cell (k := 0) (by omega)
  have C1 : Hid (∀ wA, Below W.heap.size W wA → wA.cell? ⟨g, 1, none⟩ = some (.int .u64 (c 1 : Int))) := fun wA h => (R1.out.next h).cell (k := 1) (by omega)
  have C2 : Hid (∀ wA, Below W.heap.size W wA → wA.cell? ⟨g, 2, none⟩ = some (.int .u64 (c 2 : Int))) := fun wA h => (R1.out.next h).cell (k := 2) (by omega)
  have C3 : Hid (∀ wA, Below W.heap.size W wA → wA.cell? ⟨g, 3, none⟩ = some (.int .u64 (c 3 : Int))) := fun wA h => (R1.out.next h).cell (k := 3) (by omega)
  have C4 : Hid (∀ wA, Below W.heap.size W wA → wA.cell? ⟨g, 4, none⟩ = some (.int .u64 (c 4 : Int))) := fun wA h => (R1.out.next h).cell (k := 4) (by omega)
  have C5 : Hid (∀ wA, Below W.heap.size W wA → wA.cell? ⟨g, 5, none⟩ = some (.int .u64 (c 5 : Int))) := fun wA h => (R1.out.next h).cell (k := 5) (by omega)
  have C6 : Hid (∀ wA, Below W.heap.size W wA → wA.cell? ⟨g, 6, none⟩ = some (.int .u64 (c 6 : Int))) := fun wA h => (R1.out.next h).cell (k := 6) (by omega)
  have C7 : Hid (∀ wA, Below W.heap.size W wA → wA.cell? ⟨g, 7, none⟩ = some (.int .u64 (c 7 : Int))) := fun wA h => (R1.out.next h).cell (k := 7) (by omega)
  have S0 : Hid (∀ wA, Below W.heap.size W wA → wA.cell? ⟨g + 1, 0, none⟩ = some (.int .i64 64)) := fun wA h => by rw [cell_of_row _ _ _ _ _ _ ((h.block _ (row_lt R2.out)).trans R2.out)]; rfl
  have S2 : Hid (∀ wA, Below W.heap.size W wA → wA.cell? ⟨g + 1, 2, none⟩ = some (.int .i64 28)) := fun wA h => by rw [cell_of_row _ _ _ _ _ _ ((h.block _ (row_lt R2.out)).trans R2.out)]; rfl
  have S3 : Hid (∀ wA, Below W.heap.size W wA → wA.cell? ⟨g + 1, 3, none⟩ = some (.int .i64 34)) := fun wA h => by rw [cell_of_row _ _ _ _ _ _ ((h.block _ (row_lt R2.out)).trans R2.out)]; rfl
  have S4 : Hid (∀ wA, Below W.heap.size W wA → wA.cell? ⟨g + 1, 4, none⟩ = some (.int .i64 39)) := fun wA h => by rw [cell_of_row _ _ _ _ _ _ ((h.block _ (row_lt R2.out)).trans R2.out)]; rfl
  have S5 : Hid (∀ wA, Below W.heap.size W wA → wA.cell? ⟨g + 1, 5, none⟩ = some (.int .i64 14)) := fun wA h => by rw [cell_of_row _ _ _ _ _ _ ((h.block _ (row_lt R2.out)).trans R2.out)]; rfl
  have S6 : Hid (∀ wA, Below W.heap.size W wA → wA.cell? ⟨g + 1, 6, none⟩ = some (.int .i64 18)) := fun wA h => by rw [cell_of_row _ _ _ _ _ _ ((h.block _ (row_lt R2.out)).trans R2.out)]; rfl
  have S7 : Hid (∀ wA, Below W.heap.size W wA → wA.cell? ⟨g + 1, 7, none⟩ = some (.int .i64 41)) := fun wA h => by rw [cell_of_row _ _ _ _ _ _ ((h.block _ (row_lt R2.out)).trans R2.out)]; rfl
  have d0 : ∀ i : BW W, i.v.cell? ⟨g, 0, none⟩ = some (.int .u64 (c 0 : Int)) := fun i => C0.out _ (i.below)
  have d1 : ∀ i : BW W, i.v.cell? ⟨g, 1, none⟩ = some (.int .u64 (c 1 : Int)) := fun i => C1.out _ (i.below)
  have d4 : ∀ i : BW W, i.v.cell? ⟨g, 4, none⟩ = some (.int .u64 (c 4 : Int)) := fun i => C4.out _ (i.below)
  have d5 : ∀ i : BW W, i.v.cell? ⟨g, 5, none⟩ = some (.int .u64 (c 5 : Int)) := fun i => C5.out _ (i.below)
  have d6 : ∀ i : BW W, i.v.cell? ⟨g, 6, none⟩ = some (.int .u64 (c 6 : Int)) := fun i => C6.out _ (i.below)
  refine wp_region_below (by kernel_rfl) (by kernel_rfl) ?_
  repeat (go_big_quiet_step (fail))
  refine wpQuiet_nil ?_
  intro i1
  have hb1 : Hid (Below W.heap.size W i1.v) := i1.below
  generalize i1.v = v1 at *
  clear d0 d1 d4 d5 d6
  go_wp2_with fail
  have d7 : ∀ i : BW v1, i.v.cell? ⟨g, 7, none⟩ = some (.int .u64 (c 7 : Int)) := fun i => C7.out _ (Below.next hb1.out i.below)
  have e0 : ∀ i : BW v1, i.v.cell? ⟨g + 1, 0, none⟩ = some (.int .i64 64) := fun i => S0.out _ (Below.next hb1.out i.below)
  have e5 : ∀ i : BW v1, i.v.cell? ⟨g + 1, 5, none⟩ = some (.int .i64 14) := fun i => S5.out _ (Below.next hb1.out i.below)
  have e6 : ∀ i : BW v1, i.v.cell? ⟨g + 1, 6, none⟩ = some (.int .i64 18) := fun i => S6.out _ (Below.next hb1.out i.below)
  have e7 : ∀ i : BW v1, i.v.cell? ⟨g + 1, 7, none⟩ = some (.int .i64 41) := fun i => S7.out _ (Below.next hb1.out i.below)
  refine wp_region_below (by kernel_rfl) (by kernel_rfl) ?_
  repeat (go_big_quiet_step ((go_at_call 83; exact Calls.below_of (HTE.out _))))
  refine wpQuiet_nil ?_
  intro i2
  have hb2 : Hid (Below W.heap.size W i2.v) := Below.next hb1.out i2.below
  generalize i2.v = v2 at *
  clear d7 e0 e5 e6 e7
  go_wp2_with fail
  have d2 : ∀ i : BW v2, i.v.cell? ⟨g, 2, none⟩ = some (.int .u64 (c 2 : Int)) := fun i => C2.out _ (Below.next hb2.out i.below)
  have e0 : ∀ i : BW v2, i.v.cell? ⟨g + 1, 0, none⟩ = some (.int .i64 64) := fun i => S0.out _ (Below.next hb2.out i.below)
  have e2 : ∀ i : BW v2, i.v.cell? ⟨g + 1, 2, none⟩ = some (.int .i64 28) := fun i => S2.out _ (Below.next hb2.out i.below)
  have e3 : ∀ i : BW v2, i.v.cell? ⟨g + 1, 3, none⟩ = some (.int .i64 34) := fun i => S3.out _ (Below.next hb2.out i.below)
  have e4 : ∀ i : BW v2, i.v.cell? ⟨g + 1, 4, none⟩ = some (.int .i64 39) := fun i => S4.out _ (Below.next hb2.out i.below)
  refine wp_region_below (by kernel_rfl) (by kernel_rfl) ?_
  repeat (go_big_quiet_step ((go_at_call 83; exact Calls.below_of (HTA.out _))))
  refine wpQuiet_nil ?_
  intro i3
  have hb3 : Hid (Below W.heap.size W i3.v) := Below.next hb2.out i3.below
  generalize i3.v = v3 at *
  clear d2 e0 e2 e3 e4
  have g2 := C2.out _ hb3.out
  have g3 := C3.out _ hb3.out
  have X3 : Hid (v3.heap[g + 2]? = some (.cells (rowZ .u64 8 (fun _ => 0)) (90 : TypeId) (0, 0))) := (hb3.out.block _ (row_lt R3.out)).trans R3.out
  have hlit : (#[.int .u64 (N0 : Int), .int .u64 (c 0 : Int), .int .u64 (c 1 : Int), .int .u64 (c 2 : Int), .int .u64 (N4 : Int), .int .u64 (c 4 : Int), .int .u64 (c 5 : Int), .int .u64 (c 6 : Int)] : Array Value) = rowZ .u64 8 (fun j => (rdS 18446744073709551616 te ta s c j : Int)) := by
    rw [rowZ_congr .u64 HRJ.out]; rfl
  have HLIT := hidD hlit
  have HONE : Hid ((rowZ .u64 8 (fun j => (rdS 18446744073709551616 te ta s c j : Int))).all (·.oneCell') = true) := rowZ_one _ _ _
  have h4 : (rowZ .u64 8 (fun j => (rdS 18446744073709551616 te ta s c j : Int))).size = 8 := rowZ_size _ _ _
  have h0 : (rowZ .u64 8 (fun _ => 0)).size = 8 := rowZ_size _ _ _
  rw [← hlit] at HONE h4
  clear hlit
  generalize rowZ .u64 8 (fun _ => 0) = C0r at *
  have hi : Hid ((Try.prog.info? 90).map (·.size) = some (#[.int .u64 (N0 : Int), .int .u64 (c 0 : Int), .int .u64 (c 1 : Int), .int .u64 (c 2 : Int), .int .u64 (N4 : Int), .int .u64 (c 4 : Int), .int .u64 (c 5 : Int), .int .u64 (c 6 : Int)] : Array Value).size) := by show _ = _; rw [HSZ.out, h4]
  have HSS : Hid (C0r.size = (#[.int .u64 (N0 : Int), .int .u64 (c 0 : Int), .int .u64 (c 1 : Int), .int .u64 (c 2 : Int), .int .u64 (N4 : Int), .int .u64 (c 4 : Int), .int .u64 (c 5 : Int), .int .u64 (c 6 : Int)] : Array Value).size) := by show _ = _; rw [h0, h4]
  clear h0 h4
  go_wp2_with (refine wpList_store_row rfl 90 _ _ rfl (g + 2) #[.int .u64 (N0 : Int), .int .u64 (c 0 : Int), .int .u64 (c 1 : Int), .int .u64 (c 2 : Int), .int .u64 (N4 : Int), .int .u64 (c 4 : Int), .int .u64 (c 5 : Int), .int .u64 (c 6 : Int)] rfl rfl 90 C0r X3.out hi.out HSS.out HONE.out ?_)
  refine bodyPost_ret (results_cell_row (P := Try.prog) (p := 6) (ty := 90) (by kernel_rfl) _ _ (g + 2) 90 _ (0, 0) _ rfl (setRow_heap _ _ C0r _ 90 (0, 0) X3.out) Try.underlying90 rfl hi.out) rfl ?_
  refine ⟨by rw [HLIT.out], ?_⟩
  have hgW : g ≤ W.heap.size := Nat.le_of_lt R1.out.lt
  have hfin : Below g w (v3.setRow (g + 2) #[.int .u64 (N0 : Int), .int .u64 (c 0 : Int), .int .u64 (c 1 : Int), .int .u64 (c 2 : Int), .int .u64 (N4 : Int), .int .u64 (c 4 : Int), .int .u64 (c 5 : Int), .int .u64 (c 6 : Int)]) := below_setRow (R4.out.trans (hb3.out.mono hgW)) (by omega) _
  rw [HG.out]; exact hfin

theorem Try.zero59z : (Try.prog.info? 88).map (fun i => (i.zero, i.size)) = some (some (.agg (rowZ .u32 8 (fun _ => 0))), 8) := by kernel_rfl
set_option maxRecDepth 100000 in
set_option maxHeartbeats 1600000 in
theorem roundN_any (c : Nat → Nat) (hc : ∀ j, c j < 4294967296) (s : Nat) (hs : s < 4294967296) (w : World) : Calls Try.prog 75 #[.agg (rowZ .u32 8 (fun j => (c j : Int))), .int .u32 (s : Int), .agg shN] w fun e w' => e = .returned (.agg (rowZ .u32 8 (fun j => (rdS 4294967296 (turnsS 32 (c 4) 6 11 25) (turnsS 32 (c 0) 2 13 22) s c j : Int)))) ∧ Below w.heap.size w w' := by
  obtain ⟨hz, hsz⟩ := zero_of_info Try.zero59z
  have HSZ := hidD hsz
  have HTE : Hid (∀ w, Calls Try.prog 86 #[.int .u32 (c 4 : Int), .agg #[.int .i64 6, .int .i64 11, .int .i64 25], .int .i64 32] w fun e w' => e = .returned (.int .u32 (turnsS 32 (c 4) 6 11 25 : Int)) ∧ Below w.heap.size w w') := fun w => turns32_any (c 4) 6 11 25 (hc 4) (by omega) (by omega) (by omega) w
  have HTA : Hid (∀ w, Calls Try.prog 86 #[.int .u32 (c 0 : Int), .agg #[.int .i64 2, .int .i64 13, .int .i64 22], .int .i64 32] w fun e w' => e = .returned (.int .u32 (turnsS 32 (c 0) 2 13 22 : Int)) ∧ Below w.heap.size w w') := fun w => turns32_any (c 0) 2 13 22 (hc 0) (by omega) (by omega) (by omega) w
  have HRJ : Hid (∀ j, j < 8 → (rdS 4294967296 (turnsS 32 (c 4) 6 11 25) (turnsS 32 (c 0) 2 13 22) s c j : Int) = ((if j = 0 then (r1S 4294967296 (turnsS 32 (c 4) 6 11 25) (c 7) (chS 4294967296 (c 4) (c 5) (c 6)) s + r2S 4294967296 (turnsS 32 (c 0) 2 13 22) (maS (c 0) (c 1) (c 2))) % 4294967296 else if j = 4 then (c 3 + r1S 4294967296 (turnsS 32 (c 4) 6 11 25) (c 7) (chS 4294967296 (c 4) (c 5) (c 6)) s) % 4294967296 else c (j - 1) : Nat) : Int)) := fun j hj => rfl
  have hte : turnsS 32 (c 4) 6 11 25 < 4294967296 := turnsS_lt 32 (c 4) _ _ _ (hc 4)
  have hta : turnsS 32 (c 0) 2 13 22 < 4294967296 := turnsS_lt 32 (c 0) _ _ _ (hc 0)
  generalize turnsS 32 (c 4) 6 11 25 = te at *
  generalize turnsS 32 (c 0) 2 13 22 = ta at *
  have hc0 := hc 0
  have hc1 := hc 1
  have hc2 := hc 2
  have hc3 := hc 3
  have hc4 := hc 4
  have hc5 := hc 5
  have hc6 := hc 6
  have hc7 := hc 7
  have a1 : ((c 7 : Int) + (te : Int)) % 4294967296 = (((c 7 + te) % 4294967296 : Nat) : Int) := by omega
  have p1 : (c 7 + te) % 4294967296 < 4294967296 := Nat.mod_lt _ (by omega)
  have a2 : bits .and .u32 (c 4 : Int) (c 5 : Int) = ((c 4 &&& c 5 : Nat) : Int) := u32_and_nat _ _ hc4 hc5
  have a3 : bits .xor .u32 (if IntKind.u32.signed = true then -1 else IntKind.u32.max) (c 4 : Int) = (((4294967296 - 1) ^^^ c 4 : Nat) : Int) := u32_xor_nat (4294967296 - 1) (c 4) (by omega) hc4
  have p3 : ((4294967296 - 1) ^^^ c 4) < 4294967296 := Nat.xor_lt_two_pow (n := 32) (show 4294967296 - 1 < 4294967296 by omega) hc4
  have a4 : bits .and .u32 (((4294967296 - 1) ^^^ c 4 : Nat) : Int) (c 6 : Int) = ((((4294967296 - 1) ^^^ c 4) &&& c 6 : Nat) : Int) := u32_and_nat _ _ p3 hc6
  have p4 : (c 4 &&& c 5) < 4294967296 := Nat.lt_of_le_of_lt Nat.and_le_left hc4
  have p5 : (((4294967296 - 1) ^^^ c 4) &&& c 6) < 4294967296 := Nat.lt_of_le_of_lt Nat.and_le_right hc6
  have a5 : bits .xor .u32 ((c 4 &&& c 5 : Nat) : Int) ((((4294967296 - 1) ^^^ c 4) &&& c 6 : Nat) : Int) = (chS 4294967296 (c 4) (c 5) (c 6) : Int) := u32_xor_nat _ _ p4 p5
  have p6 : chS 4294967296 (c 4) (c 5) (c 6) < 4294967296 := Nat.xor_lt_two_pow (n := 32) p4 p5
  have a6 : ((((c 7 + te) % 4294967296 : Nat) : Int) + (chS 4294967296 (c 4) (c 5) (c 6) : Int)) % 4294967296 = ((((c 7 + te) % 4294967296 + chS 4294967296 (c 4) (c 5) (c 6)) % 4294967296 : Nat) : Int) := by omega
  have a7 : (((((c 7 + te) % 4294967296 + chS 4294967296 (c 4) (c 5) (c 6)) % 4294967296 : Nat) : Int) + (s : Int)) % 4294967296 = (r1S 4294967296 te (c 7) (chS 4294967296 (c 4) (c 5) (c 6)) s : Int) := by unfold r1S; omega
  have p7 : r1S 4294967296 te (c 7) (chS 4294967296 (c 4) (c 5) (c 6)) s < 4294967296 := Nat.mod_lt _ (by omega)
  have b1 : bits .and .u32 (c 0 : Int) (c 1 : Int) = ((c 0 &&& c 1 : Nat) : Int) := u32_and_nat _ _ hc0 hc1
  have b2 : bits .and .u32 (c 0 : Int) (c 2 : Int) = ((c 0 &&& c 2 : Nat) : Int) := u32_and_nat _ _ hc0 hc2
  have b3 : bits .and .u32 (c 1 : Int) (c 2 : Int) = ((c 1 &&& c 2 : Nat) : Int) := u32_and_nat _ _ hc1 hc2
  have q1 : (c 0 &&& c 1) < 4294967296 := Nat.lt_of_le_of_lt Nat.and_le_left hc0
  have q2 : (c 0 &&& c 2) < 4294967296 := Nat.lt_of_le_of_lt Nat.and_le_left hc0
  have q3 : (c 1 &&& c 2) < 4294967296 := Nat.lt_of_le_of_lt Nat.and_le_left hc1
  have b4 : bits .xor .u32 ((c 0 &&& c 1 : Nat) : Int) ((c 0 &&& c 2 : Nat) : Int) = (((c 0 &&& c 1) ^^^ (c 0 &&& c 2) : Nat) : Int) := u32_xor_nat _ _ q1 q2
  have q4 : ((c 0 &&& c 1) ^^^ (c 0 &&& c 2)) < 4294967296 := Nat.xor_lt_two_pow (n := 32) q1 q2
  have b5 : bits .xor .u32 (((c 0 &&& c 1) ^^^ (c 0 &&& c 2) : Nat) : Int) ((c 1 &&& c 2 : Nat) : Int) = (maS (c 0) (c 1) (c 2) : Int) := u32_xor_nat _ _ q4 q3
  have q5 : maS (c 0) (c 1) (c 2) < 4294967296 := Nat.xor_lt_two_pow (n := 32) q4 q3
  have b6 : ((ta : Int) + (maS (c 0) (c 1) (c 2) : Int)) % 4294967296 = (r2S 4294967296 ta (maS (c 0) (c 1) (c 2)) : Int) := by unfold r2S; omega
  have q6 : r2S 4294967296 ta (maS (c 0) (c 1) (c 2)) < 4294967296 := Nat.mod_lt _ (by omega)
  have f1 : ((r1S 4294967296 te (c 7) (chS 4294967296 (c 4) (c 5) (c 6)) s : Int) + (r2S 4294967296 ta (maS (c 0) (c 1) (c 2)) : Int)) % 4294967296 = (((r1S 4294967296 te (c 7) (chS 4294967296 (c 4) (c 5) (c 6)) s + r2S 4294967296 ta (maS (c 0) (c 1) (c 2))) % 4294967296 : Nat) : Int) := by omega
  have f2 : ((c 3 : Int) + (r1S 4294967296 te (c 7) (chS 4294967296 (c 4) (c 5) (c 6)) s : Int)) % 4294967296 = (((c 3 + r1S 4294967296 te (c 7) (chS 4294967296 (c 4) (c 5) (c 6)) s) % 4294967296 : Nat) : Int) := by omega
  clear p1 p3 p4 p5 p6 p7 q1 q2 q3 q4 q5 q6 hc0 hc1 hc2 hc3 hc4 hc5 hc6 hc7 hte hta hs
  generalize (r1S 4294967296 te (c 7) (chS 4294967296 (c 4) (c 5) (c 6)) s + r2S 4294967296 ta (maS (c 0) (c 1) (c 2))) % 4294967296 = N0 at *
  generalize (c 3 + r1S 4294967296 te (c 7) (chS 4294967296 (c 4) (c 5) (c 6)) s) % 4294967296 = N4 at *
  generalize r1S 4294967296 te (c 7) (chS 4294967296 (c 4) (c 5) (c 6)) s = ONE at *
  generalize r2S 4294967296 ta (maS (c 0) (c 1) (c 2)) = TWO at *
  generalize ((c 7 + te) % 4294967296 + chS 4294967296 (c 4) (c 5) (c 6)) % 4294967296 = T2 at *
  generalize (c 7 + te) % 4294967296 = T1 at *
  generalize chS 4294967296 (c 4) (c 5) (c 6) = CH at *
  generalize maS (c 0) (c 1) (c 2) = MA at *
  generalize (((4294967296 - 1) ^^^ c 4) &&& c 6) = N6 at *
  generalize ((4294967296 - 1) ^^^ c 4) = N5 at *
  generalize ((c 0 &&& c 1) ^^^ (c 0 &&& c 2)) = M3 at *
  generalize (c 0 &&& c 1) = M0 at *
  generalize (c 0 &&& c 2) = M1 at *
  generalize (c 1 &&& c 2) = M2 at *
  generalize (c 4 &&& c 5) = N7 at *
  obtain ⟨b1, b2, b3, b4⟩ := three_blocks w (rowZ .u32 8 (fun j => (c j : Int))) shN (rowZ .u32 8 (fun _ => 0)) 88 96 88
  have W1 := hidD b1
  have W2 := hidD b2
  have W3 := hidD b3
  have W4 := hidD b4
  clear b1 b2 b3 b4 hsz
  go_enter Try.func75, Try.ntmps75
  go_wp2_with fail
  generalize hW : World.alloc (World.alloc (World.alloc w _) _) _ = W
  have R1 : Hid (RowZ W w.heap.size .u32 8 88 (fun j => (c j : Int))) := by rw [← hW]; exact W1.out
  have R2 : Hid (W.heap[w.heap.size + 1]? = some (.cells shN (96 : TypeId) (0, 0))) := by rw [← hW]; exact W2.out
  have R3 : Hid (W.heap[w.heap.size + 2]? = some (.cells (rowZ .u32 8 (fun _ => 0)) (88 : TypeId) (0, 0))) := by rw [← hW]; exact W3.out
  have R4 : Hid (Below w.heap.size w W) := by rw [← hW]; exact W4.out
  clear hW W1 W2 W3 W4 hz
  generalize hg : w.heap.size = g at *
  have HG := hidD hg
  clear hg
  have C0 : Hid (∀ wA, Below W.heap.size W wA → wA.cell? ⟨g, 0, none⟩ = some (.int .u32 (c 0 : Int))) := fun wA h => (R1.out.next h).cell (k := 0) (by omega)
  have C1 : Hid (∀ wA, Below W.heap.size W wA → wA.cell? ⟨g, 1, none⟩ = some (.int .u32 (c 1 : Int))) := fun wA h => (R1.out.next h).cell (k := 1) (by omega)
  have C2 : Hid (∀ wA, Below W.heap.size W wA → wA.cell? ⟨g, 2, none⟩ = some (.int .u32 (c 2 : Int))) := fun wA h => (R1.out.next h).cell (k := 2) (by omega)
  have C3 : Hid (∀ wA, Below W.heap.size W wA → wA.cell? ⟨g, 3, none⟩ = some (.int .u32 (c 3 : Int))) := fun wA h => (R1.out.next h).cell (k := 3) (by omega)
  have C4 : Hid (∀ wA, Below W.heap.size W wA → wA.cell? ⟨g, 4, none⟩ = some (.int .u32 (c 4 : Int))) := fun wA h => (R1.out.next h).cell (k := 4) (by omega)
  have C5 : Hid (∀ wA, Below W.heap.size W wA → wA.cell? ⟨g, 5, none⟩ = some (.int .u32 (c 5 : Int))) := fun wA h => (R1.out.next h).cell (k := 5) (by omega)
  have C6 : Hid (∀ wA, Below W.heap.size W wA → wA.cell? ⟨g, 6, none⟩ = some (.int .u32 (c 6 : Int))) := fun wA h => (R1.out.next h).cell (k := 6) (by omega)
  have C7 : Hid (∀ wA, Below W.heap.size W wA → wA.cell? ⟨g, 7, none⟩ = some (.int .u32 (c 7 : Int))) := fun wA h => (R1.out.next h).cell (k := 7) (by omega)
  have S0 : Hid (∀ wA, Below W.heap.size W wA → wA.cell? ⟨g + 1, 0, none⟩ = some (.int .i64 32)) := fun wA h => by rw [cell_of_row _ _ _ _ _ _ ((h.block _ (row_lt R2.out)).trans R2.out)]; rfl
  have S2 : Hid (∀ wA, Below W.heap.size W wA → wA.cell? ⟨g + 1, 2, none⟩ = some (.int .i64 2)) := fun wA h => by rw [cell_of_row _ _ _ _ _ _ ((h.block _ (row_lt R2.out)).trans R2.out)]; rfl
  have S3 : Hid (∀ wA, Below W.heap.size W wA → wA.cell? ⟨g + 1, 3, none⟩ = some (.int .i64 13)) := fun wA h => by rw [cell_of_row _ _ _ _ _ _ ((h.block _ (row_lt R2.out)).trans R2.out)]; rfl
  have S4 : Hid (∀ wA, Below W.heap.size W wA → wA.cell? ⟨g + 1, 4, none⟩ = some (.int .i64 22)) := fun wA h => by rw [cell_of_row _ _ _ _ _ _ ((h.block _ (row_lt R2.out)).trans R2.out)]; rfl
  have S5 : Hid (∀ wA, Below W.heap.size W wA → wA.cell? ⟨g + 1, 5, none⟩ = some (.int .i64 6)) := fun wA h => by rw [cell_of_row _ _ _ _ _ _ ((h.block _ (row_lt R2.out)).trans R2.out)]; rfl
  have S6 : Hid (∀ wA, Below W.heap.size W wA → wA.cell? ⟨g + 1, 6, none⟩ = some (.int .i64 11)) := fun wA h => by rw [cell_of_row _ _ _ _ _ _ ((h.block _ (row_lt R2.out)).trans R2.out)]; rfl
  have S7 : Hid (∀ wA, Below W.heap.size W wA → wA.cell? ⟨g + 1, 7, none⟩ = some (.int .i64 25)) := fun wA h => by rw [cell_of_row _ _ _ _ _ _ ((h.block _ (row_lt R2.out)).trans R2.out)]; rfl
  have d0 : ∀ i : BW W, i.v.cell? ⟨g, 0, none⟩ = some (.int .u32 (c 0 : Int)) := fun i => C0.out _ (i.below)
  have d1 : ∀ i : BW W, i.v.cell? ⟨g, 1, none⟩ = some (.int .u32 (c 1 : Int)) := fun i => C1.out _ (i.below)
  have d4 : ∀ i : BW W, i.v.cell? ⟨g, 4, none⟩ = some (.int .u32 (c 4 : Int)) := fun i => C4.out _ (i.below)
  have d5 : ∀ i : BW W, i.v.cell? ⟨g, 5, none⟩ = some (.int .u32 (c 5 : Int)) := fun i => C5.out _ (i.below)
  have d6 : ∀ i : BW W, i.v.cell? ⟨g, 6, none⟩ = some (.int .u32 (c 6 : Int)) := fun i => C6.out _ (i.below)
  refine wp_region_below (by kernel_rfl) (by kernel_rfl) ?_
  repeat (go_big_quiet_step (fail))
  refine wpQuiet_nil ?_
  intro i1
  have hb1 : Hid (Below W.heap.size W i1.v) := i1.below
  generalize i1.v = v1 at *
  clear d0 d1 d4 d5 d6
  go_wp2_with fail
  have d7 : ∀ i : BW v1, i.v.cell? ⟨g, 7, none⟩ = some (.int .u32 (c 7 : Int)) := fun i => C7.out _ (Below.next hb1.out i.below)
  have e0 : ∀ i : BW v1, i.v.cell? ⟨g + 1, 0, none⟩ = some (.int .i64 32) := fun i => S0.out _ (Below.next hb1.out i.below)
  have e5 : ∀ i : BW v1, i.v.cell? ⟨g + 1, 5, none⟩ = some (.int .i64 6) := fun i => S5.out _ (Below.next hb1.out i.below)
  have e6 : ∀ i : BW v1, i.v.cell? ⟨g + 1, 6, none⟩ = some (.int .i64 11) := fun i => S6.out _ (Below.next hb1.out i.below)
  have e7 : ∀ i : BW v1, i.v.cell? ⟨g + 1, 7, none⟩ = some (.int .i64 25) := fun i => S7.out _ (Below.next hb1.out i.below)
  refine wp_region_below (by kernel_rfl) (by kernel_rfl) ?_
  repeat (go_big_quiet_step ((go_at_call 86; exact Calls.below_of (HTE.out _))))
  refine wpQuiet_nil ?_
  intro i2
  have hb2 : Hid (Below W.heap.size W i2.v) := Below.next hb1.out i2.below
  generalize i2.v = v2 at *
  clear d7 e0 e5 e6 e7
  go_wp2_with fail
  have d2 : ∀ i : BW v2, i.v.cell? ⟨g, 2, none⟩ = some (.int .u32 (c 2 : Int)) := fun i => C2.out _ (Below.next hb2.out i.below)
  have e0 : ∀ i : BW v2, i.v.cell? ⟨g + 1, 0, none⟩ = some (.int .i64 32) := fun i => S0.out _ (Below.next hb2.out i.below)
  have e2 : ∀ i : BW v2, i.v.cell? ⟨g + 1, 2, none⟩ = some (.int .i64 2) := fun i => S2.out _ (Below.next hb2.out i.below)
  have e3 : ∀ i : BW v2, i.v.cell? ⟨g + 1, 3, none⟩ = some (.int .i64 13) := fun i => S3.out _ (Below.next hb2.out i.below)
  have e4 : ∀ i : BW v2, i.v.cell? ⟨g + 1, 4, none⟩ = some (.int .i64 22) := fun i => S4.out _ (Below.next hb2.out i.below)
  refine wp_region_below (by kernel_rfl) (by kernel_rfl) ?_
  repeat (go_big_quiet_step ((go_at_call 86; exact Calls.below_of (HTA.out _))))
  refine wpQuiet_nil ?_
  intro i3
  have hb3 : Hid (Below W.heap.size W i3.v) := Below.next hb2.out i3.below
  generalize i3.v = v3 at *
  clear d2 e0 e2 e3 e4
  have g2 := C2.out _ hb3.out
  have g3 := C3.out _ hb3.out
  have X3 : Hid (v3.heap[g + 2]? = some (.cells (rowZ .u32 8 (fun _ => 0)) (88 : TypeId) (0, 0))) := (hb3.out.block _ (row_lt R3.out)).trans R3.out
  have hlit : (#[.int .u32 (N0 : Int), .int .u32 (c 0 : Int), .int .u32 (c 1 : Int), .int .u32 (c 2 : Int), .int .u32 (N4 : Int), .int .u32 (c 4 : Int), .int .u32 (c 5 : Int), .int .u32 (c 6 : Int)] : Array Value) = rowZ .u32 8 (fun j => (rdS 4294967296 te ta s c j : Int)) := by
    rw [rowZ_congr .u32 HRJ.out]; rfl
  have HLIT := hidD hlit
  have HONE : Hid ((rowZ .u32 8 (fun j => (rdS 4294967296 te ta s c j : Int))).all (·.oneCell') = true) := rowZ_one _ _ _
  have h4 : (rowZ .u32 8 (fun j => (rdS 4294967296 te ta s c j : Int))).size = 8 := rowZ_size _ _ _
  have h0 : (rowZ .u32 8 (fun _ => 0)).size = 8 := rowZ_size _ _ _
  rw [← hlit] at HONE h4
  clear hlit
  generalize rowZ .u32 8 (fun _ => 0) = C0r at *
  have hi : Hid ((Try.prog.info? 88).map (·.size) = some (#[.int .u32 (N0 : Int), .int .u32 (c 0 : Int), .int .u32 (c 1 : Int), .int .u32 (c 2 : Int), .int .u32 (N4 : Int), .int .u32 (c 4 : Int), .int .u32 (c 5 : Int), .int .u32 (c 6 : Int)] : Array Value).size) := by show _ = _; rw [HSZ.out, h4]
  have HSS : Hid (C0r.size = (#[.int .u32 (N0 : Int), .int .u32 (c 0 : Int), .int .u32 (c 1 : Int), .int .u32 (c 2 : Int), .int .u32 (N4 : Int), .int .u32 (c 4 : Int), .int .u32 (c 5 : Int), .int .u32 (c 6 : Int)] : Array Value).size) := by show _ = _; rw [h0, h4]
  clear h0 h4
  go_wp2_with (refine wpList_store_row rfl 88 _ _ rfl (g + 2) #[.int .u32 (N0 : Int), .int .u32 (c 0 : Int), .int .u32 (c 1 : Int), .int .u32 (c 2 : Int), .int .u32 (N4 : Int), .int .u32 (c 4 : Int), .int .u32 (c 5 : Int), .int .u32 (c 6 : Int)] rfl rfl 88 C0r X3.out hi.out HSS.out HONE.out ?_)
  refine bodyPost_ret (results_cell_row (P := Try.prog) (p := 6) (ty := 88) (by kernel_rfl) _ _ (g + 2) 88 _ (0, 0) _ rfl (setRow_heap _ _ C0r _ 88 (0, 0) X3.out) Try.underlying88 rfl hi.out) rfl ?_
  refine ⟨by rw [HLIT.out], ?_⟩
  have hgW : g ≤ W.heap.size := Nat.le_of_lt R1.out.lt
  have hfin : Below g w (v3.setRow (g + 2) #[.int .u32 (N0 : Int), .int .u32 (c 0 : Int), .int .u32 (c 1 : Int), .int .u32 (c 2 : Int), .int .u32 (N4 : Int), .int .u32 (c 4 : Int), .int .u32 (c 5 : Int), .int .u32 (c 6 : Int)]) := below_setRow (R4.out.trans (hb3.out.mono hgW)) (by omega) _
  rw [HG.out]; exact hfin
end Go.Proofs.Ytnldpofljeodiaa
