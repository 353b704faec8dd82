/- Texts of one proof, one behind the other. -/
import Derived.Test.YtnldpofljeodiaaSt5
import Derived.Deep.Cut
/- A state that is built. -/
namespace Go.Proofs.Ytnldpofljeodiaa
open Go.RowKit
set_option linter.unusedVariables false

def bV (k n : Int) (f : Nat → Int) (i : Nat) : Value :=
  if i = 0 then .int .i64 k else if i = 1 then .int .u64 n else if i < 130 then .int .u8 0 else if i < 210 then .int .u64 (f (i - 130)) else if i < 218 then .int .u32 0 else .int .u64 0
set_option maxRecDepth 100000 in
theorem build63 (k : Int) (f : Nat → Int) (w : World) : (Instr.build 92 #[(0, .int .i64 k), (3, .agg (rowZ .u64 80 f))]).run Try.prog w = .ok (.agg ((List.range 226).map (bV k 0 f)).toArray) w := by kernel_rfl
set_option maxRecDepth 100000 in
theorem build63n (k n : Int) (f : Nat → Int) (w : World) : (Instr.build 92 #[(0, .int .i64 k), (1, .int .u64 n), (3, .agg (rowZ .u64 80 f))]).run Try.prog w = .ok (.agg ((List.range 226).map (bV k n f)).toArray) w := by kernel_rfl
set_option maxRecDepth 100000 in
theorem field53 (f : Nat → Int) (w : World) : (Instr.field 82 (.agg (rowZ .u64 88 f)) 0).run Try.prog w = .ok (.agg (rowZ .u64 80 f)) w := by kernel_rfl
theorem bV_st (k n : Nat) (i : Nat) (hi : i < 226) : bV (k : Int) (n : Int) (fun j => (coS k j : Int)) i = stV k n (fun _ => 0) (fun _ => 0) i := by
  unfold bV stV
  simp
theorem bV_row (k n : Nat) : ((List.range 226).map (bV (k : Int) (n : Int) (fun j => (coS k j : Int)))) = (List.range 226).map (stV k n (fun _ => 0) (fun _ => 0)) := List.map_congr_left fun i hi => bV_st k n i (List.mem_range.1 hi)
end Go.Proofs.Ytnldpofljeodiaa
/- What Begin and Sum of sha answer. -/
namespace Go.Proofs.Ytnldpofljeodiaa
open Go.RowKit
set_option linter.unusedVariables false

theorem at_world {P : Program} {c : Code} {Q : Exit → Act → World → Prop} {a : Act} {w w' : World} (h : w' = w) (hk : Code.wp P c Q a w') : Code.wp P c Q a w := h ▸ hk
theorem wpList_build2 {P : Program} {ops : Array Oper} {rest : List Oper} {op : Oper} {a : Act} {w : World} {Q : Exit → Act → World → Prop} (hgd : op.guard = none) (ty : TypeId) (i0 i1 : Nat) (x0 x1 : Operand) (ho : op.op = .build ty #[(i0, x0), (i1, x1)]) (v0 v1 v : Value) (h0 : a.eval x0 = v0) (h1 : a.eval x1 = v1) (h : (Instr.build ty #[(i0, v0), (i1, v1)]).run P w = .ok v w) (hk : wpList P ops Q rest (a.put op.dst v) w) : wpList P ops Q (op :: rest) a w :=
  wpList_plain hgd fun _ hK => by
    unfold Oper.wp execOp
    simp only [ho, List.map_toArray, List.map_cons, List.map_nil, h0, h1, Sem.run_bind, h, Result.andThen_ok]
    exact hK _ _ hk
theorem wpList_build3 {P : Program} {ops : Array Oper} {rest : List Oper} {op : Oper} {a : Act} {w : World} {Q : Exit → Act → World → Prop} (hgd : op.guard = none) (ty : TypeId) (i0 i1 i2 : Nat) (x0 x1 x2 : Operand) (ho : op.op = .build ty #[(i0, x0), (i1, x1), (i2, x2)]) (v0 v1 v2 v : Value) (h0 : a.eval x0 = v0) (h1 : a.eval x1 = v1) (h2 : a.eval x2 = v2) (h : (Instr.build ty #[(i0, v0), (i1, v1), (i2, v2)]).run P w = .ok v w) (hk : wpList P ops Q rest (a.put op.dst v) w) : wpList P ops Q (op :: rest) a w :=
  wpList_plain hgd fun _ hK => by
    unfold Oper.wp execOp
    simp only [ho, List.map_toArray, List.map_cons, List.map_nil, h0, h1, h2, Sem.run_bind, h, Result.andThen_ok]
    exact hK _ _ hk
theorem hS_lt (k : Nat) (hk : Kind k) (j : Nat) : hS k j < mdK k := by
  have hd := dr_lt (wdN k) (rdN k)
  unfold hS coS ofS
  rw [if_neg (by omega), show 80 + j - 80 = j by omega]
  rcases hk with rfl | rfl | rfl | rfl
  · exact Nat.mod_lt _ (by decide)
  · show drS (wdN 256) (rdN 256) (80 + j) / 4294967296 < 4294967296
    have := hd (80 + j)
    omega
  · exact hd _
  · exact hd _
set_option maxRecDepth 100000 in
set_option maxHeartbeats 1600000 in
theorem begin_any (k : Nat) (hk : Kind k) (w : World) : Calls Try.prog 30 #[.int .i64 (k : Int)] w fun e w' => ∃ g, e = .returned (.tuple #[.pointer (some ⟨g, 0, none⟩), .int .i64 0]) ∧ w.heap.size ≤ g ∧ StAt w' g k (newP k) ∧ Below w.heap.size w w' := by
  have HSZ : Hid (∀ w, Calls Try.prog 36 #[.int .i64 (k : Int)] w fun e w' => e = .returned (.tuple #[.int .i64 ((k / 8 : Nat) : Int), .int .i64 (blkN k : Int), .int .i64 0]) ∧ w' = w) := fun w => size_any k hk w
  have HCO : Hid (∀ w, Calls Try.prog 45 #[.int .i64 (k : Int)] w fun e w' => e = .returned (.agg (rowZ .u64 88 (fun j => (coS k j : Int)))) ∧ Below w.heap.size w w') := fun w => constants_any k hk w
  have HLY : Hid (∀ g w, StAt w g k ⟨0, fun _ => 0, fun _ => 0⟩ → Calls Try.prog 48 #[.pointer (some ⟨g, 0, none⟩), .agg (rowZ .u64 8 (fun j => (coS k (80 + j) : Int)))] w fun e w' => e = .returned (.tuple #[]) ∧ StAt w' g k (newP k) ∧ But g w w') := fun g w h => lay_any k hk g ⟨0, fun _ => 0, fun _ => 0⟩ (hS k) (hS_lt k hk) w h
  have HBD : Hid (∀ w : World, (Instr.build 92 #[(0, .int .i64 (k : Int)), (3, .agg (rowZ .u64 80 (fun j => (coS k j : Int))))]).run Try.prog w = .ok (.agg ((List.range 226).map (stV k 0 (fun _ => 0) (fun _ => 0))).toArray) w) := fun w => by rw [← bV_row k 0]; exact build63 (k : Int) (fun j => (coS k j : Int)) w
  have HST : Hid (∀ (W : World), StAt (W.alloc (.cells ((List.range 226).map (stV k 0 (fun _ => 0) (fun _ => 0))).toArray (92 : TypeId))) W.heap.size k ⟨0, fun _ => 0, fun _ => 0⟩) := fun W => heap_alloc_last _ _
  have HL0 : Hid (∀ (W : World) (g : Nat), RowZ W g .u64 88 82 (fun j => (coS k j : Int)) → W.rangeAt g 0 (lZ .u64 80 (fun j => (coS k j : Int))) ∧ W.rangeAt g 80 (lZ .u64 8 (fun j => (coS k (80 + j) : Int)))) := fun W g h => ⟨lZ_range fun j hj => by rw [Nat.zero_add]; exact h.cell (by omega), lZ_range fun j hj => h.cell (by omega)⟩
  have HLA : Hid ((Try.prog.info? 79).map (·.size) = some (lZ .u64 80 (fun j => (coS k j : Int))).length) := by show _ = _; rw [Try.size50s, lZ_len]
  have HLB : Hid ((Try.prog.info? 80).map (·.size) = some (lZ .u64 8 (fun j => (coS k (80 + j) : Int))).length) := by show _ = _; rw [Try.size51s, lZ_len]
  obtain ⟨hz, hsz⟩ := zero_of_info Try.zero53z
  have HI : Hid ((Try.prog.info? 82).map (·.size) = some (rowZ .u64 88 (fun j => (coS k j : Int))).size) := by show _ = _; rw [hsz, rowZ_size]
  have HZ : Hid ((rowZ .u64 88 (fun _ => 0)).size = (rowZ .u64 88 (fun j => (coS k j : Int))).size) := by show _ = _; rw [rowZ_size, rowZ_size]
  have HO : Hid ((rowZ .u64 88 (fun j => (coS k j : Int))).all (·.oneCell') = true) := rowZ_one _ _ _
  have HRN : Hid (∀ (W : World), RowZ ((W.alloc (.cells (rowZ .u64 88 (fun _ => 0)) (82 : TypeId))).setRow W.heap.size (rowZ .u64 88 (fun j => (coS k j : Int)))) W.heap.size .u64 88 82 (fun j => (coS k j : Int))) := fun W => setRow_heap _ _ _ _ _ _ (heap_alloc_last _ _)
  generalize blkN k = BK at *
  generalize k / 8 = K8 at *
  clear hsz
  go_enter Try.func30, Try.ntmps30
  go_wp2_with (go_at_call 36; refine (HSZ.out _).mono ?_; rintro e wx ⟨rfl, hx⟩)
  go_at_call 45
  refine (HCO.out _).mono ?_
  rintro e w1 ⟨rfl, hb1⟩
  go_upto_region 5 with (refine wpList_store_row rfl 82 _ _ rfl w1.heap.size (rowZ .u64 88 (fun j => (coS k j : Int))) rfl rfl 82 (rowZ .u64 88 (fun _ => 0)) (heap_alloc_last _ _) HI.out HZ.out HO.out ?_)
  obtain ⟨W2, hW2⟩ : ∃ W2 : World, W2 = (w1.alloc (.cells (rowZ .u64 88 (fun _ => 0)) (82 : TypeId))).setRow w1.heap.size (rowZ .u64 88 (fun j => (coS k j : Int))) := ⟨_, rfl⟩
  refine at_world hW2 ?_
  have R2 : Hid (RowZ W2 w1.heap.size .u64 88 82 (fun j => (coS k j : Int))) := by show RowZ _ _ _ _ _ _; rw [hW2]; exact HRN.out w1
  have B2 : Hid (Below w.heap.size w W2) := by show Below _ _ _; rw [hW2]; exact Below.next hb1 (below_setRow ((Below.refl _ _).alloc (Nat.le_refl _) _) (Nat.le_refl _) _)
  clear hW2 hb1 HRN HSZ HCO
  generalize hg : w1.heap.size = g at *
  clear hg
  go_upto_region 6 with (first | (refine wpList_load_mid rfl 79 _ rfl g 0 rfl (lZ .u64 80 (fun j => (coS k j : Int))) _ (HL0.out _ _ R2.out).1 Try.underlying79 rfl HLA.out ?_) | (refine wpList_build2 rfl 92 0 3 _ _ rfl (.int .i64 (k : Int)) (.agg (rowZ .u64 80 (fun j => (coS k j : Int)))) _ rfl rfl (HBD.out _) ?_))
  obtain ⟨W3, hW3⟩ : ∃ W3 : World, W3 = W2.alloc (.cells ((List.range 226).map (stV k 0 (fun _ => 0) (fun _ => 0))).toArray (92 : TypeId)) := ⟨_, rfl⟩
  refine at_world hW3 ?_
  have S3 : Hid (StAt W3 W2.heap.size k ⟨0, fun _ => 0, fun _ => 0⟩) := by show StAt _ _ _ _; rw [hW3]; exact HST.out W2
  have hb3 : Below W2.heap.size W2 W3 := by rw [hW3]; exact (Below.refl _ _).alloc (Nat.le_refl _) _
  have R3 := hidD (R2.out.next hb3)
  have B3 := hidD (Below.next B2.out hb3)
  have G3 : Hid (w.heap.size ≤ W2.heap.size) := B2.out.size
  clear hW3 hb3 R2 B2
  generalize hg2 : W2.heap.size = g2 at *
  clear hg2
  go_wp2_with (refine wpList_load_mid rfl 80 _ rfl g 80 rfl (lZ .u64 8 (fun j => (coS k (80 + j) : Int))) _ (HL0.out _ _ R3.out).2 Try.underlying80 rfl HLB.out ?_)
  go_at_call 48
  refine (HLY.out g2 _ S3.out).mono ?_
  rintro e w4 ⟨rfl, hs4, hb4⟩
  have HF : Hid (w.heap.size ≤ g2 ∧ StAt w4 g2 k (newP k) ∧ Below w.heap.size w w4) := ⟨G3.out, hs4, B3.out.trans (hb4.bel.mono G3.out)⟩
  clear hs4 hb4
  go_wp2_with fail
  go_ret2
  exact ⟨g2, rfl, HF.out⟩
set_option maxRecDepth 100000 in
theorem begin_no (x : Int) (h : x ≠ 224 ∧ x ≠ 256 ∧ x ≠ 384 ∧ x ≠ 512) (w : World) : Calls Try.prog 30 #[.int .i64 x] w fun e w' => e = .returned (.tuple #[.pointer none, .int .i64 1]) ∧ w' = w := by
  have HSZ : Hid (∀ w, Calls Try.prog 36 #[.int .i64 x] w fun e w' => e = .returned (.tuple #[.int .i64 0, .int .i64 0, .int .i64 1]) ∧ w' = w) := fun w => size_no x h w
  clear h
  go_enter Try.func30, Try.ntmps30
  go_wp2_with (go_at_call 36; refine (HSZ.out _).mono ?_; rintro e wx ⟨rfl, hx⟩)
  go_ret2
  exact ⟨rfl, by first | rfl | assumption⟩
end Go.Proofs.Ytnldpofljeodiaa
