/- What the chain is behind one block more. -/
import Derived.Test.YtnldpofljeodiaaSha
namespace Go.Proofs.Ytnldpofljeodiaa
open Go.RowKit
set_option linter.unusedVariables false

theorem quiet_load {P : Program} {ops : Array Oper} {C : World → Prop} {Q : Act → Prop} {a : Act} {o : Oper} {rest : List Oper} (hg : o.guard = none) (ty : TypeId) (x : Operand) (ho : o.op = .load ty x) (ad : Addr) (hx : a.eval x = .pointer (some ad)) (v : Value) (h : ∀ w, C w → (Instr.loadAt ty (.pointer (some ad))).run P w = .ok v w) (hK : wpQuiet P ops C Q rest (a.put o.dst v)) : wpQuiet P ops C Q (o :: rest) a := by
  have hw : Region.wanted o (yielded ops a.tmps) = true := by simp [Region.wanted, hg]
  refine wpQuiet_step fun K hk => ?_
  rw [if_pos hw]
  refine ⟨v, fun w hC => ?_, hk _ hK⟩
  unfold Oper.quietAt execOp
  simp only [ho, hx]
  rw [Sem.run_bind, h w hC]
  exact ⟨rfl, rfl⟩
theorem four_blocks (w : World) (A B C D : Array Value) (ta tb tc td : TypeId) : ((((w.alloc (.cells A ta)).alloc (.cells B tb)).alloc (.cells C tc)).alloc (.cells D td)).heap[w.heap.size]? = some (.cells A ta (0, 0)) ∧ ((((w.alloc (.cells A ta)).alloc (.cells B tb)).alloc (.cells C tc)).alloc (.cells D td)).heap[w.heap.size + 1]? = some (.cells B tb (0, 0)) ∧ ((((w.alloc (.cells A ta)).alloc (.cells B tb)).alloc (.cells C tc)).alloc (.cells D td)).heap[w.heap.size + 2]? = some (.cells C tc (0, 0)) ∧ ((((w.alloc (.cells A ta)).alloc (.cells B tb)).alloc (.cells C tc)).alloc (.cells D td)).heap[w.heap.size + 3]? = some (.cells D td (0, 0)) ∧ Below w.heap.size w ((((w.alloc (.cells A ta)).alloc (.cells B tb)).alloc (.cells C tc)).alloc (.cells D td)) := by
  obtain ⟨h1, h2, h3, h4⟩ := three_blocks w A B C ta tb tc
  have sz : (((w.alloc (.cells A ta)).alloc (.cells B tb)).alloc (.cells C tc)).heap.size = w.heap.size + 3 := by simp
  have h5 := heap_alloc_last (((w.alloc (.cells A ta)).alloc (.cells B tb)).alloc (.cells C tc)) (.cells D td)
  rw [sz] at h5
  refine ⟨?_, ?_, ?_, h5, h4.alloc (by rw [sz]; omega) _⟩
  · rw [Below.heap_alloc _ _ _ (by rw [sz]; omega)]; exact h1
  · rw [Below.heap_alloc _ _ _ (by rw [sz]; omega)]; exact h2
  · rw [Below.heap_alloc _ _ _ (by rw [sz]; omega)]; exact h3
theorem loadAt_of {w : World} {g : Nat} {ty : TypeId} {cs : Array Value} (h : (loadVar ty ⟨g, 0, none⟩).run Try.prog w = .ok (.agg cs) w) : (Instr.loadAt ty (.pointer (some ⟨g, 0, none⟩))).run Try.prog w = .ok (.agg cs) w := by
  simp only [Instr.loadAt, Instr.sureAddr, Sem.run_bind, Sem.run_pure, Result.andThen_ok, h]
theorem But.row {g : Nat} {a b : World} (h : But g a b) (C : Array Value) : But g a (b.setRow g C) := ⟨below_setRow h.bel (Nat.le_refl _) C, fun i hi hn => (setRow_other _ _ _ _ hn).trans (h.rest i hi hn)⟩
theorem laid_row (w1 : World) (Z C : Array Value) (ty : TypeId) : ((w1.alloc (.cells Z ty)).setRow w1.heap.size C).heap[w1.heap.size]? = some (.cells C ty (0, 0)) ∧ Below w1.heap.size w1 ((w1.alloc (.cells Z ty)).setRow w1.heap.size C) ∧ w1.heap.size < ((w1.alloc (.cells Z ty)).setRow w1.heap.size C).heap.size :=
  ⟨setRow_heap _ _ Z C ty (0, 0) (heap_alloc_last _ _), below_setRow ((Below.refl _ _).alloc (Nat.le_refl _) _) (Nat.le_refl _) _, by simp⟩
/- the chain behind t rounds, and behind the block -/
def ccT (M : Nat) (fe fa k x : Nat → Nat) (c : Nat → Nat) : Nat → Nat → Nat
  | 0 => c
  | t + 1 => rdS M (fe (ccT M fe fa k x c t 4)) (fa (ccT M fe fa k x c t 0)) ((k t % M + x t) % M) (ccT M fe fa k x c t)
theorem rd_lt (M te ta s : Nat) (hM : 0 < M) (c : Nat → Nat) (hc : ∀ j, c j < M) (j : Nat) : rdS M te ta s c j < M := by
  unfold rdS
  split
  · exact Nat.mod_lt _ hM
  · split
    · exact Nat.mod_lt _ hM
    · exact hc _
theorem cc_lt (M : Nat) (hM : 0 < M) (fe fa k x c : Nat → Nat) (hc : ∀ j, c j < M) : ∀ t j, ccT M fe fa k x c t j < M
  | 0 => hc
  | t + 1 => rd_lt M _ _ _ hM _ (cc_lt M hM fe fa k x c hc t)
def afS (M R : Nat) (fe fa k x c : Nat → Nat) (j : Nat) : Nat := (c j + ccT M fe fa k x c R j) % M

def caW (b : Nat → UInt8) (k c : Nat → Nat) (t j : Nat) : Nat := ccT 18446744073709551616 (fun y => turnsS 64 y 14 18 41) (fun y => turnsS 64 y 28 34 39) k (fun t => (bkW b 80).getD t 0) c t j
def afW (b : Nat → UInt8) (k c : Nat → Nat) (j : Nat) : Nat := (c j + caW b k c 80 j) % 18446744073709551616
theorem Try.size51z : (Try.prog.info? 80).map (·.size) = some 8 := by kernel_rfl
theorem index51 (f : Nat → Int) (i : Nat) (hi : i < 8) (w : World) : (Instr.index 80 (.agg (rowZ .u64 8 f)) (.int .i64 (i : Int))).run Try.prog w = .ok (.int .u64 (f i)) w := by
  rcases (show i = 0 ∨ i = 1 ∨ i = 2 ∨ i = 3 ∨ i = 4 ∨ i = 5 ∨ i = 6 ∨ i = 7 by omega) with rfl | rfl | rfl | rfl | rfl | rfl | rfl | rfl <;> kernel_rfl
set_option maxRecDepth 100000 in
set_option maxHeartbeats 3200000 in
theorem afterW_any (c k : Nat → Nat) (hcl : ∀ j, c j < 18446744073709551616) (hkl : ∀ j, k j < 18446744073709551616) (b : Nat → UInt8) (g0 off len cap : Nat) (hi : 128 ≤ len) (hlc : len ≤ cap) (hcm : cap < 4611686018427387904) (w : World) (hg : g0 < w.heap.size) (hc : ∀ q, q < len → w.cell? ⟨g0, off + q, none⟩ = some (.int .u8 ((b q).toNat : Int))) : Calls Try.prog 62 #[.agg (rowZ .u64 8 (fun j => (c j : Int))), .slice (some ⟨g0, off, none⟩) len cap, .agg (rowZ .u64 80 (fun j => (k j : Int))), .agg shW] w fun e w' => e = .returned (.agg (rowZ .u64 8 (fun j => (afW b k c j : Int)))) ∧ Below w.heap.size w w' := by
  obtain ⟨hz, hsz⟩ := zero_of_info Try.zero61z
  obtain ⟨hy, hsy⟩ := zero_of_info Try.zero50z
  have HSZ := hidD hsz
  have HSY := hidD hsy
  have HBK : Hid (∀ wA, Below w.heap.size w wA → Calls Try.prog 72 #[.slice (some ⟨g0, off, none⟩) len cap, .agg shW] wA fun e w' => e = .returned (.agg (rowZ .u64 80 (fun j => ((bkW b 80).getD j 0 : Int)))) ∧ Below wA.heap.size wA w') := fun wA hA => blockW_any b g0 off len cap hi hlc hcm wA (Nat.lt_of_lt_of_le hg hA.size) (fun q hq => (hA.cell (p := ⟨g0, off + q, none⟩) hg).trans (hc q hq))
  have HBL0 : Hid (∀ j, (bkW b 80).getD j 0 < 18446744073709551616) := fun j => bw_lt 18446744073709551616 (by omega) _ _ _ (fun t => Nat.lt_of_lt_of_le (beTo_lt b (t * 8) 8) (by decide)) 80 j
  have HRN : Hid (∀ (C : Nat → Nat), (∀ j, C j < 18446744073709551616) → ∀ q : Nat, q < 18446744073709551616 → ∀ w, Calls Try.prog 73 #[.agg (rowZ .u64 8 (fun j => (C j : Int))), .int .u64 (q : Int), .agg shW] w fun e w' => e = .returned (.agg (rowZ .u64 8 (fun j => (rdS 18446744073709551616 (turnsS 64 (C 4) 14 18 41) (turnsS 64 (C 0) 28 34 39) q C j : Int)))) ∧ Below w.heap.size w w') := fun C hC q hq w => roundW_any C hC q hq w
  have HCL : Hid (∀ t j, caW b k c t j < 18446744073709551616) := fun t j => cc_lt 18446744073709551616 (by omega) _ _ _ _ c hcl t j
  have HCN : Hid (∀ t, caW b k c (t + 1) = rdS 18446744073709551616 (turnsS 64 (caW b k c t 4) 14 18 41) (turnsS 64 (caW b k c t 0) 28 34 39) ((k t % 18446744073709551616 + (bkW b 80).getD t 0) % 18446744073709551616) (caW b k c t)) := fun t => rfl
  have HI7 : Hid ((Try.prog.info? 96).map (·.size) = some shW.size) := (zero_of_info Try.zero67z).2
  obtain ⟨b1, b2, b3, b5, b4⟩ := four_blocks w (rowZ .u64 8 (fun j => (c j : Int))) (rowZ .u64 80 (fun j => (k j : Int))) shW (rowZ .u64 8 (fun _ => 0)) 90 79 96 90
  have W1 := hidD b1
  have W2 := hidD b2
  have W3 := hidD b3
  have W5 := hidD b5
  have W4 := hidD b4
  clear b1 b2 b3 b4 b5 hsz hsy hc hg hi hlc
  have HO8 : Hid (∀ f : Nat → Int, (rowZ .u64 8 f).all (·.oneCell') = true) := fun f => rowZ_one _ _ _
  have HI8 : Hid (∀ f : Nat → Int, (Try.prog.info? 90).map (·.size) = some (rowZ .u64 8 f).size) := fun f => by rw [HSZ.out, rowZ_size]
  have HS8 : Hid (∀ f f' : Nat → Int, (rowZ .u64 8 f).size = (rowZ .u64 8 f').size) := fun f f' => by rw [rowZ_size, rowZ_size]
  have HO80 : Hid (∀ f : Nat → Int, (rowZ .u64 80 f).all (·.oneCell') = true) := fun f => rowZ_one _ _ _
  have HI80 : Hid (∀ f : Nat → Int, (Try.prog.info? 79).map (·.size) = some (rowZ .u64 80 f).size) := fun f => by rw [HSY.out, rowZ_size]
  have HS80 : Hid (∀ f f' : Nat → Int, (rowZ .u64 80 f).size = (rowZ .u64 80 f').size) := fun f f' => by rw [rowZ_size, rowZ_size]
  generalize hW : (((w.alloc (.cells (rowZ .u64 8 (fun j => (c j : Int))) (90 : TypeId))).alloc (.cells (rowZ .u64 80 (fun j => (k j : Int))) (79 : TypeId))).alloc (.cells shW (96 : TypeId))).alloc (.cells (rowZ .u64 8 (fun _ => 0)) (90 : TypeId)) = W at *
  have HQ1 : Hid (shW[1]? = some (.int .i64 80)) := hidD rfl
  generalize hSH : shW = SH at *
  clear hSH
  generalize hR8 : rowZ .u64 8 = R8 at *
  have HR8 := hidD hR8
  clear hR8
  generalize hR80 : rowZ .u64 80 = R80 at *
  have HR80 := hidD hR80
  clear hR80
  go_enter Try.func62, Try.ntmps62
  go_wp2_with (first
    | (refine wpList_load_row rfl 96 _ rfl (w.heap.size + 2) rfl 96 SH (0, 0) _ W3.out Try.underlying96 rfl HI7.out ?_)
    | (go_at_call 72; refine (HBK.out _ W4.out).mono ?_; rintro e w1 ⟨rfl, hb⟩; have V1 := hidD ((hb.block _ (row_lt W1.out)).trans W1.out); have V2 := hidD ((hb.block _ (row_lt W2.out)).trans W2.out); have V3 := hidD ((hb.block _ (row_lt W3.out)).trans W3.out); have V5 := hidD ((hb.block _ (row_lt W5.out)).trans W5.out); have V4 : Hid (Below w.heap.size w w1) := Below.next W4.out hb; have VA : Hid ((w1.alloc (.cells (R80 fun _ => 0) (79 : TypeId))).heap[w1.heap.size]? = some (.cells (R80 fun _ => 0) (79 : TypeId) (0, 0))) := heap_alloc_last _ _; clear hb W1 W2 W3 W4 W5)
    | (refine wpList_store_row rfl 79 _ _ rfl w1.heap.size (R80 fun j => ((bkW b 80).getD j 0 : Int)) rfl rfl 79 (R80 fun _ => 0) VA.out (HI80.out _) (HS80.out _ _) (HO80.out _) ?_; obtain ⟨lr, hb, hs⟩ := laid_row w1 (R80 fun _ => 0) (R80 fun j => ((bkW b 80).getD j 0 : Int)) 79; have U9 := hidD lr; have U1 := hidD ((hb.block _ (row_lt V1.out)).trans V1.out); have U2 := hidD ((hb.block _ (row_lt V2.out)).trans V2.out); have U3 := hidD ((hb.block _ (row_lt V3.out)).trans V3.out); have U5 := hidD ((hb.block _ (row_lt V5.out)).trans V5.out); have U4 : Hid (Below w.heap.size w _) := Below.next V4.out hb; have VL : Hid (w.heap.size + 3 < w1.heap.size) := row_lt V5.out; clear lr hb hs VA V1 V2 V3 V4 V5; generalize (w1.alloc (.cells (R80 fun _ => 0) (79 : TypeId))).setRow w1.heap.size (R80 fun j => ((bkW b 80).getD j 0 : Int)) = w2 at *; generalize w1.heap.size = g9 at *; have VB : Hid ((w2.alloc (.cells (R8 fun _ => 0) (90 : TypeId))).heap[w2.heap.size]? = some (.cells (R8 fun _ => 0) (90 : TypeId) (0, 0))) := heap_alloc_last _ _)
    | (refine wpList_load_row rfl 90 _ rfl w.heap.size rfl 90 (R8 fun j => (c j : Int)) (0, 0) _ U1.out Try.underlying90 rfl (HI8.out _) ?_)
    | (refine wpList_store_row rfl 90 _ _ rfl w2.heap.size (R8 fun j => (c j : Int)) rfl rfl 90 (R8 fun _ => 0) VB.out (HI8.out _) (HS8.out _ _) (HO8.out _) ?_; obtain ⟨lr, hb, hs⟩ := laid_row w2 (R8 fun _ => 0) (R8 fun j => (c j : Int)) 90; have X10 := hidD lr; have X1 := hidD ((hb.block _ (row_lt U1.out)).trans U1.out); have X2 := hidD ((hb.block _ (row_lt U2.out)).trans U2.out); have X3 := hidD ((hb.block _ (row_lt U3.out)).trans U3.out); have X5 := hidD ((hb.block _ (row_lt U5.out)).trans U5.out); have X9 := hidD ((hb.block _ (row_lt U9.out)).trans U9.out); have X4 : Hid (Below w.heap.size w _) := Below.next U4.out hb; have XL : Hid (g9 < w2.heap.size) := row_lt U9.out; clear lr hb hs VB U1 U2 U3 U4 U5 U9; generalize (w2.alloc (.cells (R8 fun _ => 0) (90 : TypeId))).setRow w2.heap.size (R8 fun j => (c j : Int)) = w3 at *; generalize w2.heap.size = g10 at *; have s1 : w3.cell? ⟨w.heap.size + 2, 1, none⟩ = some (.int .i64 80) := by rw [cell_of_row _ _ _ _ _ _ X3.out]; exact HQ1.out))
  have K2 : Hid (RowZ w3 (w.heap.size + 1) .u64 80 79 (fun j => (k j : Int))) := by first | exact X2.out | (have h := X2.out; rw [← HR80.out] at h; exact h)
  have K9 : Hid (RowZ w3 g9 .u64 80 79 (fun j => ((bkW b 80).getD j 0 : Int))) := by have h := X9.out; rw [← HR80.out] at h; exact h
  clear s1
  have HGG : Hid (w.heap.size + 3 < g9 ∧ g9 < g10) := ⟨VL.out, XL.out⟩
  have HLP : Hid (∀ wA : World, But g10 w3 wA → wA.heap[w.heap.size]? = some (.cells (R8 fun j => (c j : Int)) (90 : TypeId) (0, 0)) ∧ RowZ wA (w.heap.size + 1) .u64 80 79 (fun j => (k j : Int)) ∧ wA.heap[w.heap.size + 2]? = some (.cells SH (96 : TypeId) (0, 0)) ∧ wA.heap[w.heap.size + 3]? = some (.cells (R8 fun _ => 0) (90 : TypeId) (0, 0)) ∧ RowZ wA g9 .u64 80 79 (fun j => ((bkW b 80).getD j 0 : Int)) ∧ Below w.heap.size w wA) := fun wA h => ⟨(h.rest _ (row_lt X1.out) (by have := HGG.out; omega)).trans X1.out, (h.rest _ (row_lt K2.out) (by have := HGG.out; omega)).trans K2.out, (h.rest _ (row_lt X3.out) (by have := HGG.out; omega)).trans X3.out, (h.rest _ (row_lt X5.out) (by have := HGG.out; omega)).trans X5.out, (h.rest _ (row_lt K9.out) (by have := HGG.out; omega)).trans K9.out, X4.out.trans (h.bel.mono (by have := HGG.out; omega))⟩
  have X10' : Hid (w3.heap[g10]? = some (.cells (R8 fun j => (caW b k c 0 j : Int)) (90 : TypeId) (0, 0))) := X10.out
  clear X1 X2 X3 X4 X5 X9 X10 K2 K9 VL XL hz hy
  generalize hg : w.heap.size = g at *
  have HG := hidD hg
  clear hg
  go_loopw [20] (fun tv wr => ∃ t : Nat, t ≤ 80 ∧ tv = .int .i64 (t : Int) ∧ wr.heap[g10]? = some (.cells (R8 fun j => (caW b k c t j : Int)) (90 : TypeId) (0, 0)) ∧ But g10 w3 wr) (fun tv _ => 80 - (intOf tv).toNat)
  case atStart => exact ⟨0, by omega, rfl, X10'.out, But.refl _ _⟩
  case round =>
    clear X10'
    obtain ⟨t, ht, rfl, hrow, hbut⟩ := hrel
    by_cases hlt : t < 80
    · have hlti : (t : Int) < 80 := by omega
      have ht80 : t < 80 := by omega
      obtain ⟨k1, k2, k3, k5, k9, k4⟩ := HLP.out _ hbut
      have q0 : Hid (∀ i : KB wr [g + 1, g + 2, g9, g10], (Instr.loadAt 90 (.pointer (some ⟨g10, 0, none⟩))).run Try.prog i.v = .ok (.agg (R8 fun j => (caW b k c t j : Int))) i.v) := fun i => loadAt_of (run_loadVar_row _ g10 90 90 _ (0, 0) _ ((i.keep g10 (by simp)).trans hrow) Try.underlying90 rfl (HI8.out _))
      have q7 : Hid (∀ i : KB wr [g + 1, g + 2, g9, g10], (Instr.loadAt 96 (.pointer (some ⟨g + 2, 0, none⟩))).run Try.prog i.v = .ok (.agg SH) i.v) := fun i => loadAt_of (run_loadVar_row _ (g + 2) 96 96 _ (0, 0) _ ((i.keep (g + 2) (by simp)).trans k3) Try.underlying96 rfl HI7.out)
      have ck : ∀ i : KB wr [g + 1, g + 2, g9, g10], i.v.cell? ⟨g + 1, t, none⟩ = some (.int .u64 (k t : Int)) := fun i => (i.cell (by simp) _).trans (k2.cell ht80)
      have cx : ∀ i : KB wr [g + 1, g + 2, g9, g10], i.v.cell? ⟨g9, t, none⟩ = some (.int .u64 ((bkW b 80).getD t 0 : Int)) := fun i => (i.cell (by simp) _).trans (k9.cell ht80)
      have y := HBL0.out t
      have yk := hkl t
      have ys : (k t % 18446744073709551616 + (bkW b 80).getD t 0) % 18446744073709551616 < 18446744073709551616 := Nat.mod_lt _ (by omega)
      have HRT := hidD (HRN.out (caW b k c t) (HCL.out t) _ ys)
      have HN : Hid ((R8 fun j => (caW b k c (t + 1) j : Int)) = (R8 fun j => (rdS 18446744073709551616 (turnsS 64 (caW b k c t 4) 14 18 41) (turnsS 64 (caW b k c t 0) 28 34 39) ((k t % 18446744073709551616 + (bkW b 80).getD t 0) % 18446744073709551616) (caW b k c t) j : Int))) := by show _ = _; rw [HCN.out]
      generalize (R8 fun j => (rdS 18446744073709551616 (turnsS 64 (caW b k c t 4) 14 18 41) (turnsS 64 (caW b k c t 0) 28 34 39) ((k t % 18446744073709551616 + (bkW b 80).getD t 0) % 18446744073709551616) (caW b k c t) j : Int)) = NX at *
      have HONX : Hid (NX.all (·.oneCell') = true) := by show _ = _; rw [← HN.out]; exact HO8.out _
      have HINX : Hid ((Try.prog.info? 90).map (·.size) = some NX.size) := by show _ = _; rw [← HN.out]; exact HI8.out _
      have HSNX : Hid ((R8 fun j => (caW b k c t j : Int)).size = NX.size) := by show _ = _; rw [← HN.out]; exact HS8.out _ _
      skip
      have a1 : IntKind.u64.wrap ((k t : Int) + ((bkW b 80).getD t 0 : Int)) = (((k t % 18446744073709551616 + (bkW b 80).getD t 0) % 18446744073709551616 : Nat) : Int) := by rw [IntKind.wrap_u64]; omega
      have HROW := hidD hrow
      have HBUT := hidD hbut
      have HBLW := hidD k4
      have HKK : Hid (∀ w', Below wr.heap.size wr.drew w' → ∃ i : KB wr [g + 1, g + 2, g9, g10], w' = i.v) := fun w' hb => ⟨⟨w', fun x hx => by
        rcases (show x = g + 1 ∨ x = g + 2 ∨ x = g9 ∨ x = g10 by simpa using hx) with h | h | h | h <;> subst h
        · exact hb.block _ k2.lt
        · exact hb.block _ (row_lt k3)
        · exact hb.block _ k9.lt
        · exact hb.block _ (row_lt hrow)⟩, rfl⟩
      clear k1 k2 k3 k4 k5 k9 hrow hbut ys
      generalize (k t % 18446744073709551616 + (bkW b 80).getD t 0) % 18446744073709551616 = QS at *
      generalize (bkW b 80).getD t 0 = XT at *
      skip
      generalize k t = KK at *
      generalize hCT : (R8 fun j => (caW b k c t j : Int)) = CT at *
      clear hCT
      go_wp2_with fail
      refine wp_region_loud [true, true, true, true, true, true, true, true, true, false] [g + 1, g + 2, g9, g10] (by simp) (by kernel_rfl) rfl rfl (by kernel_rfl) (by kernel_rfl) (by kernel_rfl) (by kernel_rfl) (by kernel_rfl) (by kernel_rfl) (fun _ _ _ _ _ h => h) ?_
      simp only [List.dropLast_cons_cons, List.dropLast_singleton, List.getLast_cons_cons, List.getLast_singleton, List.cons_append, List.nil_append, mute, qPick, lPick]
      refine quiet_load rfl 90 _ rfl ⟨g10, 0, none⟩ rfl _ (fun w' hw' => by obtain ⟨i, rfl⟩ := hw'; exact q0.out i) ?_
      simp only [Act.put, List.setIfInBounds_toArray, List.set_cons_succ, List.set_cons_zero]
      iterate 7 (go_big_quiet_step (fail))
      refine quiet_load rfl 96 _ rfl ⟨g + 2, 0, none⟩ rfl _ (fun w' hw' => by obtain ⟨i, rfl⟩ := hw'; exact q7.out i) ?_
      simp only [Act.put, List.setIfInBounds_toArray, List.set_cons_succ, List.set_cons_zero]
      refine wpQuiet_nil ?_
      simp only [LoudW]
      clear ck cx
      have HDR : Hid (Below wr.heap.size wr wr.drew) := (Below.refl _ _).drew
      go_wp2_with (go_at_call 73; refine (HRT.out _).mono ?_; rintro e w5 ⟨rfl, hb⟩; have HB5 : Hid (Below wr.heap.size wr w5) := HDR.out.trans hb; have HB5' : Hid (Below wr.heap.size wr.drew w5) := hb; clear hb)
      refine ⟨HKK.out _ HB5'.out, ?_⟩
      have H10 : Hid (w5.heap[g10]? = some (.cells CT (90 : TypeId) (0, 0))) := (HB5.out.block _ (row_lt HROW.out)).trans HROW.out
      have HZ := hidD (setRow_heap _ _ _ NX _ _ H10.out)
      have HZB : Hid (But g10 w3 (w5.setRow g10 NX)) := (HBUT.out.trans (But.of HB5.out (Nat.le_of_lt (row_lt HROW.out)))).row NX
      go_wp2_with (refine wpList_store_row rfl 90 _ _ rfl g10 NX rfl rfl 90 CT H10.out HINX.out HSNX.out HONX.out ?_)
      generalize w5.setRow g10 NX = w6 at *
      go_roundw
      case rel =>
        first
        | exact ⟨t + 1, by omega, by go_num, by rw [HN.out]; exact HZ.out, HZB.out⟩
        | ((repeat apply Exists.intro); refine And.intro ?_ rfl; exact ⟨t + 1, by omega, by go_num, by rw [HN.out]; exact HZ.out, HZB.out⟩)
      case measure => simp [intOf]; omega
    · obtain rfl : t = 80 := by omega
      obtain ⟨k1, k2, k3, k5, k9, k4⟩ := HLP.out _ hbut
      have HROW := hidD hrow
      have K1 := hidD k1
      have K5 := hidD k5
      have K4 := hidD k4
      have KG : Hid (g < wr.heap.size) := row_lt k1
      have HIA : Hid ((Try.prog.info? 80).map (·.size) = some (R8 fun j => (caW b k c 80 j : Int)).size) := by show _ = _; rw [Try.size51z, ← HR8.out, rowZ_size]
      have HIX : Hid (∀ i : Nat, i < 8 → ∀ w, (Instr.index 80 (.agg (R8 fun j => (caW b k c 80 j : Int))) (.int .i64 (i : Int))).run Try.prog w = .ok (.int .u64 (caW b k c 80 i : Int)) w) := fun i hi w => by rw [← HR8.out]; exact index51 _ i hi w
      clear k1 k2 k3 k4 k5 k9 hrow hbut
      generalize hCF : (R8 fun j => (caW b k c 80 j : Int)) = CF at *
      clear hCF
      obtain ⟨wl, hwl⟩ : ∃ wl : World, wl = wr := ⟨_, rfl⟩
      subst hwl
      go_wp2_with (refine wpList_load_row rfl 80 _ rfl g10 rfl 90 CF (0, 0) _ HROW.out Try.underlying80 rfl HIA.out ?_)
      have K1R : Hid (RowZ wl g .u64 8 90 (fun j => ((if j < 0 then afW b k c j else c j : Nat) : Int))) := by
        have h := K1.out
        rw [← HR8.out] at h
        exact (show RowZ wl g .u64 8 90 (fun j => (c j : Int)) from h).congr fun j _ => by rw [if_neg (by omega)]
      go_loopw [36] (fun iv wr => ∃ i : Nat, i ≤ 8 ∧ iv = .int .i64 (i : Int) ∧ RowZ wr g .u64 8 90 (fun j => ((if j < i then afW b k c j else c j : Nat) : Int)) ∧ But g wl wr) (fun iv _ => 8 - (intOf iv).toNat)
      case atStart => exact ⟨0, by omega, rfl, K1R.out, But.refl _ _⟩
      case round =>
        clear K1R
        obtain ⟨i, hi, rfl, hrow, hbut⟩ := hrel
        by_cases hlt2 : i < 8
        · have hlt2i : (i : Int) < 8 := by omega
          have hix := HIX.out i hlt2
          have hcc : wr.cell? ⟨g, i, none⟩ = some (.int .u64 (c i : Int)) := by rw [hrow.cell hlt2, if_neg (Nat.lt_irrefl _)]
          have hff := hrow.frozen i
          have hca := HCL.out 80 i
          have hci := hcl i
          have hadd : IntKind.u64.wrap ((c i : Int) + (caW b k c 80 i : Int)) = (afW b k c i : Int) := by unfold afW; rw [IntKind.wrap_u64]; omega
          have HST : Hid (RowZ (wr.setCell ⟨g, i, none⟩ (.int .u64 (afW b k c i : Int))) g .u64 8 90 (fun j => ((if j < i + 1 then afW b k c j else c j : Nat) : Int))) := (hrow.set hlt2 _).congr fun j hj => by
            by_cases h : j = i
            · subst h; rw [if_pos rfl, if_pos (by omega)]
            · rw [if_neg h]
              by_cases h2 : j < i
              · rw [if_pos h2, if_pos (by omega)]
              · rw [if_neg h2, if_neg (by omega)]
          have HSB : Hid (But g wl (wr.setCell ⟨g, i, none⟩ (.int .u64 (afW b k c i : Int)))) := hbut.put i _
          clear hrow hbut
          generalize (afW b k c i : Int) = Z at *
          generalize caW b k c 80 i = Y at *
          generalize c i = CI at *
          go_wp2_with fail
          go_roundw
          case rel =>
            first
            | exact ⟨i + 1, by omega, by go_num, HST.out, HSB.out⟩
            | ((repeat apply Exists.intro); refine And.intro ?_ rfl; exact ⟨i + 1, by omega, by go_num, HST.out, HSB.out⟩)
          case measure => simp [intOf]; omega
        · obtain rfl : i = 8 := by omega
          have HL : Hid (wr.heap[g]? = some (.cells (R8 fun j => (afW b k c j : Int)) (90 : TypeId) (0, 0))) := by
            have h : RowZ wr g .u64 8 90 (fun j => (afW b k c j : Int)) := hrow.congr fun j hj => by rw [if_pos hj]
            show _ = _
            rw [← HR8.out]; exact h
          have HO : Hid (wr.heap[g + 3]? = some (.cells (R8 fun _ => 0) (90 : TypeId) (0, 0))) := (hbut.rest _ (row_lt K5.out) (by omega)).trans K5.out
          have HBL : Hid (Below g w wr) := K4.out.trans hbut.bel
          clear hrow hbut
          generalize hC : (R8 fun j => (afW b k c j : Int)) = C at *
          have HCE := hidD hC
          have HOC : Hid (C.all (·.oneCell') = true) := by show _ = _; rw [← hC]; exact HO8.out _
          have HIC : Hid ((Try.prog.info? 90).map (·.size) = some C.size) := by show _ = _; rw [← hC]; exact HI8.out _
          have HSC : Hid ((R8 fun _ => 0).size = C.size) := by show _ = _; rw [← hC]; exact HS8.out _ _
          clear hC
          go_wp2_with (first | (refine wpList_load_row rfl 90 _ rfl g rfl 90 C (0, 0) _ HL.out Try.underlying90 rfl HIC.out ?_) | (refine wpList_store_row rfl 90 _ _ rfl (g + 3) C rfl rfl 90 (R8 fun _ => 0) HO.out HIC.out HSC.out HOC.out ?_))
          refine bodyPost_ret (results_cell_row (P := Try.prog) (p := 8) (ty := 90) (by kernel_rfl) _ _ (g + 3) 90 C (0, 0) _ rfl (setRow_heap _ _ _ C 90 (0, 0) HO.out) Try.underlying90 rfl HIC.out) rfl ?_
          refine ⟨by rw [← HCE.out], ?_⟩
          have hfin : Below g w (wr.setRow (g + 3) C) := below_setRow HBL.out (by omega) _
          rw [HG.out]; exact hfin

def caN (b : Nat → UInt8) (k c : Nat → Nat) (t j : Nat) : Nat := ccT 4294967296 (fun y => turnsS 32 y 6 11 25) (fun y => turnsS 32 y 2 13 22) k (fun t => (bkN b 64).getD t 0) c t j
def afN (b : Nat → UInt8) (k c : Nat → Nat) (j : Nat) : Nat := (c j + caN b k c 64 j) % 4294967296
theorem Try.size57z : (Try.prog.info? 86).map (·.size) = some 8 := by kernel_rfl
theorem index57 (f : Nat → Int) (i : Nat) (hi : i < 8) (w : World) : (Instr.index 86 (.agg (rowZ .u32 8 f)) (.int .i64 (i : Int))).run Try.prog w = .ok (.int .u32 (f i)) w := by
  rcases (show i = 0 ∨ i = 1 ∨ i = 2 ∨ i = 3 ∨ i = 4 ∨ i = 5 ∨ i = 6 ∨ i = 7 by omega) with rfl | rfl | rfl | rfl | rfl | rfl | rfl | rfl <;> kernel_rfl
set_option maxRecDepth 100000 in
set_option maxHeartbeats 3200000 in
theorem afterN_any (c k : Nat → Nat) (hcl : ∀ j, c j < 4294967296) (hkl : ∀ j, k j < 18446744073709551616) (b : Nat → UInt8) (g0 off len cap : Nat) (hi : 64 ≤ len) (hlc : len ≤ cap) (hcm : cap < 4611686018427387904) (w : World) (hg : g0 < w.heap.size) (hc : ∀ q, q < len → w.cell? ⟨g0, off + q, none⟩ = some (.int .u8 ((b q).toNat : Int))) : Calls Try.prog 63 #[.agg (rowZ .u32 8 (fun j => (c j : Int))), .slice (some ⟨g0, off, none⟩) len cap, .agg (rowZ .u64 80 (fun j => (k j : Int))), .agg shN] w fun e w' => e = .returned (.agg (rowZ .u32 8 (fun j => (afN b k c j : Int)))) ∧ Below w.heap.size w w' := by
  obtain ⟨hz, hsz⟩ := zero_of_info Try.zero59z
  obtain ⟨hy, hsy⟩ := zero_of_info Try.zero96z
  have HSZ := hidD hsz
  have HSY := hidD hsy
  have HBK : Hid (∀ wA, Below w.heap.size w wA → Calls Try.prog 74 #[.slice (some ⟨g0, off, none⟩) len cap, .agg shN] wA fun e w' => e = .returned (.agg (rowZ .u32 80 (fun j => ((bkN b 64).getD j 0 : Int)))) ∧ Below wA.heap.size wA w') := fun wA hA => blockN_any b g0 off len cap hi hlc hcm wA (Nat.lt_of_lt_of_le hg hA.size) (fun q hq => (hA.cell (p := ⟨g0, off + q, none⟩) hg).trans (hc q hq))
  have HBL0 : Hid (∀ j, (bkN b 64).getD j 0 < 4294967296) := fun j => bw_lt 4294967296 (by omega) _ _ _ (fun t => Nat.lt_of_lt_of_le (beTo_lt b (t * 4) 4) (by decide)) 64 j
  have HRN : Hid (∀ (C : Nat → Nat), (∀ j, C j < 4294967296) → ∀ q : Nat, q < 4294967296 → ∀ w, Calls Try.prog 75 #[.agg (rowZ .u32 8 (fun j => (C j : Int))), .int .u32 (q : Int), .agg shN] w fun e w' => e = .returned (.agg (rowZ .u32 8 (fun j => (rdS 4294967296 (turnsS 32 (C 4) 6 11 25) (turnsS 32 (C 0) 2 13 22) q C j : Int)))) ∧ Below w.heap.size w w') := fun C hC q hq w => roundN_any C hC q hq w
  have HCL : Hid (∀ t j, caN b k c t j < 4294967296) := fun t j => cc_lt 4294967296 (by omega) _ _ _ _ c hcl t j
  have HCN : Hid (∀ t, caN b k c (t + 1) = rdS 4294967296 (turnsS 32 (caN b k c t 4) 6 11 25) (turnsS 32 (caN b k c t 0) 2 13 22) ((k t % 4294967296 + (bkN b 64).getD t 0) % 4294967296) (caN b k c t)) := fun t => rfl
  have HI7 : Hid ((Try.prog.info? 96).map (·.size) = some shN.size) := (zero_of_info Try.zero67z).2
  obtain ⟨b1, b2, b3, b5, b4⟩ := four_blocks w (rowZ .u32 8 (fun j => (c j : Int))) (rowZ .u64 80 (fun j => (k j : Int))) shN (rowZ .u32 8 (fun _ => 0)) 88 79 96 88
  have W1 := hidD b1
  have W2 := hidD b2
  have W3 := hidD b3
  have W5 := hidD b5
  have W4 := hidD b4
  clear b1 b2 b3 b4 b5 hsz hsy hc hg hi hlc
  have HO8 : Hid (∀ f : Nat → Int, (rowZ .u32 8 f).all (·.oneCell') = true) := fun f => rowZ_one _ _ _
  have HI8 : Hid (∀ f : Nat → Int, (Try.prog.info? 88).map (·.size) = some (rowZ .u32 8 f).size) := fun f => by rw [HSZ.out, rowZ_size]
  have HS8 : Hid (∀ f f' : Nat → Int, (rowZ .u32 8 f).size = (rowZ .u32 8 f').size) := fun f f' => by rw [rowZ_size, rowZ_size]
  have HO80 : Hid (∀ f : Nat → Int, (rowZ .u32 80 f).all (·.oneCell') = true) := fun f => rowZ_one _ _ _
  have HI80 : Hid (∀ f : Nat → Int, (Try.prog.info? 125).map (·.size) = some (rowZ .u32 80 f).size) := fun f => by rw [HSY.out, rowZ_size]
  have HS80 : Hid (∀ f f' : Nat → Int, (rowZ .u32 80 f).size = (rowZ .u32 80 f').size) := fun f f' => by rw [rowZ_size, rowZ_size]
  generalize hW : (((w.alloc (.cells (rowZ .u32 8 (fun j => (c j : Int))) (88 : TypeId))).alloc (.cells (rowZ .u64 80 (fun j => (k j : Int))) (79 : TypeId))).alloc (.cells shN (96 : TypeId))).alloc (.cells (rowZ .u32 8 (fun _ => 0)) (88 : TypeId)) = W at *
  have HQ1 : Hid (shN[1]? = some (.int .i64 64)) := hidD rfl
  generalize hSH : shN = SH at *
  clear hSH
  generalize hR8 : rowZ .u32 8 = R8 at *
  have HR8 := hidD hR8
  clear hR8
  generalize hR80 : rowZ .u32 80 = R80 at *
  have HR80 := hidD hR80
  clear hR80
  go_enter Try.func63, Try.ntmps63
  go_wp2_with (first
    | (refine wpList_load_row rfl 96 _ rfl (w.heap.size + 2) rfl 96 SH (0, 0) _ W3.out Try.underlying96 rfl HI7.out ?_)
    | (go_at_call 74; refine (HBK.out _ W4.out).mono ?_; rintro e w1 ⟨rfl, hb⟩; have V1 := hidD ((hb.block _ (row_lt W1.out)).trans W1.out); have V2 := hidD ((hb.block _ (row_lt W2.out)).trans W2.out); have V3 := hidD ((hb.block _ (row_lt W3.out)).trans W3.out); have V5 := hidD ((hb.block _ (row_lt W5.out)).trans W5.out); have V4 : Hid (Below w.heap.size w w1) := Below.next W4.out hb; have VA : Hid ((w1.alloc (.cells (R80 fun _ => 0) (125 : TypeId))).heap[w1.heap.size]? = some (.cells (R80 fun _ => 0) (125 : TypeId) (0, 0))) := heap_alloc_last _ _; clear hb W1 W2 W3 W4 W5)
    | (refine wpList_store_row rfl 125 _ _ rfl w1.heap.size (R80 fun j => ((bkN b 64).getD j 0 : Int)) rfl rfl 125 (R80 fun _ => 0) VA.out (HI80.out _) (HS80.out _ _) (HO80.out _) ?_; obtain ⟨lr, hb, hs⟩ := laid_row w1 (R80 fun _ => 0) (R80 fun j => ((bkN b 64).getD j 0 : Int)) 125; have U9 := hidD lr; have U1 := hidD ((hb.block _ (row_lt V1.out)).trans V1.out); have U2 := hidD ((hb.block _ (row_lt V2.out)).trans V2.out); have U3 := hidD ((hb.block _ (row_lt V3.out)).trans V3.out); have U5 := hidD ((hb.block _ (row_lt V5.out)).trans V5.out); have U4 : Hid (Below w.heap.size w _) := Below.next V4.out hb; have VL : Hid (w.heap.size + 3 < w1.heap.size) := row_lt V5.out; clear lr hb hs VA V1 V2 V3 V4 V5; generalize (w1.alloc (.cells (R80 fun _ => 0) (125 : TypeId))).setRow w1.heap.size (R80 fun j => ((bkN b 64).getD j 0 : Int)) = w2 at *; generalize w1.heap.size = g9 at *; have VB : Hid ((w2.alloc (.cells (R8 fun _ => 0) (88 : TypeId))).heap[w2.heap.size]? = some (.cells (R8 fun _ => 0) (88 : TypeId) (0, 0))) := heap_alloc_last _ _)
    | (refine wpList_load_row rfl 88 _ rfl w.heap.size rfl 88 (R8 fun j => (c j : Int)) (0, 0) _ U1.out Try.underlying88 rfl (HI8.out _) ?_)
    | (refine wpList_store_row rfl 88 _ _ rfl w2.heap.size (R8 fun j => (c j : Int)) rfl rfl 88 (R8 fun _ => 0) VB.out (HI8.out _) (HS8.out _ _) (HO8.out _) ?_; obtain ⟨lr, hb, hs⟩ := laid_row w2 (R8 fun _ => 0) (R8 fun j => (c j : Int)) 88; have X10 := hidD lr; have X1 := hidD ((hb.block _ (row_lt U1.out)).trans U1.out); have X2 := hidD ((hb.block _ (row_lt U2.out)).trans U2.out); have X3 := hidD ((hb.block _ (row_lt U3.out)).trans U3.out); have X5 := hidD ((hb.block _ (row_lt U5.out)).trans U5.out); have X9 := hidD ((hb.block _ (row_lt U9.out)).trans U9.out); have X4 : Hid (Below w.heap.size w _) := Below.next U4.out hb; have XL : Hid (g9 < w2.heap.size) := row_lt U9.out; clear lr hb hs VB U1 U2 U3 U4 U5 U9; generalize (w2.alloc (.cells (R8 fun _ => 0) (88 : TypeId))).setRow w2.heap.size (R8 fun j => (c j : Int)) = w3 at *; generalize w2.heap.size = g10 at *; have s1 : w3.cell? ⟨w.heap.size + 2, 1, none⟩ = some (.int .i64 64) := by rw [cell_of_row _ _ _ _ _ _ X3.out]; exact HQ1.out))
  have K2 : Hid (RowZ w3 (w.heap.size + 1) .u64 80 79 (fun j => (k j : Int))) := by first | exact X2.out | (have h := X2.out; rw [← HR80.out] at h; exact h)
  have K9 : Hid (RowZ w3 g9 .u32 80 125 (fun j => ((bkN b 64).getD j 0 : Int))) := by have h := X9.out; rw [← HR80.out] at h; exact h
  clear s1
  have HGG : Hid (w.heap.size + 3 < g9 ∧ g9 < g10) := ⟨VL.out, XL.out⟩
  have HLP : Hid (∀ wA : World, But g10 w3 wA → wA.heap[w.heap.size]? = some (.cells (R8 fun j => (c j : Int)) (88 : TypeId) (0, 0)) ∧ RowZ wA (w.heap.size + 1) .u64 80 79 (fun j => (k j : Int)) ∧ wA.heap[w.heap.size + 2]? = some (.cells SH (96 : TypeId) (0, 0)) ∧ wA.heap[w.heap.size + 3]? = some (.cells (R8 fun _ => 0) (88 : TypeId) (0, 0)) ∧ RowZ wA g9 .u32 80 125 (fun j => ((bkN b 64).getD j 0 : Int)) ∧ Below w.heap.size w wA) := fun wA h => ⟨(h.rest _ (row_lt X1.out) (by have := HGG.out; omega)).trans X1.out, (h.rest _ (row_lt K2.out) (by have := HGG.out; omega)).trans K2.out, (h.rest _ (row_lt X3.out) (by have := HGG.out; omega)).trans X3.out, (h.rest _ (row_lt X5.out) (by have := HGG.out; omega)).trans X5.out, (h.rest _ (row_lt K9.out) (by have := HGG.out; omega)).trans K9.out, X4.out.trans (h.bel.mono (by have := HGG.out; omega))⟩
  have X10' : Hid (w3.heap[g10]? = some (.cells (R8 fun j => (caN b k c 0 j : Int)) (88 : TypeId) (0, 0))) := X10.out
  clear X1 X2 X3 X4 X5 X9 X10 K2 K9 VL XL hz hy
  generalize hg : w.heap.size = g at *
  have HG := hidD hg
  clear hg
  go_loopw [20] (fun tv wr => ∃ t : Nat, t ≤ 64 ∧ tv = .int .i64 (t : Int) ∧ wr.heap[g10]? = some (.cells (R8 fun j => (caN b k c t j : Int)) (88 : TypeId) (0, 0)) ∧ But g10 w3 wr) (fun tv _ => 64 - (intOf tv).toNat)
  case atStart => exact ⟨0, by omega, rfl, X10'.out, But.refl _ _⟩
  case round =>
    clear X10'
    obtain ⟨t, ht, rfl, hrow, hbut⟩ := hrel
    by_cases hlt : t < 64
    · have hlti : (t : Int) < 64 := by omega
      have ht80 : t < 80 := by omega
      obtain ⟨k1, k2, k3, k5, k9, k4⟩ := HLP.out _ hbut
      have q0 : Hid (∀ i : KB wr [g + 1, g + 2, g9, g10], (Instr.loadAt 88 (.pointer (some ⟨g10, 0, none⟩))).run Try.prog i.v = .ok (.agg (R8 fun j => (caN b k c t j : Int))) i.v) := fun i => loadAt_of (run_loadVar_row _ g10 88 88 _ (0, 0) _ ((i.keep g10 (by simp)).trans hrow) Try.underlying88 rfl (HI8.out _))
      have q7 : Hid (∀ i : KB wr [g + 1, g + 2, g9, g10], (Instr.loadAt 96 (.pointer (some ⟨g + 2, 0, none⟩))).run Try.prog i.v = .ok (.agg SH) i.v) := fun i => loadAt_of (run_loadVar_row _ (g + 2) 96 96 _ (0, 0) _ ((i.keep (g + 2) (by simp)).trans k3) Try.underlying96 rfl HI7.out)
      have ck : ∀ i : KB wr [g + 1, g + 2, g9, g10], i.v.cell? ⟨g + 1, t, none⟩ = some (.int .u64 (k t : Int)) := fun i => (i.cell (by simp) _).trans (k2.cell ht80)
      have cx : ∀ i : KB wr [g + 1, g + 2, g9, g10], i.v.cell? ⟨g9, t, none⟩ = some (.int .u32 ((bkN b 64).getD t 0 : Int)) := fun i => (i.cell (by simp) _).trans (k9.cell ht80)
      have y := HBL0.out t
      have yk := hkl t
      have ys : (k t % 4294967296 + (bkN b 64).getD t 0) % 4294967296 < 4294967296 := Nat.mod_lt _ (by omega)
      have HRT := hidD (HRN.out (caN b k c t) (HCL.out t) _ ys)
      have HN : Hid ((R8 fun j => (caN b k c (t + 1) j : Int)) = (R8 fun j => (rdS 4294967296 (turnsS 32 (caN b k c t 4) 6 11 25) (turnsS 32 (caN b k c t 0) 2 13 22) ((k t % 4294967296 + (bkN b 64).getD t 0) % 4294967296) (caN b k c t) j : Int))) := by show _ = _; rw [HCN.out]
      generalize (R8 fun j => (rdS 4294967296 (turnsS 32 (caN b k c t 4) 6 11 25) (turnsS 32 (caN b k c t 0) 2 13 22) ((k t % 4294967296 + (bkN b 64).getD t 0) % 4294967296) (caN b k c t) j : Int)) = NX at *
      have HONX : Hid (NX.all (·.oneCell') = true) := by show _ = _; rw [← HN.out]; exact HO8.out _
      have HINX : Hid ((Try.prog.info? 88).map (·.size) = some NX.size) := by show _ = _; rw [← HN.out]; exact HI8.out _
      have HSNX : Hid ((R8 fun j => (caN b k c t j : Int)).size = NX.size) := by show _ = _; rw [← HN.out]; exact HS8.out _ _
      have akm : (k t : Int) % 4294967296 = ((k t % 4294967296 : Nat) : Int) := by omega
      have a1 : ((((k t % 4294967296 : Nat) : Int)) + ((bkN b 64).getD t 0 : Int)) % 4294967296 = (((k t % 4294967296 + (bkN b 64).getD t 0) % 4294967296 : Nat) : Int) := by omega
      have HROW := hidD hrow
      have HBUT := hidD hbut
      have HBLW := hidD k4
      have HKK : Hid (∀ w', Below wr.heap.size wr.drew w' → ∃ i : KB wr [g + 1, g + 2, g9, g10], w' = i.v) := fun w' hb => ⟨⟨w', fun x hx => by
        rcases (show x = g + 1 ∨ x = g + 2 ∨ x = g9 ∨ x = g10 by simpa using hx) with h | h | h | h <;> subst h
        · exact hb.block _ k2.lt
        · exact hb.block _ (row_lt k3)
        · exact hb.block _ k9.lt
        · exact hb.block _ (row_lt hrow)⟩, rfl⟩
      clear k1 k2 k3 k4 k5 k9 hrow hbut ys
      generalize (k t % 4294967296 + (bkN b 64).getD t 0) % 4294967296 = QS at *
      generalize (bkN b 64).getD t 0 = XT at *
      generalize hkt : k t % 4294967296 = KT at *
      generalize k t = KK at *
      generalize hCT : (R8 fun j => (caN b k c t j : Int)) = CT at *
      clear hCT
      go_wp2_with fail
      refine wp_region_loud [true, true, true, true, true, true, true, true, true, true, false] [g + 1, g + 2, g9, g10] (by simp) (by kernel_rfl) rfl rfl (by kernel_rfl) (by kernel_rfl) (by kernel_rfl) (by kernel_rfl) (by kernel_rfl) (by kernel_rfl) (fun _ _ _ _ _ h => h) ?_
      simp only [List.dropLast_cons_cons, List.dropLast_singleton, List.getLast_cons_cons, List.getLast_singleton, List.cons_append, List.nil_append, mute, qPick, lPick]
      refine quiet_load rfl 88 _ rfl ⟨g10, 0, none⟩ rfl _ (fun w' hw' => by obtain ⟨i, rfl⟩ := hw'; exact q0.out i) ?_
      simp only [Act.put, List.setIfInBounds_toArray, List.set_cons_succ, List.set_cons_zero]
      iterate 8 (go_big_quiet_step (fail))
      refine quiet_load rfl 96 _ rfl ⟨g + 2, 0, none⟩ rfl _ (fun w' hw' => by obtain ⟨i, rfl⟩ := hw'; exact q7.out i) ?_
      simp only [Act.put, List.setIfInBounds_toArray, List.set_cons_succ, List.set_cons_zero]
      refine wpQuiet_nil ?_
      simp only [LoudW]
      clear ck cx
      have HDR : Hid (Below wr.heap.size wr wr.drew) := (Below.refl _ _).drew
      go_wp2_with (go_at_call 75; refine (HRT.out _).mono ?_; rintro e w5 ⟨rfl, hb⟩; have HB5 : Hid (Below wr.heap.size wr w5) := HDR.out.trans hb; have HB5' : Hid (Below wr.heap.size wr.drew w5) := hb; clear hb)
      refine ⟨HKK.out _ HB5'.out, ?_⟩
      have H10 : Hid (w5.heap[g10]? = some (.cells CT (88 : TypeId) (0, 0))) := (HB5.out.block _ (row_lt HROW.out)).trans HROW.out
      have HZ := hidD (setRow_heap _ _ _ NX _ _ H10.out)
      have HZB : Hid (But g10 w3 (w5.setRow g10 NX)) := (HBUT.out.trans (But.of HB5.out (Nat.le_of_lt (row_lt HROW.out)))).row NX
      go_wp2_with (refine wpList_store_row rfl 88 _ _ rfl g10 NX rfl rfl 88 CT H10.out HINX.out HSNX.out HONX.out ?_)
      generalize w5.setRow g10 NX = w6 at *
      go_roundw
      case rel =>
        first
        | exact ⟨t + 1, by omega, by go_num, by rw [HN.out]; exact HZ.out, HZB.out⟩
        | ((repeat apply Exists.intro); refine And.intro ?_ rfl; exact ⟨t + 1, by omega, by go_num, by rw [HN.out]; exact HZ.out, HZB.out⟩)
      case measure => simp [intOf]; omega
    · obtain rfl : t = 64 := by omega
      obtain ⟨k1, k2, k3, k5, k9, k4⟩ := HLP.out _ hbut
      have HROW := hidD hrow
      have K1 := hidD k1
      have K5 := hidD k5
      have K4 := hidD k4
      have KG : Hid (g < wr.heap.size) := row_lt k1
      have HIA : Hid ((Try.prog.info? 86).map (·.size) = some (R8 fun j => (caN b k c 64 j : Int)).size) := by show _ = _; rw [Try.size57z, ← HR8.out, rowZ_size]
      have HIX : Hid (∀ i : Nat, i < 8 → ∀ w, (Instr.index 86 (.agg (R8 fun j => (caN b k c 64 j : Int))) (.int .i64 (i : Int))).run Try.prog w = .ok (.int .u32 (caN b k c 64 i : Int)) w) := fun i hi w => by rw [← HR8.out]; exact index57 _ i hi w
      clear k1 k2 k3 k4 k5 k9 hrow hbut
      generalize hCF : (R8 fun j => (caN b k c 64 j : Int)) = CF at *
      clear hCF
      obtain ⟨wl, hwl⟩ : ∃ wl : World, wl = wr := ⟨_, rfl⟩
      subst hwl
      go_wp2_with (refine wpList_load_row rfl 86 _ rfl g10 rfl 88 CF (0, 0) _ HROW.out Try.underlying86 rfl HIA.out ?_)
      have K1R : Hid (RowZ wl g .u32 8 88 (fun j => ((if j < 0 then afN b k c j else c j : Nat) : Int))) := by
        have h := K1.out
        rw [← HR8.out] at h
        exact (show RowZ wl g .u32 8 88 (fun j => (c j : Int)) from h).congr fun j _ => by rw [if_neg (by omega)]
      go_loopw [37] (fun iv wr => ∃ i : Nat, i ≤ 8 ∧ iv = .int .i64 (i : Int) ∧ RowZ wr g .u32 8 88 (fun j => ((if j < i then afN b k c j else c j : Nat) : Int)) ∧ But g wl wr) (fun iv _ => 8 - (intOf iv).toNat)
      case atStart => exact ⟨0, by omega, rfl, K1R.out, But.refl _ _⟩
      case round =>
        clear K1R
        obtain ⟨i, hi, rfl, hrow, hbut⟩ := hrel
        by_cases hlt2 : i < 8
        · have hlt2i : (i : Int) < 8 := by omega
          have hix := HIX.out i hlt2
          have hcc : wr.cell? ⟨g, i, none⟩ = some (.int .u32 (c i : Int)) := by rw [hrow.cell hlt2, if_neg (Nat.lt_irrefl _)]
          have hff := hrow.frozen i
          have hca := HCL.out 64 i
          have hci := hcl i
          have hadd : ((c i : Int) + (caN b k c 64 i : Int)) % 4294967296 = (afN b k c i : Int) := by unfold afN; omega
          have HST : Hid (RowZ (wr.setCell ⟨g, i, none⟩ (.int .u32 (afN b k c i : Int))) g .u32 8 88 (fun j => ((if j < i + 1 then afN b k c j else c j : Nat) : Int))) := (hrow.set hlt2 _).congr fun j hj => by
            by_cases h : j = i
            · subst h; rw [if_pos rfl, if_pos (by omega)]
            · rw [if_neg h]
              by_cases h2 : j < i
              · rw [if_pos h2, if_pos (by omega)]
              · rw [if_neg h2, if_neg (by omega)]
          have HSB : Hid (But g wl (wr.setCell ⟨g, i, none⟩ (.int .u32 (afN b k c i : Int)))) := hbut.put i _
          clear hrow hbut
          generalize (afN b k c i : Int) = Z at *
          generalize caN b k c 64 i = Y at *
          generalize c i = CI at *
          go_wp2_with fail
          go_roundw
          case rel =>
            first
            | exact ⟨i + 1, by omega, by go_num, HST.out, HSB.out⟩
            | ((repeat apply Exists.intro); refine And.intro ?_ rfl; exact ⟨i + 1, by omega, by go_num, HST.out, HSB.out⟩)
          case measure => simp [intOf]; omega
        · obtain rfl : i = 8 := by omega
          have HL : Hid (wr.heap[g]? = some (.cells (R8 fun j => (afN b k c j : Int)) (88 : TypeId) (0, 0))) := by
            have h : RowZ wr g .u32 8 88 (fun j => (afN b k c j : Int)) := hrow.congr fun j hj => by rw [if_pos hj]
            show _ = _
            rw [← HR8.out]; exact h
          have HO : Hid (wr.heap[g + 3]? = some (.cells (R8 fun _ => 0) (88 : TypeId) (0, 0))) := (hbut.rest _ (row_lt K5.out) (by omega)).trans K5.out
          have HBL : Hid (Below g w wr) := K4.out.trans hbut.bel
          clear hrow hbut
          generalize hC : (R8 fun j => (afN b k c j : Int)) = C at *
          have HCE := hidD hC
          have HOC : Hid (C.all (·.oneCell') = true) := by show _ = _; rw [← hC]; exact HO8.out _
          have HIC : Hid ((Try.prog.info? 88).map (·.size) = some C.size) := by show _ = _; rw [← hC]; exact HI8.out _
          have HSC : Hid ((R8 fun _ => 0).size = C.size) := by show _ = _; rw [← hC]; exact HS8.out _ _
          clear hC
          go_wp2_with (first | (refine wpList_load_row rfl 88 _ rfl g rfl 88 C (0, 0) _ HL.out Try.underlying88 rfl HIC.out ?_) | (refine wpList_store_row rfl 88 _ _ rfl (g + 3) C rfl rfl 88 (R8 fun _ => 0) HO.out HIC.out HSC.out HOC.out ?_))
          refine bodyPost_ret (results_cell_row (P := Try.prog) (p := 8) (ty := 88) (by kernel_rfl) _ _ (g + 3) 88 C (0, 0) _ rfl (setRow_heap _ _ _ C 88 (0, 0) HO.out) Try.underlying88 rfl HIC.out) rfl ?_
          refine ⟨by rw [← HCE.out], ?_⟩
          have hfin : Below g w (wr.setRow (g + 3) C) := below_setRow HBL.out (by omega) _
          rw [HG.out]; exact hfin
end Go.Proofs.Ytnldpofljeodiaa
