/- What blockWordsOf answers. -/
import Derived.Test.YtnldpofljeodiaaSh9
namespace Go.Proofs.Ytnldpofljeodiaa
open Go.RowKit
set_option linter.unusedVariables false

/- the words of a block: 16 of its own, then each out of four ahead of it -/
def bwN (M : Nat) (be s0 s1 : Nat → Nat) (l : List Nat) (t : Nat) : Nat := if t < 16 then be t else (((s1 (l.getD (t - 2) 0) + l.getD (t - 7) 0) % M + s0 (l.getD (t - 15) 0)) % M + l.getD (t - 16) 0) % M
def bwL (M : Nat) (be s0 s1 : Nat → Nat) : Nat → List Nat
  | 0 => []
  | t + 1 => bwL M be s0 s1 t ++ [bwN M be s0 s1 (bwL M be s0 s1 t) t]
theorem bw_len (M : Nat) (be s0 s1 : Nat → Nat) : ∀ t, (bwL M be s0 s1 t).length = t
  | 0 => rfl
  | t + 1 => by unfold bwL; rw [List.length_append, bw_len M be s0 s1 t]; rfl
theorem bw_next (M : Nat) (be s0 s1 : Nat → Nat) (t j : Nat) : (bwL M be s0 s1 (t + 1)).getD j 0 = if j = t then bwN M be s0 s1 (bwL M be s0 s1 t) t else (bwL M be s0 s1 t).getD j 0 := by
  have hl := bw_len M be s0 s1 t
  conv => lhs; unfold bwL
  rw [List.getD_eq_getElem?_getD, List.getD_eq_getElem?_getD, List.getElem?_append, hl]
  by_cases h : j = t
  · subst h; rw [if_neg (Nat.lt_irrefl _), if_pos rfl, Nat.sub_self]; rfl
  · rw [if_neg h]
    by_cases h2 : j < t
    · rw [if_pos h2]
    · rw [if_neg h2, List.getElem?_eq_none (l := [_]) (by simp; omega), List.getElem?_eq_none (by omega)]
theorem bw_lt (M : Nat) (hM : 0 < M) (be s0 s1 : Nat → Nat) (hb : ∀ t, be t < M) (t j : Nat) : (bwL M be s0 s1 t).getD j 0 < M := by
  induction t with
  | zero => exact hM
  | succ t ih =>
    rw [bw_next]
    split
    · unfold bwN; split
      · exact hb _
      · exact Nat.mod_lt _ hM
    · exact ih

def bkW (b : Nat → UInt8) (t : Nat) : List Nat := bwL 18446744073709551616 (fun t => beTo b (t * 8) 8) (fun x => shiftsS 64 x 1 8 7) (fun x => shiftsS 64 x 19 61 6) t
theorem Try.zero50z : (Try.prog.info? 79).map (fun i => (i.zero, i.size)) = some (some (.agg (rowZ .u64 80 (fun _ => 0))), 80) := by kernel_rfl
set_option maxRecDepth 100000 in
set_option maxHeartbeats 3200000 in
theorem blockW_any (b : Nat → UInt8) (g0 off len cap : Nat) (hi : 128 ≤ len) (hlc : len ≤ cap) (hcm : cap < 4611686018427387904) (w : World) (hg : g0 < w.heap.size) (hc : ∀ k, k < len → w.cell? ⟨g0, off + k, none⟩ = some (.int .u8 ((b k).toNat : Int))) : Calls Try.prog 72 #[.slice (some ⟨g0, off, none⟩) len cap, .agg shW] w fun e w' => e = .returned (.agg (rowZ .u64 80 (fun j => ((bkW b 80).getD j 0 : Int)))) ∧ Below w.heap.size w w' := by
  obtain ⟨hz, hsz⟩ := zero_of_info Try.zero50z
  have HSZ := hidD hsz
  have HWD : Hid (∀ i : Nat, i < 16 → ∀ wA, Below w.heap.size w wA → Calls Try.prog 46 #[.slice (some ⟨g0, off, none⟩) len cap, .int .i64 (i : Int), .agg shW] wA fun e w' => e = .returned (.int .u64 (beTo b (i * 8) 8 : Int)) ∧ Below wA.heap.size wA w') := fun i hi' wA hA => wordW_any b g0 off len cap i (by omega) hlc hcm wA (Nat.lt_of_lt_of_le hg hA.size) (fun k hk => (hA.cell (p := ⟨g0, off + k, none⟩) hg).trans (hc k hk))
  have HS2 : Hid (∀ x : Nat, x < 18446744073709551616 → ∀ w, Calls Try.prog 82 #[.int .u64 (x : Int), .agg #[.int .i64 19, .int .i64 61, .int .i64 6], .int .i64 64] w fun e w' => e = .returned (.int .u64 (shiftsS 64 x 19 61 6 : Int)) ∧ Below w.heap.size w w') := fun x hx w => shifts64_any x 19 61 6 hx (by omega) (by omega) (by omega) w
  have HS15 : Hid (∀ x : Nat, x < 18446744073709551616 → ∀ w, Calls Try.prog 82 #[.int .u64 (x : Int), .agg #[.int .i64 1, .int .i64 8, .int .i64 7], .int .i64 64] w fun e w' => e = .returned (.int .u64 (shiftsS 64 x 1 8 7 : Int)) ∧ Below w.heap.size w w') := fun x hx w => shifts64_any x 1 8 7 hx (by omega) (by omega) (by omega) w
  have HBL0 : Hid (∀ t j, (bkW b t).getD j 0 < 18446744073709551616) := fun t j => bw_lt 18446744073709551616 (by omega) _ _ _ (fun t => Nat.lt_of_lt_of_le (beTo_lt b (t * 8) 8) (by decide)) t j
  have HNX : Hid (∀ t j, (bkW b (t + 1)).getD j 0 = if j = t then bwN 18446744073709551616 (fun t => beTo b (t * 8) 8) (fun x => shiftsS 64 x 1 8 7) (fun x => shiftsS 64 x 19 61 6) (bkW b t) t else (bkW b t).getD j 0) := fun t j => bw_next _ _ _ _ t j
  have HI7 : Hid ((Try.prog.info? 96).map (·.size) = some shW.size) := (zero_of_info Try.zero67z).2
  obtain ⟨b1, b2, b3, b4⟩ := three_blocks w shW (rowZ .u64 80 (fun _ => 0)) (rowZ .u64 80 (fun _ => 0)) 96 79 79
  have W1 := hidD b1
  have W2 := hidD b2
  have W3 := hidD b3
  have W4 := hidD b4
  clear b1 b2 b3 b4 hsz hc hg hi hlc
  have c1 : (((w.alloc (.cells shW (96 : TypeId))).alloc (.cells (rowZ .u64 80 (fun _ => 0)) (79 : TypeId))).alloc (.cells (rowZ .u64 80 (fun _ => 0)) (79 : TypeId))).cell? ⟨w.heap.size, 1, none⟩ = some (.int .i64 80) := by rw [cell_of_row _ _ _ _ _ _ W1.out]; rfl
  generalize hW : ((w.alloc (.cells shW (96 : TypeId))).alloc (.cells (rowZ .u64 80 (fun _ => 0)) (79 : TypeId))).alloc (.cells (rowZ .u64 80 (fun _ => 0)) (79 : TypeId)) = W at *
  go_enter Try.func72, Try.ntmps72
  go_wp2_with fail
  have V3 : Hid (RowZ W (w.heap.size + 2) .u64 80 79 (fun j => ((bkW b 0).getD j 0 : Int))) := (show RowZ W (w.heap.size + 2) .u64 80 79 (fun _ => 0) from W3.out).congr fun j _ => by rfl
  have HLP : Hid (∀ wA : World, But (w.heap.size + 2) W wA → wA.heap[w.heap.size]? = some (.cells shW (96 : TypeId) (0, 0)) ∧ RowZ wA (w.heap.size + 1) .u64 80 79 (fun _ => 0) ∧ Below w.heap.size w wA) := fun wA h => ⟨(h.rest _ (row_lt W1.out) (by omega)).trans W1.out, (h.rest _ (row_lt W2.out) (by omega)).trans W2.out, W4.out.trans (h.bel.mono (by omega))⟩
  clear hW W1 W2 W3 W4 hz c1
  generalize hg : w.heap.size = g at *
  have HG := hidD hg
  clear hg
  go_loopw [9] (fun tv wr => ∃ t : Nat, t ≤ 80 ∧ tv = .int .i64 (t : Int) ∧ RowZ wr (g + 2) .u64 80 79 (fun j => ((bkW b t).getD j 0 : Int)) ∧ But (g + 2) W wr) (fun tv _ => 80 - (intOf tv).toNat)
  case atStart => exact ⟨0, by omega, rfl, V3.out, But.refl _ _⟩
  case round =>
    clear V3
    obtain ⟨t, ht, rfl, hrow, hbut⟩ := hrel
    by_cases hlt : t < 80
    · have hlti : (t : Int) < 80 := by omega
      obtain ⟨k1, k2, k3⟩ := HLP.out _ hbut
      by_cases h16 : t < 16
      · have h16i : (t : Int) < 16 := by omega
        have HK1 := hidD k1
        have HWT := hidD (HWD.out t h16 wr k3)
        have HE : Hid (bwN 18446744073709551616 (fun t => beTo b (t * 8) 8) (fun x => shiftsS 64 x 1 8 7) (fun x => shiftsS 64 x 19 61 6) (bkW b t) t = beTo b (t * 8) 8) := if_pos h16
        have HRW := hidD hrow
        have HBT := hidD hbut
        clear k1 k2 k3 hrow hbut
        generalize beTo b (t * 8) 8 = X at *
        generalize shW = SH at *
        go_wp2_with (first
          | (refine wpList_load_row rfl 96 _ rfl g rfl 96 SH (0, 0) _ HK1.out Try.underlying96 rfl HI7.out ?_)
          | (go_at_call 46; refine HWT.out.mono ?_; rintro e w1 ⟨rfl, hb⟩; have HA := hidD (HRW.out.next hb); have HAB : Hid (But (g + 2) W w1) := HBT.out.trans (But.of hb (Nat.le_of_lt HRW.out.lt)); have hct := HA.out.cell (k := t) (by omega); have hft := HA.out.frozen t; clear hb))
        go_roundw
        case rel =>
          first
          | exact ⟨t + 1, by omega, by go_num, (HA.out.set (k := t) (by omega) _).congr fun j hj => by rw [HNX.out, HE.out]; split <;> rfl, HAB.out.put _ _⟩
          | ((repeat apply Exists.intro); refine And.intro ?_ rfl; exact ⟨t + 1, by omega, by go_num, (HA.out.set (k := t) (by omega) _).congr fun j hj => by rw [HNX.out, HE.out]; split <;> rfl, HAB.out.put _ _⟩)
        case measure => simp [intOf]; omega
      · have h16i : ¬ (t : Int) < 16 := by omega
        have HBT := hidD hbut
        have t2 : (t : Int) - 2 = ((t - 2 : Nat) : Int) := by omega
        have t7 : (t : Int) - 7 = ((t - 7 : Nat) : Int) := by omega
        have t15 : (t : Int) - 15 = ((t - 15 : Nat) : Int) := by omega
        have t16 : (t : Int) - 16 = ((t - 16 : Nat) : Int) := by omega
        have l2 : t - 2 < 80 := by omega
        have l7 : t - 7 < 80 := by omega
        have l15 : t - 15 < 80 := by omega
        have l16 : t - 16 < 80 := by omega
        have e0 : ∀ i : BW wr, i.v.cell? ⟨g, 0, none⟩ = some (.int .i64 64) := fun i => by rw [cell_of_row _ _ _ _ _ _ ((i.below.block _ (row_lt k1)).trans k1)]; rfl
        have e8 : ∀ i : BW wr, i.v.cell? ⟨g, 8, none⟩ = some (.int .i64 1) := fun i => by rw [cell_of_row _ _ _ _ _ _ ((i.below.block _ (row_lt k1)).trans k1)]; rfl
        have e9 : ∀ i : BW wr, i.v.cell? ⟨g, 9, none⟩ = some (.int .i64 8) := fun i => by rw [cell_of_row _ _ _ _ _ _ ((i.below.block _ (row_lt k1)).trans k1)]; rfl
        have e10 : ∀ i : BW wr, i.v.cell? ⟨g, 10, none⟩ = some (.int .i64 7) := fun i => by rw [cell_of_row _ _ _ _ _ _ ((i.below.block _ (row_lt k1)).trans k1)]; rfl
        have e11 : ∀ i : BW wr, i.v.cell? ⟨g, 11, none⟩ = some (.int .i64 19) := fun i => by rw [cell_of_row _ _ _ _ _ _ ((i.below.block _ (row_lt k1)).trans k1)]; rfl
        have e12 : ∀ i : BW wr, i.v.cell? ⟨g, 12, none⟩ = some (.int .i64 61) := fun i => by rw [cell_of_row _ _ _ _ _ _ ((i.below.block _ (row_lt k1)).trans k1)]; rfl
        have e13 : ∀ i : BW wr, i.v.cell? ⟨g, 13, none⟩ = some (.int .i64 6) := fun i => by rw [cell_of_row _ _ _ _ _ _ ((i.below.block _ (row_lt k1)).trans k1)]; rfl
        have x2 : ∀ i : BW wr, i.v.cell? ⟨g + 2, t - 2, none⟩ = some (.int .u64 ((bkW b t).getD (t - 2) 0 : Int)) := fun i => (hrow.next i.below).cell l2
        have x7 : ∀ i : BW wr, i.v.cell? ⟨g + 2, t - 7, none⟩ = some (.int .u64 ((bkW b t).getD (t - 7) 0 : Int)) := fun i => (hrow.next i.below).cell l7
        have x15 : ∀ i : BW wr, i.v.cell? ⟨g + 2, t - 15, none⟩ = some (.int .u64 ((bkW b t).getD (t - 15) 0 : Int)) := fun i => (hrow.next i.below).cell l15
        have x16 : ∀ i : BW wr, i.v.cell? ⟨g + 2, t - 16, none⟩ = some (.int .u64 ((bkW b t).getD (t - 16) 0 : Int)) := fun i => (hrow.next i.below).cell l16
        have y2 := HBL0.out t (t - 2)
        have y7 := HBL0.out t (t - 7)
        have y15 := HBL0.out t (t - 15)
        have y16 := HBL0.out t (t - 16)
        have HE : Hid (bwN 18446744073709551616 (fun t => beTo b (t * 8) 8) (fun x => shiftsS 64 x 1 8 7) (fun x => shiftsS 64 x 19 61 6) (bkW b t) t = (((shiftsS 64 ((bkW b t).getD (t - 2) 0) 19 61 6 + (bkW b t).getD (t - 7) 0) % 18446744073709551616 + shiftsS 64 ((bkW b t).getD (t - 15) 0) 1 8 7) % 18446744073709551616 + (bkW b t).getD (t - 16) 0) % 18446744073709551616) := if_neg h16
        have HTW : Hid (∀ i : BW wr, i.v.cell? ⟨g + 2, t, none⟩ = some (.int .u64 ((bkW b t).getD t 0 : Int))) := fun i => (hrow.next i.below).cell (by omega)
        have HFW : Hid (∀ i : BW wr, i.v.frozen? ⟨g + 2, t, none⟩ = false) := fun i => (hrow.next i.below).frozen _
        have HST : Hid (∀ (i : BW wr) (v : Int), v = (bwN 18446744073709551616 (fun t => beTo b (t * 8) 8) (fun x => shiftsS 64 x 1 8 7) (fun x => shiftsS 64 x 19 61 6) (bkW b t) t : Int) → RowZ (i.v.setCell ⟨g + 2, t, none⟩ (.int .u64 v)) (g + 2) .u64 80 79 (fun j => ((bkW b (t + 1)).getD j 0 : Int))) := fun i v hv => ((hrow.next i.below).set (k := t) (by omega) _).congr fun j hj => by
          rw [HNX.out, hv]; split <;> rfl
        have HSB : Hid (∀ (i : BW wr) v, But (g + 2) W (i.v.setCell ⟨g + 2, t, none⟩ v)) := fun i v => (hbut.trans (But.of i.below (Nat.le_of_lt hrow.lt))).put t v
        generalize (bkW b t).getD (t - 2) 0 = X2 at *
        generalize (bkW b t).getD (t - 7) 0 = X7 at *
        generalize (bkW b t).getD (t - 15) 0 = X15 at *
        generalize (bkW b t).getD (t - 16) 0 = X16 at *
        generalize (bkW b t).getD t 0 = XT at *
        have z2 : shiftsS 64 X2 19 61 6 < 18446744073709551616 := shiftsS_lt 64 X2 _ _ _ y2
        have z15 : shiftsS 64 X15 1 8 7 < 18446744073709551616 := shiftsS_lt 64 X15 _ _ _ y15
        obtain ⟨FS, hFS⟩ : ∃ FS : Nat → Int → Nat, FS = fun x a => if a = 19 then shiftsS 64 x 19 61 6 else shiftsS 64 x 1 8 7 := ⟨_, rfl⟩
        have HSF : Hid (∀ x : Nat, x < 18446744073709551616 → ∀ a b c : Int, ((a = 19 ∧ b = 61 ∧ c = 6) ∨ (a = 1 ∧ b = 8 ∧ c = 7)) → ∀ w, Calls Try.prog 82 #[.int .u64 (x : Int), .agg #[.int .i64 a, .int .i64 b, .int .i64 c], .int .i64 64] w fun e w' => e = .returned (.int .u64 (FS x a : Int)) ∧ Below w.heap.size w w') := fun x hx a b c h w => by
          rcases h with ⟨h1, h2, h3⟩ | ⟨h1, h2, h3⟩ <;> subst h1 <;> subst h2 <;> subst h3
          · have e : FS x 19 = shiftsS 64 x 19 61 6 := by rw [hFS]; rfl
            rw [e]; exact HS2.out x hx w
          · have e : FS x 1 = shiftsS 64 x 1 8 7 := by rw [hFS]; rfl
            rw [e]; exact HS15.out x hx w
        have fs2 : FS X2 19 = shiftsS 64 X2 19 61 6 := by rw [hFS]; rfl
        have fs15 : FS X15 1 = shiftsS 64 X15 1 8 7 := by rw [hFS]; rfl
        clear hFS
        generalize shiftsS 64 X2 19 61 6 = Z2 at *
        generalize shiftsS 64 X15 1 8 7 = Z15 at *
        have a1 : IntKind.u64.wrap ((Z2 : Int) + (X7 : Int)) = (((Z2 + X7) % 18446744073709551616 : Nat) : Int) := by rw [IntKind.wrap_u64]; omega
        have a2 : IntKind.u64.wrap ((((Z2 + X7) % 18446744073709551616 : Nat) : Int) + (Z15 : Int)) = ((((Z2 + X7) % 18446744073709551616 + Z15) % 18446744073709551616 : Nat) : Int) := by rw [IntKind.wrap_u64]; omega
        have a3 : IntKind.u64.wrap (((((Z2 + X7) % 18446744073709551616 + Z15) % 18446744073709551616 : Nat) : Int) + (X16 : Int)) = (((((Z2 + X7) % 18446744073709551616 + Z15) % 18446744073709551616 + X16) % 18446744073709551616 : Nat) : Int) := by rw [IntKind.wrap_u64]; omega
        clear k1 k2 k3 hrow hbut h16
        generalize hN3 : (((Z2 + X7) % 18446744073709551616 + Z15) % 18446744073709551616 + X16) % 18446744073709551616 = N3 at *
        generalize ((Z2 + X7) % 18446744073709551616 + Z15) % 18446744073709551616 = N2 at *
        generalize (Z2 + X7) % 18446744073709551616 = N1 at *
        clear hN3
        generalize t - 2 = q2 at *
        generalize t - 7 = q7 at *
        generalize t - 15 = q15 at *
        generalize t - 16 = q16 at *
        go_wp2_with fail
        refine wp_region_put (by simp) (by kernel_rfl) rfl (by kernel_rfl) (by kernel_rfl) (by kernel_rfl) ?_
        simp only [List.dropLast_cons_cons, List.dropLast_singleton, List.getLast_cons_cons, List.getLast_singleton, List.cons_append, List.nil_append, mute]
        repeat (go_big_quiet_step ((go_at_call 82; exact Calls.below_of (HSF.out _ (by assumption) _ _ _ (by decide) _))))
        refine wpQuiet_nil ?_
        intro i
        have d1 := HTW.out i
        have f1 := HFW.out i
        clear x2 x7 x15 x16 e0 e8 e9 e10 e11 e12 e13
        go_wp2_with fail
        go_roundw
        case rel =>
          first
          | exact ⟨t + 1, by omega, by go_num, HST.out _ _ (by rw [HE.out]), HSB.out _ _⟩
          | ((repeat apply Exists.intro); refine And.intro ?_ rfl; exact ⟨t + 1, by omega, by go_num, HST.out _ _ (by rw [HE.out]), HSB.out _ _⟩)
        case measure => simp [intOf]; omega
    · obtain rfl : t = 80 := by omega
      obtain ⟨k1, k2, k3⟩ := HLP.out _ hbut
      have HL : Hid (wr.heap[g + 2]? = some (.cells (rowZ .u64 80 (fun j => ((bkW b 80).getD j 0 : Int))) (79 : TypeId) (0, 0))) := hrow
      have HO : Hid (wr.heap[g + 1]? = some (.cells (rowZ .u64 80 (fun _ => 0)) (79 : TypeId) (0, 0))) := k2
      have HBL := hidD k3
      have HONE : Hid ((rowZ .u64 80 (fun j => ((bkW b 80).getD j 0 : Int))).all (·.oneCell') = true) := rowZ_one _ _ _
      have h4 : (rowZ .u64 80 (fun j => ((bkW b 80).getD j 0 : Int))).size = 80 := rowZ_size _ _ _
      have h0 : (rowZ .u64 80 (fun _ => 0)).size = 80 := rowZ_size _ _ _
      clear hrow hbut k1 k2 k3
      generalize hC : rowZ .u64 80 (fun j => ((bkW b 80).getD j 0 : Int)) = C at *
      have HCE := hidD hC
      clear hC
      generalize rowZ .u64 80 (fun _ => 0) = C0 at *
      have hi : Hid ((Try.prog.info? 79).map (·.size) = some C.size) := by show _ = _; rw [HSZ.out, h4]
      have HSS : Hid (C0.size = C.size) := by show _ = _; rw [h0, h4]
      clear h0 h4
      go_wp2_with (first | (refine wpList_load_row rfl 79 _ rfl (g + 2) rfl 79 C (0, 0) _ HL.out Try.underlying79 rfl hi.out ?_) | (refine wpList_store_row rfl 79 _ _ rfl (g + 1) C rfl rfl 79 C0 HO.out hi.out HSS.out HONE.out ?_))
      refine bodyPost_ret (results_cell_row (P := Try.prog) (p := 4) (ty := 79) (by kernel_rfl) _ _ (g + 1) 79 C (0, 0) _ rfl (setRow_heap _ _ C0 C 79 (0, 0) HO.out) Try.underlying79 rfl hi.out) rfl ?_
      refine ⟨by rw [HCE.out], ?_⟩
      have hfin : Below g w (wr.setRow (g + 1) C) := below_setRow HBL.out (by omega) _
      rw [HG.out]; exact hfin

def bkN (b : Nat → UInt8) (t : Nat) : List Nat := bwL 4294967296 (fun t => beTo b (t * 4) 4) (fun x => shiftsS 32 x 7 18 3) (fun x => shiftsS 32 x 17 19 10) t
theorem Try.zero96z : (Try.prog.info? 125).map (fun i => (i.zero, i.size)) = some (some (.agg (rowZ .u32 80 (fun _ => 0))), 80) := by kernel_rfl
set_option maxRecDepth 100000 in
set_option maxHeartbeats 3200000 in
theorem blockN_any (b : Nat → UInt8) (g0 off len cap : Nat) (hi : 64 ≤ len) (hlc : len ≤ cap) (hcm : cap < 4611686018427387904) (w : World) (hg : g0 < w.heap.size) (hc : ∀ k, k < len → w.cell? ⟨g0, off + k, none⟩ = some (.int .u8 ((b k).toNat : Int))) : Calls Try.prog 74 #[.slice (some ⟨g0, off, none⟩) len cap, .agg shN] w fun e w' => e = .returned (.agg (rowZ .u32 80 (fun j => ((bkN b 64).getD j 0 : Int)))) ∧ Below w.heap.size w w' := by
  obtain ⟨hz, hsz⟩ := zero_of_info Try.zero96z
  have HSZ := hidD hsz
  have HWD : Hid (∀ i : Nat, i < 16 → ∀ wA, Below w.heap.size w wA → Calls Try.prog 84 #[.slice (some ⟨g0, off, none⟩) len cap, .int .i64 (i : Int), .agg shN] wA fun e w' => e = .returned (.int .u32 (beTo b (i * 4) 4 : Int)) ∧ Below wA.heap.size wA w') := fun i hi' wA hA => wordN_any b g0 off len cap i (by omega) hlc hcm wA (Nat.lt_of_lt_of_le hg hA.size) (fun k hk => (hA.cell (p := ⟨g0, off + k, none⟩) hg).trans (hc k hk))
  have HS2 : Hid (∀ x : Nat, x < 4294967296 → ∀ w, Calls Try.prog 85 #[.int .u32 (x : Int), .agg #[.int .i64 17, .int .i64 19, .int .i64 10], .int .i64 32] w fun e w' => e = .returned (.int .u32 (shiftsS 32 x 17 19 10 : Int)) ∧ Below w.heap.size w w') := fun x hx w => shifts32_any x 17 19 10 hx (by omega) (by omega) (by omega) w
  have HS15 : Hid (∀ x : Nat, x < 4294967296 → ∀ w, Calls Try.prog 85 #[.int .u32 (x : Int), .agg #[.int .i64 7, .int .i64 18, .int .i64 3], .int .i64 32] w fun e w' => e = .returned (.int .u32 (shiftsS 32 x 7 18 3 : Int)) ∧ Below w.heap.size w w') := fun x hx w => shifts32_any x 7 18 3 hx (by omega) (by omega) (by omega) w
  have HBL0 : Hid (∀ t j, (bkN b t).getD j 0 < 4294967296) := fun t j => bw_lt 4294967296 (by omega) _ _ _ (fun t => Nat.lt_of_lt_of_le (beTo_lt b (t * 4) 4) (by decide)) t j
  have HNX : Hid (∀ t j, (bkN b (t + 1)).getD j 0 = if j = t then bwN 4294967296 (fun t => beTo b (t * 4) 4) (fun x => shiftsS 32 x 7 18 3) (fun x => shiftsS 32 x 17 19 10) (bkN b t) t else (bkN b t).getD j 0) := fun t j => bw_next _ _ _ _ t j
  have HI7 : Hid ((Try.prog.info? 96).map (·.size) = some shN.size) := (zero_of_info Try.zero67z).2
  obtain ⟨b1, b2, b3, b4⟩ := three_blocks w shN (rowZ .u32 80 (fun _ => 0)) (rowZ .u32 80 (fun _ => 0)) 96 125 125
  have W1 := hidD b1
  have W2 := hidD b2
  have W3 := hidD b3
  have W4 := hidD b4
  clear b1 b2 b3 b4 hsz hc hg hi hlc
  have c1 : (((w.alloc (.cells shN (96 : TypeId))).alloc (.cells (rowZ .u32 80 (fun _ => 0)) (125 : TypeId))).alloc (.cells (rowZ .u32 80 (fun _ => 0)) (125 : TypeId))).cell? ⟨w.heap.size, 1, none⟩ = some (.int .i64 64) := by rw [cell_of_row _ _ _ _ _ _ W1.out]; rfl
  generalize hW : ((w.alloc (.cells shN (96 : TypeId))).alloc (.cells (rowZ .u32 80 (fun _ => 0)) (125 : TypeId))).alloc (.cells (rowZ .u32 80 (fun _ => 0)) (125 : TypeId)) = W at *
  go_enter Try.func74, Try.ntmps74
  go_wp2_with fail
  have V3 : Hid (RowZ W (w.heap.size + 2) .u32 80 125 (fun j => ((bkN b 0).getD j 0 : Int))) := (show RowZ W (w.heap.size + 2) .u32 80 125 (fun _ => 0) from W3.out).congr fun j _ => by rfl
  have HLP : Hid (∀ wA : World, But (w.heap.size + 2) W wA → wA.heap[w.heap.size]? = some (.cells shN (96 : TypeId) (0, 0)) ∧ RowZ wA (w.heap.size + 1) .u32 80 125 (fun _ => 0) ∧ Below w.heap.size w wA) := fun wA h => ⟨(h.rest _ (row_lt W1.out) (by omega)).trans W1.out, (h.rest _ (row_lt W2.out) (by omega)).trans W2.out, W4.out.trans (h.bel.mono (by omega))⟩
  clear hW W1 W2 W3 W4 hz c1
  generalize hg : w.heap.size = g at *
  have HG := hidD hg
  clear hg
  go_loopw [9] (fun tv wr => ∃ t : Nat, t ≤ 64 ∧ tv = .int .i64 (t : Int) ∧ RowZ wr (g + 2) .u32 80 125 (fun j => ((bkN b t).getD j 0 : Int)) ∧ But (g + 2) W wr) (fun tv _ => 64 - (intOf tv).toNat)
  case atStart => exact ⟨0, by omega, rfl, V3.out, But.refl _ _⟩
  case round =>
    clear V3
    obtain ⟨t, ht, rfl, hrow, hbut⟩ := hrel
    by_cases hlt : t < 64
    · have hlti : (t : Int) < 64 := by omega
      obtain ⟨k1, k2, k3⟩ := HLP.out _ hbut
      by_cases h16 : t < 16
      · have h16i : (t : Int) < 16 := by omega
        have HK1 := hidD k1
        have HWT := hidD (HWD.out t h16 wr k3)
        have HE : Hid (bwN 4294967296 (fun t => beTo b (t * 4) 4) (fun x => shiftsS 32 x 7 18 3) (fun x => shiftsS 32 x 17 19 10) (bkN b t) t = beTo b (t * 4) 4) := if_pos h16
        have HRW := hidD hrow
        have HBT := hidD hbut
        clear k1 k2 k3 hrow hbut
        generalize beTo b (t * 4) 4 = X at *
        generalize shN = SH at *
        go_wp2_with (first
          | (refine wpList_load_row rfl 96 _ rfl g rfl 96 SH (0, 0) _ HK1.out Try.underlying96 rfl HI7.out ?_)
          | (go_at_call 84; refine HWT.out.mono ?_; rintro e w1 ⟨rfl, hb⟩; have HA := hidD (HRW.out.next hb); have HAB : Hid (But (g + 2) W w1) := HBT.out.trans (But.of hb (Nat.le_of_lt HRW.out.lt)); have hct := HA.out.cell (k := t) (by omega); have hft := HA.out.frozen t; clear hb))
        go_roundw
        case rel =>
          first
          | exact ⟨t + 1, by omega, by go_num, (HA.out.set (k := t) (by omega) _).congr fun j hj => by rw [HNX.out, HE.out]; split <;> rfl, HAB.out.put _ _⟩
          | ((repeat apply Exists.intro); refine And.intro ?_ rfl; exact ⟨t + 1, by omega, by go_num, (HA.out.set (k := t) (by omega) _).congr fun j hj => by rw [HNX.out, HE.out]; split <;> rfl, HAB.out.put _ _⟩)
        case measure => simp [intOf]; omega
      · have h16i : ¬ (t : Int) < 16 := by omega
        have HBT := hidD hbut
        have t2 : (t : Int) - 2 = ((t - 2 : Nat) : Int) := by omega
        have t7 : (t : Int) - 7 = ((t - 7 : Nat) : Int) := by omega
        have t15 : (t : Int) - 15 = ((t - 15 : Nat) : Int) := by omega
        have t16 : (t : Int) - 16 = ((t - 16 : Nat) : Int) := by omega
        have l2 : t - 2 < 80 := by omega
        have l7 : t - 7 < 80 := by omega
        have l15 : t - 15 < 80 := by omega
        have l16 : t - 16 < 80 := by omega
        have e0 : ∀ i : BW wr, i.v.cell? ⟨g, 0, none⟩ = some (.int .i64 32) := fun i => by rw [cell_of_row _ _ _ _ _ _ ((i.below.block _ (row_lt k1)).trans k1)]; rfl
        have e8 : ∀ i : BW wr, i.v.cell? ⟨g, 8, none⟩ = some (.int .i64 7) := fun i => by rw [cell_of_row _ _ _ _ _ _ ((i.below.block _ (row_lt k1)).trans k1)]; rfl
        have e9 : ∀ i : BW wr, i.v.cell? ⟨g, 9, none⟩ = some (.int .i64 18) := fun i => by rw [cell_of_row _ _ _ _ _ _ ((i.below.block _ (row_lt k1)).trans k1)]; rfl
        have e10 : ∀ i : BW wr, i.v.cell? ⟨g, 10, none⟩ = some (.int .i64 3) := fun i => by rw [cell_of_row _ _ _ _ _ _ ((i.below.block _ (row_lt k1)).trans k1)]; rfl
        have e11 : ∀ i : BW wr, i.v.cell? ⟨g, 11, none⟩ = some (.int .i64 17) := fun i => by rw [cell_of_row _ _ _ _ _ _ ((i.below.block _ (row_lt k1)).trans k1)]; rfl
        have e12 : ∀ i : BW wr, i.v.cell? ⟨g, 12, none⟩ = some (.int .i64 19) := fun i => by rw [cell_of_row _ _ _ _ _ _ ((i.below.block _ (row_lt k1)).trans k1)]; rfl
        have e13 : ∀ i : BW wr, i.v.cell? ⟨g, 13, none⟩ = some (.int .i64 10) := fun i => by rw [cell_of_row _ _ _ _ _ _ ((i.below.block _ (row_lt k1)).trans k1)]; rfl
        have x2 : ∀ i : BW wr, i.v.cell? ⟨g + 2, t - 2, none⟩ = some (.int .u32 ((bkN b t).getD (t - 2) 0 : Int)) := fun i => (hrow.next i.below).cell l2
        have x7 : ∀ i : BW wr, i.v.cell? ⟨g + 2, t - 7, none⟩ = some (.int .u32 ((bkN b t).getD (t - 7) 0 : Int)) := fun i => (hrow.next i.below).cell l7
        have x15 : ∀ i : BW wr, i.v.cell? ⟨g + 2, t - 15, none⟩ = some (.int .u32 ((bkN b t).getD (t - 15) 0 : Int)) := fun i => (hrow.next i.below).cell l15
        have x16 : ∀ i : BW wr, i.v.cell? ⟨g + 2, t - 16, none⟩ = some (.int .u32 ((bkN b t).getD (t - 16) 0 : Int)) := fun i => (hrow.next i.below).cell l16
        have y2 := HBL0.out t (t - 2)
        have y7 := HBL0.out t (t - 7)
        have y15 := HBL0.out t (t - 15)
        have y16 := HBL0.out t (t - 16)
        have HE : Hid (bwN 4294967296 (fun t => beTo b (t * 4) 4) (fun x => shiftsS 32 x 7 18 3) (fun x => shiftsS 32 x 17 19 10) (bkN b t) t = (((shiftsS 32 ((bkN b t).getD (t - 2) 0) 17 19 10 + (bkN b t).getD (t - 7) 0) % 4294967296 + shiftsS 32 ((bkN b t).getD (t - 15) 0) 7 18 3) % 4294967296 + (bkN b t).getD (t - 16) 0) % 4294967296) := if_neg h16
        have HTW : Hid (∀ i : BW wr, i.v.cell? ⟨g + 2, t, none⟩ = some (.int .u32 ((bkN b t).getD t 0 : Int))) := fun i => (hrow.next i.below).cell (by omega)
        have HFW : Hid (∀ i : BW wr, i.v.frozen? ⟨g + 2, t, none⟩ = false) := fun i => (hrow.next i.below).frozen _
        have HST : Hid (∀ (i : BW wr) (v : Int), v = (bwN 4294967296 (fun t => beTo b (t * 4) 4) (fun x => shiftsS 32 x 7 18 3) (fun x => shiftsS 32 x 17 19 10) (bkN b t) t : Int) → RowZ (i.v.setCell ⟨g + 2, t, none⟩ (.int .u32 v)) (g + 2) .u32 80 125 (fun j => ((bkN b (t + 1)).getD j 0 : Int))) := fun i v hv => ((hrow.next i.below).set (k := t) (by omega) _).congr fun j hj => by
          rw [HNX.out, hv]; split <;> rfl
        have HSB : Hid (∀ (i : BW wr) v, But (g + 2) W (i.v.setCell ⟨g + 2, t, none⟩ v)) := fun i v => (hbut.trans (But.of i.below (Nat.le_of_lt hrow.lt))).put t v
        generalize (bkN b t).getD (t - 2) 0 = X2 at *
        generalize (bkN b t).getD (t - 7) 0 = X7 at *
        generalize (bkN b t).getD (t - 15) 0 = X15 at *
        generalize (bkN b t).getD (t - 16) 0 = X16 at *
        generalize (bkN b t).getD t 0 = XT at *
        have z2 : shiftsS 32 X2 17 19 10 < 4294967296 := shiftsS_lt 32 X2 _ _ _ y2
        have z15 : shiftsS 32 X15 7 18 3 < 4294967296 := shiftsS_lt 32 X15 _ _ _ y15
        obtain ⟨FS, hFS⟩ : ∃ FS : Nat → Int → Nat, FS = fun x a => if a = 17 then shiftsS 32 x 17 19 10 else shiftsS 32 x 7 18 3 := ⟨_, rfl⟩
        have HSF : Hid (∀ x : Nat, x < 4294967296 → ∀ a b c : Int, ((a = 17 ∧ b = 19 ∧ c = 10) ∨ (a = 7 ∧ b = 18 ∧ c = 3)) → ∀ w, Calls Try.prog 85 #[.int .u32 (x : Int), .agg #[.int .i64 a, .int .i64 b, .int .i64 c], .int .i64 32] w fun e w' => e = .returned (.int .u32 (FS x a : Int)) ∧ Below w.heap.size w w') := fun x hx a b c h w => by
          rcases h with ⟨h1, h2, h3⟩ | ⟨h1, h2, h3⟩ <;> subst h1 <;> subst h2 <;> subst h3
          · have e : FS x 17 = shiftsS 32 x 17 19 10 := by rw [hFS]; rfl
            rw [e]; exact HS2.out x hx w
          · have e : FS x 7 = shiftsS 32 x 7 18 3 := by rw [hFS]; rfl
            rw [e]; exact HS15.out x hx w
        have fs2 : FS X2 17 = shiftsS 32 X2 17 19 10 := by rw [hFS]; rfl
        have fs15 : FS X15 7 = shiftsS 32 X15 7 18 3 := by rw [hFS]; rfl
        clear hFS
        generalize shiftsS 32 X2 17 19 10 = Z2 at *
        generalize shiftsS 32 X15 7 18 3 = Z15 at *
        have a1 : ((Z2 : Int) + (X7 : Int)) % 4294967296 = (((Z2 + X7) % 4294967296 : Nat) : Int) := by omega
        have a2 : ((((Z2 + X7) % 4294967296 : Nat) : Int) + (Z15 : Int)) % 4294967296 = ((((Z2 + X7) % 4294967296 + Z15) % 4294967296 : Nat) : Int) := by omega
        have a3 : (((((Z2 + X7) % 4294967296 + Z15) % 4294967296 : Nat) : Int) + (X16 : Int)) % 4294967296 = (((((Z2 + X7) % 4294967296 + Z15) % 4294967296 + X16) % 4294967296 : Nat) : Int) := by omega
        clear k1 k2 k3 hrow hbut h16
        generalize hN3 : (((Z2 + X7) % 4294967296 + Z15) % 4294967296 + X16) % 4294967296 = N3 at *
        generalize ((Z2 + X7) % 4294967296 + Z15) % 4294967296 = N2 at *
        generalize (Z2 + X7) % 4294967296 = N1 at *
        clear hN3
        generalize t - 2 = q2 at *
        generalize t - 7 = q7 at *
        generalize t - 15 = q15 at *
        generalize t - 16 = q16 at *
        go_wp2_with fail
        refine wp_region_put (by simp) (by kernel_rfl) rfl (by kernel_rfl) (by kernel_rfl) (by kernel_rfl) ?_
        simp only [List.dropLast_cons_cons, List.dropLast_singleton, List.getLast_cons_cons, List.getLast_singleton, List.cons_append, List.nil_append, mute]
        repeat (go_big_quiet_step ((go_at_call 85; exact Calls.below_of (HSF.out _ (by assumption) _ _ _ (by decide) _))))
        refine wpQuiet_nil ?_
        intro i
        have d1 := HTW.out i
        have f1 := HFW.out i
        clear x2 x7 x15 x16 e0 e8 e9 e10 e11 e12 e13
        go_wp2_with fail
        go_roundw
        case rel =>
          first
          | exact ⟨t + 1, by omega, by go_num, HST.out _ _ (by rw [HE.out]), HSB.out _ _⟩
          | ((repeat apply Exists.intro); refine And.intro ?_ rfl; exact ⟨t + 1, by omega, by go_num, HST.out _ _ (by rw [HE.out]), HSB.out _ _⟩)
        case measure => simp [intOf]; omega
    · obtain rfl : t = 64 := by omega
      obtain ⟨k1, k2, k3⟩ := HLP.out _ hbut
      have HL : Hid (wr.heap[g + 2]? = some (.cells (rowZ .u32 80 (fun j => ((bkN b 64).getD j 0 : Int))) (125 : TypeId) (0, 0))) := hrow
      have HO : Hid (wr.heap[g + 1]? = some (.cells (rowZ .u32 80 (fun _ => 0)) (125 : TypeId) (0, 0))) := k2
      have HBL := hidD k3
      have HONE : Hid ((rowZ .u32 80 (fun j => ((bkN b 64).getD j 0 : Int))).all (·.oneCell') = true) := rowZ_one _ _ _
      have h4 : (rowZ .u32 80 (fun j => ((bkN b 64).getD j 0 : Int))).size = 80 := rowZ_size _ _ _
      have h0 : (rowZ .u32 80 (fun _ => 0)).size = 80 := rowZ_size _ _ _
      clear hrow hbut k1 k2 k3
      generalize hC : rowZ .u32 80 (fun j => ((bkN b 64).getD j 0 : Int)) = C at *
      have HCE := hidD hC
      clear hC
      generalize rowZ .u32 80 (fun _ => 0) = C0 at *
      have hi : Hid ((Try.prog.info? 125).map (·.size) = some C.size) := by show _ = _; rw [HSZ.out, h4]
      have HSS : Hid (C0.size = C.size) := by show _ = _; rw [h0, h4]
      clear h0 h4
      go_wp2_with (first | (refine wpList_load_row rfl 125 _ rfl (g + 2) rfl 125 C (0, 0) _ HL.out Try.underlying125 rfl hi.out ?_) | (refine wpList_store_row rfl 125 _ _ rfl (g + 1) C rfl rfl 125 C0 HO.out hi.out HSS.out HONE.out ?_))
      refine bodyPost_ret (results_cell_row (P := Try.prog) (p := 4) (ty := 125) (by kernel_rfl) _ _ (g + 1) 125 C (0, 0) _ rfl (setRow_heap _ _ C0 C 125 (0, 0) HO.out) Try.underlying125 rfl hi.out) rfl ?_
      refine ⟨by rw [HCE.out], ?_⟩
      have hfin : Below g w (wr.setRow (g + 1) C) := below_setRow HBL.out (by omega) _
      rw [HG.out]; exact hfin
end Go.Proofs.Ytnldpofljeodiaa
