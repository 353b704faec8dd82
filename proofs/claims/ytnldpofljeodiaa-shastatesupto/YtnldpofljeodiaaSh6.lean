/- What fractions.of and constantsOf answer. -/
import Derived.Test.YtnldpofljeodiaaSh5
namespace Go.Proofs.Ytnldpofljeodiaa
open Go.RowKit
set_option linter.unusedVariables false

def wdN (k : Nat) : Nat := if 256 < k then 64 else 32
def rdN (k : Nat) : Nat := if 256 < k then 80 else 64
/- the constants of a kind, out of a row of fractions: k, then h -/
def hOf (k : Nat) (F : Nat → Nat) (i : Nat) : Nat := if k = 224 then F (88 + i) % 4294967296 else if k = 256 then F (80 + i) / 4294967296 else if k = 384 then F (88 + i) else F (80 + i)
def ofS (k : Nat) (F : Nat → Nat) (j : Nat) : Nat := if j < 80 then (if j < rdN k then F j / 2 ^ (64 - wdN k) else 0) else hOf k F (j - 80)
theorem Try.zero53z : (Try.prog.info? 82).map (fun i => (i.zero, i.size)) = some (some (.agg (rowZ .u64 88 (fun _ => 0))), 88) := by kernel_rfl
theorem three_blocks (w : World) (A B C : Array Value) (ta tb tc : TypeId) : (((w.alloc (.cells A ta)).alloc (.cells B tb)).alloc (.cells C tc)).heap[w.heap.size]? = some (.cells A ta (0, 0)) ∧ (((w.alloc (.cells A ta)).alloc (.cells B tb)).alloc (.cells C tc)).heap[w.heap.size + 1]? = some (.cells B tb (0, 0)) ∧ (((w.alloc (.cells A ta)).alloc (.cells B tb)).alloc (.cells C tc)).heap[w.heap.size + 2]? = some (.cells C tc (0, 0)) ∧ Below w.heap.size w (((w.alloc (.cells A ta)).alloc (.cells B tb)).alloc (.cells C tc)) := by
  have sz : ∀ (w : World) o, (w.alloc o).heap.size = w.heap.size + 1 := fun w o => by simp
  have h1 := heap_alloc_last w (.cells A ta)
  have h2 := heap_alloc_last (w.alloc (.cells A ta)) (.cells B tb)
  have h3 := heap_alloc_last ((w.alloc (.cells A ta)).alloc (.cells B tb)) (.cells C tc)
  rw [sz] at h2
  rw [sz, sz] at h3
  refine ⟨?_, ?_, h3, ((((Below.refl _ _).alloc (Nat.le_refl _) _).alloc (by rw [sz]; omega) _).alloc (by rw [sz, sz]; omega) _)⟩
  · rw [Below.heap_alloc _ _ _ (by rw [sz, sz]; omega), Below.heap_alloc _ _ _ (by rw [sz]; omega)]; exact h1
  · rw [Below.heap_alloc _ _ _ (by rw [sz, sz]; omega)]; exact h2

theorem ofS224k (F : Nat → Nat) (j : Nat) (h : j < 80) : ofS 224 F j = if j < 64 then F j / 2 ^ 32 else 0 := by unfold ofS; rw [if_pos h]; rfl
theorem ofS224h (F : Nat → Nat) (i : Nat) : ofS 224 F (80 + i) = F (88 + i) % 4294967296 := by unfold ofS; rw [if_neg (by omega), show 80 + i - 80 = i by omega]; rfl
set_option maxRecDepth 100000 in
set_option maxHeartbeats 3200000 in
theorem of224_any (F : Nat → Nat) (hF : ∀ j, F j < 18446744073709551616) (w : World) : Calls Try.prog 61 #[.agg (rowZ .u64 96 (fun j => (F j : Int))), .int .i64 224] w fun e w' => e = .returned (.agg (rowZ .u64 88 (fun j => (ofS 224 F j : Int)))) ∧ Below w.heap.size w w' := by
  obtain ⟨hz, hsz⟩ := zero_of_info Try.zero53z
  obtain ⟨hy, hsy⟩ := zero_of_info Try.zero67z
  have HSZ := hidD hsz
  have HSY := hidD hsy
  have HSH : Hid (∀ w, Calls Try.prog 47 #[.int .i64 224] w fun e w' => e = .returned (.agg shN) ∧ Below w.heap.size w w') := fun w => shapeOf_any 224 w
  have HI7 : Hid ((Try.prog.info? 96).map (·.size) = some shN.size) := hsy
  have HS7 : Hid ((#[.int .i64 0, .int .i64 0, .int .i64 0, .int .i64 0, .int .i64 0, .int .i64 0, .int .i64 0, .int .i64 0, .int .i64 0, .int .i64 0, .int .i64 0, .int .i64 0, .int .i64 0, .int .i64 0] : Array Value).size = shN.size) := hidD rfl
  have HO7 : Hid (shN.all (·.oneCell') = true) := hidD (by simp [shN, Value.oneCell'])
  have HQ0 : Hid (shN[0]? = some (.int .i64 32)) := hidD rfl
  have HQ1 : Hid (shN[1]? = some (.int .i64 64)) := hidD rfl
  clear hsz hsy
  generalize shN = SH at *
  generalize (#[.int .i64 0, .int .i64 0, .int .i64 0, .int .i64 0, .int .i64 0, .int .i64 0, .int .i64 0, .int .i64 0, .int .i64 0, .int .i64 0, .int .i64 0, .int .i64 0, .int .i64 0, .int .i64 0] : Array Value) = Z7 at *
  obtain ⟨b1, b2, b3, b4⟩ := three_blocks w (rowZ .u64 96 (fun j => (F j : Int))) (rowZ .u64 88 (fun _ => 0)) (rowZ .u64 88 (fun _ => 0)) 109 82 82
  have W1 := hidD b1
  have W2 := hidD b2
  have W3 := hidD b3
  have W4 := hidD b4
  clear b1 b2 b3 b4
  go_enter Try.func61, Try.ntmps61
  go_wp2_with (first
    | (go_at_call 47; refine (HSH.out _).mono ?_; rintro e w1 ⟨rfl, hb⟩; have V1 := hidD ((hb.block _ (row_lt W1.out)).trans W1.out); have V2 := hidD ((hb.block _ (row_lt W2.out)).trans W2.out); have V3 := hidD ((hb.block _ (row_lt W3.out)).trans W3.out); have V4 : Hid (Below w.heap.size w w1) := Below.next W4.out hb; have hl := row_lt V3.out; have VA : Hid ((w1.alloc (.cells Z7 (96 : TypeId))).heap[w1.heap.size]? = some (.cells Z7 (96 : TypeId) (0, 0))) := heap_alloc_last _ _; have VL : Hid (w.heap.size + 2 < w1.heap.size) := hl; clear hb hl W1 W2 W3 W4)
    | (refine wpList_store_row rfl 96 _ _ rfl w1.heap.size SH rfl rfl 96 Z7 VA.out HI7.out HS7.out HO7.out ?_; have HAL := hidD ((Below.refl w1.heap.size w1).alloc (Nat.le_refl _) (.cells Z7 (96 : TypeId))); have U7 := hidD (setRow_heap _ _ _ SH _ _ VA.out); have U1 := hidD ((setRow_other (w1.alloc (.cells Z7 (96 : TypeId))) w1.heap.size w.heap.size SH (by have := VL.out; omega)).trans ((HAL.out.block _ (row_lt V1.out)).trans V1.out)); have U2 := hidD ((setRow_other (w1.alloc (.cells Z7 (96 : TypeId))) w1.heap.size (w.heap.size + 1) SH (by have := VL.out; omega)).trans ((HAL.out.block _ (row_lt V2.out)).trans V2.out)); have U3 := hidD ((setRow_other (w1.alloc (.cells Z7 (96 : TypeId))) w1.heap.size (w.heap.size + 2) SH (by have := VL.out; omega)).trans ((HAL.out.block _ (row_lt V3.out)).trans V3.out)); have U4 := hidD (below_setRow (Below.next V4.out HAL.out) (g := w1.heap.size) V4.out.size SH); clear VA V1 V2 V3 V4 HAL; generalize (w1.alloc (.cells Z7 (96 : TypeId))).setRow w1.heap.size SH = w2 at *; have c7a : w2.cell? ⟨w1.heap.size, 1, none⟩ = some (.int .i64 64) := by rw [cell_of_row _ _ _ _ _ _ U7.out]; exact HQ1.out))
  generalize hg : w.heap.size = g at *
  have HG := hidD hg
  clear hg
  generalize w1.heap.size = g7 at *
  have X1 : Hid (RowZ w2 g .u64 96 109 (fun j => (F j : Int))) := U1.out
  have X2 : Hid (RowZ w2 (g + 1) .u64 88 82 (fun _ => 0)) := U2.out
  have X3 : Hid (RowZ w2 (g + 2) .u64 88 82 (fun j => ((if j < 0 then ofS 224 F j else 0 : Nat) : Int))) := (show RowZ w2 (g + 2) .u64 88 82 (fun _ => 0) from U3.out).congr fun j _ => by rw [if_neg (by omega)]; rfl
  clear c7a U1 U2 U3
  have hLOOP : ∀ wA : World, But (g + 2) w2 wA → RowZ wA g .u64 96 109 (fun j => (F j : Int)) ∧ RowZ wA (g + 1) .u64 88 82 (fun _ => 0) ∧ wA.heap[g7]? = some (.cells SH (96 : TypeId) (0, 0)) ∧ Below g w wA := fun wA h => ⟨(h.rest _ (row_lt X1.out) (by omega)).trans X1.out, (h.rest _ (row_lt X2.out) (by omega)).trans X2.out, (h.rest _ (row_lt U7.out) (by have := VL.out; omega)).trans U7.out, U4.out.trans (h.bel.mono (by omega))⟩
  have HLP := hidD hLOOP
  clear hLOOP X1 X2 U7
  go_loopw [15] (fun tv wr => ∃ t : Nat, t ≤ 64 ∧ tv = .int .i64 (t : Int) ∧ RowZ wr (g + 2) .u64 88 82 (fun j => ((if j < t then ofS 224 F j else 0 : Nat) : Int)) ∧ But (g + 2) w2 wr) (fun tv _ => 64 - (intOf tv).toNat)
  case atStart => exact ⟨0, Nat.zero_le _, rfl, X3.out, But.refl _ _⟩
  case round =>
    clear X3
    obtain ⟨t, ht, rfl, hrow, hbut⟩ := hrel
    by_cases hlt : t < 64
    · have hlti : (t : Int) < 64 := by omega
      obtain ⟨k1, k2, k3, k4⟩ := HLP.out _ hbut
      have hcF : ∀ i : KB wr [g, g7], i.v.cell? ⟨g, t, none⟩ = some (.int .u64 (F t : Int)) := fun i => (i.cell (by simp) _).trans (k1.cell (by omega))
      have hcw : ∀ i : KB wr [g, g7], i.v.cell? ⟨g7, 0, none⟩ = some (.int .i64 32) := fun i => by
        rw [i.cell (by simp) _, cell_of_row _ _ _ _ _ _ k3]; exact HQ0.out
      have hrd := hrow.next ((Below.refl wr.heap.size wr).drew)
      have HTW : Hid (wr.drew.cell? ⟨g + 2, t, none⟩ = some (.int .u64 ((if t < t then ofS 224 F t else 0 : Nat) : Int))) := hrd.cell (by omega)
      have HFW : Hid (wr.drew.frozen? ⟨g + 2, t, none⟩ = false) := hrd.frozen _
      have HST : Hid (∀ (v : Int), v = ((F t / 2 ^ 32 : Nat) : Int) → RowZ (wr.drew.setCell ⟨g + 2, t, none⟩ (.int .u64 v)) (g + 2) .u64 88 82 (fun j => ((if j < t + 1 then ofS 224 F j else 0 : Nat) : Int))) := fun v hv => (hrd.set (k := t) (by omega) _).congr fun j hj => by
        by_cases h : j = t
        · subst h; rw [if_pos rfl, if_pos (by omega), ofS224k F j (by omega), if_pos hlt, hv]
        · rw [if_neg h]
          by_cases h2 : j < t
          · rw [if_pos h2, if_pos (by omega)]
          · rw [if_neg h2, if_neg (by omega)]
      have HSB : Hid (∀ v, But (g + 2) w2 (wr.drew.setCell ⟨g + 2, t, none⟩ v)) := fun v => (hbut.trans (But.of ((Below.refl wr.heap.size wr).drew) (Nat.le_of_lt hrow.lt))).put t v
      have HFL : Hid (F t < 18446744073709551616) := hF t
      clear hbut hrow hrd k1 k2 k3 k4
      generalize hFt : F t = X at *
      clear hFt
      go_wp2_with fail
      refine wp_region_loud [true, true, true, true, true, true, true, true, true, true, true] [g, g7] (by simp) (by kernel_rfl) rfl rfl (by kernel_rfl) (by kernel_rfl) (by kernel_rfl) (by kernel_rfl) (by kernel_rfl) (by kernel_rfl) (fun _ _ _ _ _ h => h) ?_
      simp only [List.dropLast_cons_cons, List.dropLast_singleton, List.getLast_cons_cons, List.getLast_singleton, List.cons_append, List.nil_append, mute, qPick, lPick]
      repeat (go_big_quiet_step (fail))
      refine wpQuiet_nil ?_
      simp only [LoudW]
      have d1 := HTW.out
      have f1 := HFW.out
      clear hcF hcw
      generalize wr.drew = wd at *
      go_wp2_with fail
      go_roundw
      case rel =>
        first
        | exact ⟨t + 1, by omega, by go_num, HST.out _ (by simp), HSB.out _⟩
        | ((repeat apply Exists.intro); refine And.intro ?_ rfl; exact ⟨t + 1, by omega, by go_num, HST.out _ (by simp), HSB.out _⟩)
      case measure => simp [intOf]; omega
    · obtain rfl : t = 64 := by omega
      have Y3 : Hid (RowZ wr (g + 2) .u64 88 82 (fun j => ((if j < 80 + 0 then ofS 224 F j else 0 : Nat) : Int))) := hrow.congr fun j hj => by
        by_cases h : j < 64
        · rw [if_pos h, if_pos (by omega)]
        · rw [if_neg h]
          by_cases h2 : j < 80 + 0
          · rw [if_pos h2, ofS224k F j (by omega), if_neg h]
          · rw [if_neg h2]
      have YB := hidD hbut
      clear hrow hbut
      obtain ⟨wl, hwl⟩ : ∃ wl : World, wl = wr := ⟨_, rfl⟩
      subst hwl
      go_wp2_with fail
      go_loopw [30] (fun iv wr => ∃ i : Nat, i ≤ 8 ∧ iv = .int .i64 (i : Int) ∧ RowZ wr (g + 2) .u64 88 82 (fun j => ((if j < 80 + i then ofS 224 F j else 0 : Nat) : Int)) ∧ But (g + 2) w2 wr) (fun iv _ => 8 - (intOf iv).toNat)
      case atStart => exact ⟨0, Nat.zero_le _, rfl, Y3.out, YB.out⟩
      case round =>
        clear Y3 YB
        obtain ⟨i, hi, rfl, hrow, hbut⟩ := hrel
        by_cases hlt : i < 8
        · have hlti : (i : Int) < 8 := by omega
          obtain ⟨k1, k2, k3, k4⟩ := HLP.out _ hbut
          have hs8 : (8 : Int) + (i : Int) = ((8 + i : Nat) : Int) := by omega
          have hcA : ∀ x : BW wr, x.v.cell? ⟨g, 80 + i, none⟩ = some (.int .u64 (F (80 + i) : Int)) := fun x => (k1.next x.below).cell (by omega)
          have hcB : ∀ x : BW wr, x.v.cell? ⟨g, 80 + (8 + i), none⟩ = some (.int .u64 (F (88 + i) : Int)) := fun x => by rw [(k1.next x.below).cell (by omega), show 80 + (8 + i) = 88 + i by omega]
          have HTW : Hid (∀ x : BW wr, x.v.cell? ⟨g + 2, 80 + i, none⟩ = some (.int .u64 ((if 80 + i < 80 + i then ofS 224 F (80 + i) else 0 : Nat) : Int))) := fun x => (hrow.next x.below).cell (by omega)
          have HFW : Hid (∀ x : BW wr, x.v.frozen? ⟨g + 2, 80 + i, none⟩ = false) := fun x => (hrow.next x.below).frozen _
          have HST : Hid (∀ (x : BW wr) (v : Int), v = ((ofS 224 F (80 + i) : Nat) : Int) → RowZ (x.v.setCell ⟨g + 2, 80 + i, none⟩ (.int .u64 v)) (g + 2) .u64 88 82 (fun j => ((if j < 80 + (i + 1) then ofS 224 F j else 0 : Nat) : Int))) := fun x v hv => ((hrow.next x.below).set (k := 80 + i) (by omega) _).congr fun j hj => by
            by_cases h : j = 80 + i
            · subst h; rw [if_pos rfl, if_pos (by omega), hv]
            · rw [if_neg h]
              by_cases h2 : j < 80 + i
              · rw [if_pos h2, if_pos (by omega)]
              · rw [if_neg h2, if_neg (by omega)]
          have HSB : Hid (∀ (x : BW wr) v, But (g + 2) w2 (x.v.setCell ⟨g + 2, 80 + i, none⟩ v)) := fun x v => (hbut.trans (But.of x.below (Nat.le_of_lt hrow.lt))).put (80 + i) v
          have HOE := hidD (ofS224h F i)
          have hFA := hF (80 + i)
          have hFB := hF (88 + i)
          clear hbut hrow k1 k2 k3 k4
          generalize hFa : F (80 + i) = XA at *
          generalize hFb : F (88 + i) = XB at *
          clear hFa hFb
          generalize hi8 : 8 + i = i8 at *
          have HI8 : Hid (i8 < 16) := by show _ < _; omega
          have hi16 : i8 < 16 := by omega
          clear hi8
          go_wp2_with fail
          refine wp_region_below (by kernel_rfl) (by kernel_rfl) ?_
          repeat (go_big_quiet_step (fail))
          refine wpQuiet_nil ?_
          intro x
          have d1 := HTW.out x
          have f1 := HFW.out x
          clear hcA hcB
          go_wp2_with fail
          go_roundw
          case rel =>
            first
            | exact ⟨i + 1, by omega, by go_num, HST.out _ _ (by rw [HOE.out] <;> first | rfl | simp | omega), HSB.out _ _⟩
            | ((repeat apply Exists.intro); refine And.intro ?_ rfl; exact ⟨i + 1, by omega, by go_num, HST.out _ _ (by rw [HOE.out] <;> first | rfl | simp | omega), HSB.out _ _⟩)
          case measure => simp [intOf]; omega
        · obtain rfl : i = 8 := by omega
          obtain ⟨k1, k2, k3, k4⟩ := HLP.out _ hbut
          have HL : Hid (wr.heap[g + 2]? = some (.cells (rowZ .u64 88 (fun j => (ofS 224 F j : Int))) (82 : TypeId) (0, 0))) := hrow.congr fun j hj => by rw [if_pos (by omega)]
          have HO : Hid (wr.heap[g + 1]? = some (.cells (rowZ .u64 88 (fun _ => 0)) (82 : TypeId) (0, 0))) := k2
          have HBL := hidD k4
          have HONE : Hid ((rowZ .u64 88 (fun j => (ofS 224 F j : Int))).all (·.oneCell') = true) := rowZ_one _ _ _
          have h4 : (rowZ .u64 88 (fun j => (ofS 224 F j : Int))).size = 88 := rowZ_size _ _ _
          have h0 : (rowZ .u64 88 (fun _ => 0)).size = 88 := rowZ_size _ _ _
          clear hrow hbut k1 k2 k3 k4 hz hy
          generalize hC : rowZ .u64 88 (fun j => (ofS 224 F j : Int)) = C at *
          have HCE := hidD hC
          clear hC
          generalize rowZ .u64 88 (fun _ => 0) = C0 at *
          have hi : Hid ((Try.prog.info? 82).map (·.size) = some C.size) := by show _ = _; rw [HSZ.out, h4]
          have HSS : Hid (C0.size = C.size) := by show _ = _; rw [h0, h4]
          clear h0 h4
          go_wp2_with (first | (refine wpList_load_row rfl 82 _ rfl (g + 2) rfl 82 C (0, 0) _ HL.out Try.underlying82 rfl hi.out ?_) | (refine wpList_store_row rfl 82 _ _ rfl (g + 1) C rfl rfl 82 C0 HO.out hi.out HSS.out HONE.out ?_))
          refine bodyPost_ret (results_cell_row (P := Try.prog) (p := 4) (ty := 82) (by kernel_rfl) _ _ (g + 1) 82 C (0, 0) _ rfl (setRow_heap _ _ C0 C 82 (0, 0) HO.out) Try.underlying82 rfl hi.out) rfl ?_
          refine ⟨by rw [HCE.out], ?_⟩
          have hfin : Below g w (wr.setRow (g + 1) C) := below_setRow HBL.out (by omega) _
          rw [HG.out]; exact hfin

theorem ofS256k (F : Nat → Nat) (j : Nat) (h : j < 80) : ofS 256 F j = if j < 64 then F j / 2 ^ 32 else 0 := by unfold ofS; rw [if_pos h]; rfl
theorem ofS256h (F : Nat → Nat) (i : Nat) : ofS 256 F (80 + i) = F (80 + i) / 4294967296 := by unfold ofS; rw [if_neg (by omega), show 80 + i - 80 = i by omega]; rfl
set_option maxRecDepth 100000 in
set_option maxHeartbeats 3200000 in
theorem of256_any (F : Nat → Nat) (hF : ∀ j, F j < 18446744073709551616) (w : World) : Calls Try.prog 61 #[.agg (rowZ .u64 96 (fun j => (F j : Int))), .int .i64 256] w fun e w' => e = .returned (.agg (rowZ .u64 88 (fun j => (ofS 256 F j : Int)))) ∧ Below w.heap.size w w' := by
  obtain ⟨hz, hsz⟩ := zero_of_info Try.zero53z
  obtain ⟨hy, hsy⟩ := zero_of_info Try.zero67z
  have HSZ := hidD hsz
  have HSY := hidD hsy
  have HSH : Hid (∀ w, Calls Try.prog 47 #[.int .i64 256] w fun e w' => e = .returned (.agg shN) ∧ Below w.heap.size w w') := fun w => shapeOf_any 256 w
  have HI7 : Hid ((Try.prog.info? 96).map (·.size) = some shN.size) := hsy
  have HS7 : Hid ((#[.int .i64 0, .int .i64 0, .int .i64 0, .int .i64 0, .int .i64 0, .int .i64 0, .int .i64 0, .int .i64 0, .int .i64 0, .int .i64 0, .int .i64 0, .int .i64 0, .int .i64 0, .int .i64 0] : Array Value).size = shN.size) := hidD rfl
  have HO7 : Hid (shN.all (·.oneCell') = true) := hidD (by simp [shN, Value.oneCell'])
  have HQ0 : Hid (shN[0]? = some (.int .i64 32)) := hidD rfl
  have HQ1 : Hid (shN[1]? = some (.int .i64 64)) := hidD rfl
  clear hsz hsy
  generalize shN = SH at *
  generalize (#[.int .i64 0, .int .i64 0, .int .i64 0, .int .i64 0, .int .i64 0, .int .i64 0, .int .i64 0, .int .i64 0, .int .i64 0, .int .i64 0, .int .i64 0, .int .i64 0, .int .i64 0, .int .i64 0] : Array Value) = Z7 at *
  obtain ⟨b1, b2, b3, b4⟩ := three_blocks w (rowZ .u64 96 (fun j => (F j : Int))) (rowZ .u64 88 (fun _ => 0)) (rowZ .u64 88 (fun _ => 0)) 109 82 82
  have W1 := hidD b1
  have W2 := hidD b2
  have W3 := hidD b3
  have W4 := hidD b4
  clear b1 b2 b3 b4
  go_enter Try.func61, Try.ntmps61
  go_wp2_with (first
    | (go_at_call 47; refine (HSH.out _).mono ?_; rintro e w1 ⟨rfl, hb⟩; have V1 := hidD ((hb.block _ (row_lt W1.out)).trans W1.out); have V2 := hidD ((hb.block _ (row_lt W2.out)).trans W2.out); have V3 := hidD ((hb.block _ (row_lt W3.out)).trans W3.out); have V4 : Hid (Below w.heap.size w w1) := Below.next W4.out hb; have hl := row_lt V3.out; have VA : Hid ((w1.alloc (.cells Z7 (96 : TypeId))).heap[w1.heap.size]? = some (.cells Z7 (96 : TypeId) (0, 0))) := heap_alloc_last _ _; have VL : Hid (w.heap.size + 2 < w1.heap.size) := hl; clear hb hl W1 W2 W3 W4)
    | (refine wpList_store_row rfl 96 _ _ rfl w1.heap.size SH rfl rfl 96 Z7 VA.out HI7.out HS7.out HO7.out ?_; have HAL := hidD ((Below.refl w1.heap.size w1).alloc (Nat.le_refl _) (.cells Z7 (96 : TypeId))); have U7 := hidD (setRow_heap _ _ _ SH _ _ VA.out); have U1 := hidD ((setRow_other (w1.alloc (.cells Z7 (96 : TypeId))) w1.heap.size w.heap.size SH (by have := VL.out; omega)).trans ((HAL.out.block _ (row_lt V1.out)).trans V1.out)); have U2 := hidD ((setRow_other (w1.alloc (.cells Z7 (96 : TypeId))) w1.heap.size (w.heap.size + 1) SH (by have := VL.out; omega)).trans ((HAL.out.block _ (row_lt V2.out)).trans V2.out)); have U3 := hidD ((setRow_other (w1.alloc (.cells Z7 (96 : TypeId))) w1.heap.size (w.heap.size + 2) SH (by have := VL.out; omega)).trans ((HAL.out.block _ (row_lt V3.out)).trans V3.out)); have U4 := hidD (below_setRow (Below.next V4.out HAL.out) (g := w1.heap.size) V4.out.size SH); clear VA V1 V2 V3 V4 HAL; generalize (w1.alloc (.cells Z7 (96 : TypeId))).setRow w1.heap.size SH = w2 at *; have c7a : w2.cell? ⟨w1.heap.size, 1, none⟩ = some (.int .i64 64) := by rw [cell_of_row _ _ _ _ _ _ U7.out]; exact HQ1.out))
  generalize hg : w.heap.size = g at *
  have HG := hidD hg
  clear hg
  generalize w1.heap.size = g7 at *
  have X1 : Hid (RowZ w2 g .u64 96 109 (fun j => (F j : Int))) := U1.out
  have X2 : Hid (RowZ w2 (g + 1) .u64 88 82 (fun _ => 0)) := U2.out
  have X3 : Hid (RowZ w2 (g + 2) .u64 88 82 (fun j => ((if j < 0 then ofS 256 F j else 0 : Nat) : Int))) := (show RowZ w2 (g + 2) .u64 88 82 (fun _ => 0) from U3.out).congr fun j _ => by rw [if_neg (by omega)]; rfl
  clear c7a U1 U2 U3
  have hLOOP : ∀ wA : World, But (g + 2) w2 wA → RowZ wA g .u64 96 109 (fun j => (F j : Int)) ∧ RowZ wA (g + 1) .u64 88 82 (fun _ => 0) ∧ wA.heap[g7]? = some (.cells SH (96 : TypeId) (0, 0)) ∧ Below g w wA := fun wA h => ⟨(h.rest _ (row_lt X1.out) (by omega)).trans X1.out, (h.rest _ (row_lt X2.out) (by omega)).trans X2.out, (h.rest _ (row_lt U7.out) (by have := VL.out; omega)).trans U7.out, U4.out.trans (h.bel.mono (by omega))⟩
  have HLP := hidD hLOOP
  clear hLOOP X1 X2 U7
  go_loopw [15] (fun tv wr => ∃ t : Nat, t ≤ 64 ∧ tv = .int .i64 (t : Int) ∧ RowZ wr (g + 2) .u64 88 82 (fun j => ((if j < t then ofS 256 F j else 0 : Nat) : Int)) ∧ But (g + 2) w2 wr) (fun tv _ => 64 - (intOf tv).toNat)
  case atStart => exact ⟨0, Nat.zero_le _, rfl, X3.out, But.refl _ _⟩
  case round =>
    clear X3
    obtain ⟨t, ht, rfl, hrow, hbut⟩ := hrel
    by_cases hlt : t < 64
    · have hlti : (t : Int) < 64 := by omega
      obtain ⟨k1, k2, k3, k4⟩ := HLP.out _ hbut
      have hcF : ∀ i : KB wr [g, g7], i.v.cell? ⟨g, t, none⟩ = some (.int .u64 (F t : Int)) := fun i => (i.cell (by simp) _).trans (k1.cell (by omega))
      have hcw : ∀ i : KB wr [g, g7], i.v.cell? ⟨g7, 0, none⟩ = some (.int .i64 32) := fun i => by
        rw [i.cell (by simp) _, cell_of_row _ _ _ _ _ _ k3]; exact HQ0.out
      have hrd := hrow.next ((Below.refl wr.heap.size wr).drew)
      have HTW : Hid (wr.drew.cell? ⟨g + 2, t, none⟩ = some (.int .u64 ((if t < t then ofS 256 F t else 0 : Nat) : Int))) := hrd.cell (by omega)
      have HFW : Hid (wr.drew.frozen? ⟨g + 2, t, none⟩ = false) := hrd.frozen _
      have HST : Hid (∀ (v : Int), v = ((F t / 2 ^ 32 : Nat) : Int) → RowZ (wr.drew.setCell ⟨g + 2, t, none⟩ (.int .u64 v)) (g + 2) .u64 88 82 (fun j => ((if j < t + 1 then ofS 256 F j else 0 : Nat) : Int))) := fun v hv => (hrd.set (k := t) (by omega) _).congr fun j hj => by
        by_cases h : j = t
        · subst h; rw [if_pos rfl, if_pos (by omega), ofS256k F j (by omega), if_pos hlt, hv]
        · rw [if_neg h]
          by_cases h2 : j < t
          · rw [if_pos h2, if_pos (by omega)]
          · rw [if_neg h2, if_neg (by omega)]
      have HSB : Hid (∀ v, But (g + 2) w2 (wr.drew.setCell ⟨g + 2, t, none⟩ v)) := fun v => (hbut.trans (But.of ((Below.refl wr.heap.size wr).drew) (Nat.le_of_lt hrow.lt))).put t v
      have HFL : Hid (F t < 18446744073709551616) := hF t
      clear hbut hrow hrd k1 k2 k3 k4
      generalize hFt : F t = X at *
      clear hFt
      go_wp2_with fail
      refine wp_region_loud [true, true, true, true, true, true, true, true, true, true, true] [g, g7] (by simp) (by kernel_rfl) rfl rfl (by kernel_rfl) (by kernel_rfl) (by kernel_rfl) (by kernel_rfl) (by kernel_rfl) (by kernel_rfl) (fun _ _ _ _ _ h => h) ?_
      simp only [List.dropLast_cons_cons, List.dropLast_singleton, List.getLast_cons_cons, List.getLast_singleton, List.cons_append, List.nil_append, mute, qPick, lPick]
      repeat (go_big_quiet_step (fail))
      refine wpQuiet_nil ?_
      simp only [LoudW]
      have d1 := HTW.out
      have f1 := HFW.out
      clear hcF hcw
      generalize wr.drew = wd at *
      go_wp2_with fail
      go_roundw
      case rel =>
        first
        | exact ⟨t + 1, by omega, by go_num, HST.out _ (by simp), HSB.out _⟩
        | ((repeat apply Exists.intro); refine And.intro ?_ rfl; exact ⟨t + 1, by omega, by go_num, HST.out _ (by simp), HSB.out _⟩)
      case measure => simp [intOf]; omega
    · obtain rfl : t = 64 := by omega
      have Y3 : Hid (RowZ wr (g + 2) .u64 88 82 (fun j => ((if j < 80 + 0 then ofS 256 F j else 0 : Nat) : Int))) := hrow.congr fun j hj => by
        by_cases h : j < 64
        · rw [if_pos h, if_pos (by omega)]
        · rw [if_neg h]
          by_cases h2 : j < 80 + 0
          · rw [if_pos h2, ofS256k F j (by omega), if_neg h]
          · rw [if_neg h2]
      have YB := hidD hbut
      clear hrow hbut
      obtain ⟨wl, hwl⟩ : ∃ wl : World, wl = wr := ⟨_, rfl⟩
      subst hwl
      go_wp2_with fail
      go_loopw [30] (fun iv wr => ∃ i : Nat, i ≤ 8 ∧ iv = .int .i64 (i : Int) ∧ RowZ wr (g + 2) .u64 88 82 (fun j => ((if j < 80 + i then ofS 256 F j else 0 : Nat) : Int)) ∧ But (g + 2) w2 wr) (fun iv _ => 8 - (intOf iv).toNat)
      case atStart => exact ⟨0, Nat.zero_le _, rfl, Y3.out, YB.out⟩
      case round =>
        clear Y3 YB
        obtain ⟨i, hi, rfl, hrow, hbut⟩ := hrel
        by_cases hlt : i < 8
        · have hlti : (i : Int) < 8 := by omega
          obtain ⟨k1, k2, k3, k4⟩ := HLP.out _ hbut
          have hs8 : (8 : Int) + (i : Int) = ((8 + i : Nat) : Int) := by omega
          have hcA : ∀ x : BW wr, x.v.cell? ⟨g, 80 + i, none⟩ = some (.int .u64 (F (80 + i) : Int)) := fun x => (k1.next x.below).cell (by omega)
          have hcB : ∀ x : BW wr, x.v.cell? ⟨g, 80 + (8 + i), none⟩ = some (.int .u64 (F (88 + i) : Int)) := fun x => by rw [(k1.next x.below).cell (by omega), show 80 + (8 + i) = 88 + i by omega]
          have HTW : Hid (∀ x : BW wr, x.v.cell? ⟨g + 2, 80 + i, none⟩ = some (.int .u64 ((if 80 + i < 80 + i then ofS 256 F (80 + i) else 0 : Nat) : Int))) := fun x => (hrow.next x.below).cell (by omega)
          have HFW : Hid (∀ x : BW wr, x.v.frozen? ⟨g + 2, 80 + i, none⟩ = false) := fun x => (hrow.next x.below).frozen _
          have HST : Hid (∀ (x : BW wr) (v : Int), v = ((ofS 256 F (80 + i) : Nat) : Int) → RowZ (x.v.setCell ⟨g + 2, 80 + i, none⟩ (.int .u64 v)) (g + 2) .u64 88 82 (fun j => ((if j < 80 + (i + 1) then ofS 256 F j else 0 : Nat) : Int))) := fun x v hv => ((hrow.next x.below).set (k := 80 + i) (by omega) _).congr fun j hj => by
            by_cases h : j = 80 + i
            · subst h; rw [if_pos rfl, if_pos (by omega), hv]
            · rw [if_neg h]
              by_cases h2 : j < 80 + i
              · rw [if_pos h2, if_pos (by omega)]
              · rw [if_neg h2, if_neg (by omega)]
          have HSB : Hid (∀ (x : BW wr) v, But (g + 2) w2 (x.v.setCell ⟨g + 2, 80 + i, none⟩ v)) := fun x v => (hbut.trans (But.of x.below (Nat.le_of_lt hrow.lt))).put (80 + i) v
          have HOE := hidD (ofS256h F i)
          have hFA := hF (80 + i)
          have hFB := hF (88 + i)
          clear hbut hrow k1 k2 k3 k4
          generalize hFa : F (80 + i) = XA at *
          generalize hFb : F (88 + i) = XB at *
          clear hFa hFb
          generalize hi8 : 8 + i = i8 at *
          have HI8 : Hid (i8 < 16) := by show _ < _; omega
          have hi16 : i8 < 16 := by omega
          clear hi8
          go_wp2_with fail
          refine wp_region_below (by kernel_rfl) (by kernel_rfl) ?_
          repeat (go_big_quiet_step (fail))
          refine wpQuiet_nil ?_
          intro x
          have d1 := HTW.out x
          have f1 := HFW.out x
          clear hcA hcB
          go_wp2_with fail
          go_roundw
          case rel =>
            first
            | exact ⟨i + 1, by omega, by go_num, HST.out _ _ (by rw [HOE.out] <;> first | rfl | simp | omega), HSB.out _ _⟩
            | ((repeat apply Exists.intro); refine And.intro ?_ rfl; exact ⟨i + 1, by omega, by go_num, HST.out _ _ (by rw [HOE.out] <;> first | rfl | simp | omega), HSB.out _ _⟩)
          case measure => simp [intOf]; omega
        · obtain rfl : i = 8 := by omega
          obtain ⟨k1, k2, k3, k4⟩ := HLP.out _ hbut
          have HL : Hid (wr.heap[g + 2]? = some (.cells (rowZ .u64 88 (fun j => (ofS 256 F j : Int))) (82 : TypeId) (0, 0))) := hrow.congr fun j hj => by rw [if_pos (by omega)]
          have HO : Hid (wr.heap[g + 1]? = some (.cells (rowZ .u64 88 (fun _ => 0)) (82 : TypeId) (0, 0))) := k2
          have HBL := hidD k4
          have HONE : Hid ((rowZ .u64 88 (fun j => (ofS 256 F j : Int))).all (·.oneCell') = true) := rowZ_one _ _ _
          have h4 : (rowZ .u64 88 (fun j => (ofS 256 F j : Int))).size = 88 := rowZ_size _ _ _
          have h0 : (rowZ .u64 88 (fun _ => 0)).size = 88 := rowZ_size _ _ _
          clear hrow hbut k1 k2 k3 k4 hz hy
          generalize hC : rowZ .u64 88 (fun j => (ofS 256 F j : Int)) = C at *
          have HCE := hidD hC
          clear hC
          generalize rowZ .u64 88 (fun _ => 0) = C0 at *
          have hi : Hid ((Try.prog.info? 82).map (·.size) = some C.size) := by show _ = _; rw [HSZ.out, h4]
          have HSS : Hid (C0.size = C.size) := by show _ = _; rw [h0, h4]
          clear h0 h4
          go_wp2_with (first | (refine wpList_load_row rfl 82 _ rfl (g + 2) rfl 82 C (0, 0) _ HL.out Try.underlying82 rfl hi.out ?_) | (refine wpList_store_row rfl 82 _ _ rfl (g + 1) C rfl rfl 82 C0 HO.out hi.out HSS.out HONE.out ?_))
          refine bodyPost_ret (results_cell_row (P := Try.prog) (p := 4) (ty := 82) (by kernel_rfl) _ _ (g + 1) 82 C (0, 0) _ rfl (setRow_heap _ _ C0 C 82 (0, 0) HO.out) Try.underlying82 rfl hi.out) rfl ?_
          refine ⟨by rw [HCE.out], ?_⟩
          have hfin : Below g w (wr.setRow (g + 1) C) := below_setRow HBL.out (by omega) _
          rw [HG.out]; exact hfin

theorem ofS384k (F : Nat → Nat) (j : Nat) (h : j < 80) : ofS 384 F j = if j < 80 then F j / 2 ^ 0 else 0 := by unfold ofS; rw [if_pos h]; rfl
theorem ofS384h (F : Nat → Nat) (i : Nat) : ofS 384 F (80 + i) = F (88 + i) := by unfold ofS; rw [if_neg (by omega), show 80 + i - 80 = i by omega]; rfl
set_option maxRecDepth 100000 in
set_option maxHeartbeats 3200000 in
theorem of384_any (F : Nat → Nat) (hF : ∀ j, F j < 18446744073709551616) (w : World) : Calls Try.prog 61 #[.agg (rowZ .u64 96 (fun j => (F j : Int))), .int .i64 384] w fun e w' => e = .returned (.agg (rowZ .u64 88 (fun j => (ofS 384 F j : Int)))) ∧ Below w.heap.size w w' := by
  obtain ⟨hz, hsz⟩ := zero_of_info Try.zero53z
  obtain ⟨hy, hsy⟩ := zero_of_info Try.zero67z
  have HSZ := hidD hsz
  have HSY := hidD hsy
  have HSH : Hid (∀ w, Calls Try.prog 47 #[.int .i64 384] w fun e w' => e = .returned (.agg shW) ∧ Below w.heap.size w w') := fun w => shapeOf_any 384 w
  have HI7 : Hid ((Try.prog.info? 96).map (·.size) = some shW.size) := hsy
  have HS7 : Hid ((#[.int .i64 0, .int .i64 0, .int .i64 0, .int .i64 0, .int .i64 0, .int .i64 0, .int .i64 0, .int .i64 0, .int .i64 0, .int .i64 0, .int .i64 0, .int .i64 0, .int .i64 0, .int .i64 0] : Array Value).size = shW.size) := hidD rfl
  have HO7 : Hid (shW.all (·.oneCell') = true) := hidD (by simp [shW, Value.oneCell'])
  have HQ0 : Hid (shW[0]? = some (.int .i64 64)) := hidD rfl
  have HQ1 : Hid (shW[1]? = some (.int .i64 80)) := hidD rfl
  clear hsz hsy
  generalize shW = SH at *
  generalize (#[.int .i64 0, .int .i64 0, .int .i64 0, .int .i64 0, .int .i64 0, .int .i64 0, .int .i64 0, .int .i64 0, .int .i64 0, .int .i64 0, .int .i64 0, .int .i64 0, .int .i64 0, .int .i64 0] : Array Value) = Z7 at *
  obtain ⟨b1, b2, b3, b4⟩ := three_blocks w (rowZ .u64 96 (fun j => (F j : Int))) (rowZ .u64 88 (fun _ => 0)) (rowZ .u64 88 (fun _ => 0)) 109 82 82
  have W1 := hidD b1
  have W2 := hidD b2
  have W3 := hidD b3
  have W4 := hidD b4
  clear b1 b2 b3 b4
  go_enter Try.func61, Try.ntmps61
  go_wp2_with (first
    | (go_at_call 47; refine (HSH.out _).mono ?_; rintro e w1 ⟨rfl, hb⟩; have V1 := hidD ((hb.block _ (row_lt W1.out)).trans W1.out); have V2 := hidD ((hb.block _ (row_lt W2.out)).trans W2.out); have V3 := hidD ((hb.block _ (row_lt W3.out)).trans W3.out); have V4 : Hid (Below w.heap.size w w1) := Below.next W4.out hb; have hl := row_lt V3.out; have VA : Hid ((w1.alloc (.cells Z7 (96 : TypeId))).heap[w1.heap.size]? = some (.cells Z7 (96 : TypeId) (0, 0))) := heap_alloc_last _ _; have VL : Hid (w.heap.size + 2 < w1.heap.size) := hl; clear hb hl W1 W2 W3 W4)
    | (refine wpList_store_row rfl 96 _ _ rfl w1.heap.size SH rfl rfl 96 Z7 VA.out HI7.out HS7.out HO7.out ?_; have HAL := hidD ((Below.refl w1.heap.size w1).alloc (Nat.le_refl _) (.cells Z7 (96 : TypeId))); have U7 := hidD (setRow_heap _ _ _ SH _ _ VA.out); have U1 := hidD ((setRow_other (w1.alloc (.cells Z7 (96 : TypeId))) w1.heap.size w.heap.size SH (by have := VL.out; omega)).trans ((HAL.out.block _ (row_lt V1.out)).trans V1.out)); have U2 := hidD ((setRow_other (w1.alloc (.cells Z7 (96 : TypeId))) w1.heap.size (w.heap.size + 1) SH (by have := VL.out; omega)).trans ((HAL.out.block _ (row_lt V2.out)).trans V2.out)); have U3 := hidD ((setRow_other (w1.alloc (.cells Z7 (96 : TypeId))) w1.heap.size (w.heap.size + 2) SH (by have := VL.out; omega)).trans ((HAL.out.block _ (row_lt V3.out)).trans V3.out)); have U4 := hidD (below_setRow (Below.next V4.out HAL.out) (g := w1.heap.size) V4.out.size SH); clear VA V1 V2 V3 V4 HAL; generalize (w1.alloc (.cells Z7 (96 : TypeId))).setRow w1.heap.size SH = w2 at *; have c7a : w2.cell? ⟨w1.heap.size, 1, none⟩ = some (.int .i64 80) := by rw [cell_of_row _ _ _ _ _ _ U7.out]; exact HQ1.out))
  generalize hg : w.heap.size = g at *
  have HG := hidD hg
  clear hg
  generalize w1.heap.size = g7 at *
  have X1 : Hid (RowZ w2 g .u64 96 109 (fun j => (F j : Int))) := U1.out
  have X2 : Hid (RowZ w2 (g + 1) .u64 88 82 (fun _ => 0)) := U2.out
  have X3 : Hid (RowZ w2 (g + 2) .u64 88 82 (fun j => ((if j < 0 then ofS 384 F j else 0 : Nat) : Int))) := (show RowZ w2 (g + 2) .u64 88 82 (fun _ => 0) from U3.out).congr fun j _ => by rw [if_neg (by omega)]; rfl
  clear c7a U1 U2 U3
  have hLOOP : ∀ wA : World, But (g + 2) w2 wA → RowZ wA g .u64 96 109 (fun j => (F j : Int)) ∧ RowZ wA (g + 1) .u64 88 82 (fun _ => 0) ∧ wA.heap[g7]? = some (.cells SH (96 : TypeId) (0, 0)) ∧ Below g w wA := fun wA h => ⟨(h.rest _ (row_lt X1.out) (by omega)).trans X1.out, (h.rest _ (row_lt X2.out) (by omega)).trans X2.out, (h.rest _ (row_lt U7.out) (by have := VL.out; omega)).trans U7.out, U4.out.trans (h.bel.mono (by omega))⟩
  have HLP := hidD hLOOP
  clear hLOOP X1 X2 U7
  go_loopw [15] (fun tv wr => ∃ t : Nat, t ≤ 80 ∧ tv = .int .i64 (t : Int) ∧ RowZ wr (g + 2) .u64 88 82 (fun j => ((if j < t then ofS 384 F j else 0 : Nat) : Int)) ∧ But (g + 2) w2 wr) (fun tv _ => 80 - (intOf tv).toNat)
  case atStart => exact ⟨0, Nat.zero_le _, rfl, X3.out, But.refl _ _⟩
  case round =>
    clear X3
    obtain ⟨t, ht, rfl, hrow, hbut⟩ := hrel
    by_cases hlt : t < 80
    · have hlti : (t : Int) < 80 := by omega
      obtain ⟨k1, k2, k3, k4⟩ := HLP.out _ hbut
      have hcF : ∀ i : KB wr [g, g7], i.v.cell? ⟨g, t, none⟩ = some (.int .u64 (F t : Int)) := fun i => (i.cell (by simp) _).trans (k1.cell (by omega))
      have hcw : ∀ i : KB wr [g, g7], i.v.cell? ⟨g7, 0, none⟩ = some (.int .i64 64) := fun i => by
        rw [i.cell (by simp) _, cell_of_row _ _ _ _ _ _ k3]; exact HQ0.out
      have hrd := hrow.next ((Below.refl wr.heap.size wr).drew)
      have HTW : Hid (wr.drew.cell? ⟨g + 2, t, none⟩ = some (.int .u64 ((if t < t then ofS 384 F t else 0 : Nat) : Int))) := hrd.cell (by omega)
      have HFW : Hid (wr.drew.frozen? ⟨g + 2, t, none⟩ = false) := hrd.frozen _
      have HST : Hid (∀ (v : Int), v = ((F t / 2 ^ 0 : Nat) : Int) → RowZ (wr.drew.setCell ⟨g + 2, t, none⟩ (.int .u64 v)) (g + 2) .u64 88 82 (fun j => ((if j < t + 1 then ofS 384 F j else 0 : Nat) : Int))) := fun v hv => (hrd.set (k := t) (by omega) _).congr fun j hj => by
        by_cases h : j = t
        · subst h; rw [if_pos rfl, if_pos (by omega), ofS384k F j (by omega), if_pos hlt, hv]
        · rw [if_neg h]
          by_cases h2 : j < t
          · rw [if_pos h2, if_pos (by omega)]
          · rw [if_neg h2, if_neg (by omega)]
      have HSB : Hid (∀ v, But (g + 2) w2 (wr.drew.setCell ⟨g + 2, t, none⟩ v)) := fun v => (hbut.trans (But.of ((Below.refl wr.heap.size wr).drew) (Nat.le_of_lt hrow.lt))).put t v
      have HFL : Hid (F t < 18446744073709551616) := hF t
      clear hbut hrow hrd k1 k2 k3 k4
      generalize hFt : F t = X at *
      clear hFt
      go_wp2_with fail
      refine wp_region_loud [true, true, true, true, true, true, true, true, true, true, true] [g, g7] (by simp) (by kernel_rfl) rfl rfl (by kernel_rfl) (by kernel_rfl) (by kernel_rfl) (by kernel_rfl) (by kernel_rfl) (by kernel_rfl) (fun _ _ _ _ _ h => h) ?_
      simp only [List.dropLast_cons_cons, List.dropLast_singleton, List.getLast_cons_cons, List.getLast_singleton, List.cons_append, List.nil_append, mute, qPick, lPick]
      repeat (go_big_quiet_step (fail))
      refine wpQuiet_nil ?_
      simp only [LoudW]
      have d1 := HTW.out
      have f1 := HFW.out
      clear hcF hcw
      generalize wr.drew = wd at *
      go_wp2_with fail
      go_roundw
      case rel =>
        first
        | exact ⟨t + 1, by omega, by go_num, HST.out _ (by simp), HSB.out _⟩
        | ((repeat apply Exists.intro); refine And.intro ?_ rfl; exact ⟨t + 1, by omega, by go_num, HST.out _ (by simp), HSB.out _⟩)
      case measure => simp [intOf]; omega
    · obtain rfl : t = 80 := by omega
      have Y3 : Hid (RowZ wr (g + 2) .u64 88 82 (fun j => ((if j < 80 + 0 then ofS 384 F j else 0 : Nat) : Int))) := hrow
      have YB := hidD hbut
      clear hrow hbut
      obtain ⟨wl, hwl⟩ : ∃ wl : World, wl = wr := ⟨_, rfl⟩
      subst hwl
      go_wp2_with fail
      go_loopw [30] (fun iv wr => ∃ i : Nat, i ≤ 8 ∧ iv = .int .i64 (i : Int) ∧ RowZ wr (g + 2) .u64 88 82 (fun j => ((if j < 80 + i then ofS 384 F j else 0 : Nat) : Int)) ∧ But (g + 2) w2 wr) (fun iv _ => 8 - (intOf iv).toNat)
      case atStart => exact ⟨0, Nat.zero_le _, rfl, Y3.out, YB.out⟩
      case round =>
        clear Y3 YB
        obtain ⟨i, hi, rfl, hrow, hbut⟩ := hrel
        by_cases hlt : i < 8
        · have hlti : (i : Int) < 8 := by omega
          obtain ⟨k1, k2, k3, k4⟩ := HLP.out _ hbut
          have hs8 : (8 : Int) + (i : Int) = ((8 + i : Nat) : Int) := by omega
          have hcA : ∀ x : BW wr, x.v.cell? ⟨g, 80 + i, none⟩ = some (.int .u64 (F (80 + i) : Int)) := fun x => (k1.next x.below).cell (by omega)
          have hcB : ∀ x : BW wr, x.v.cell? ⟨g, 80 + (8 + i), none⟩ = some (.int .u64 (F (88 + i) : Int)) := fun x => by rw [(k1.next x.below).cell (by omega), show 80 + (8 + i) = 88 + i by omega]
          have HTW : Hid (∀ x : BW wr, x.v.cell? ⟨g + 2, 80 + i, none⟩ = some (.int .u64 ((if 80 + i < 80 + i then ofS 384 F (80 + i) else 0 : Nat) : Int))) := fun x => (hrow.next x.below).cell (by omega)
          have HFW : Hid (∀ x : BW wr, x.v.frozen? ⟨g + 2, 80 + i, none⟩ = false) := fun x => (hrow.next x.below).frozen _
          have HST : Hid (∀ (x : BW wr) (v : Int), v = ((ofS 384 F (80 + i) : Nat) : Int) → RowZ (x.v.setCell ⟨g + 2, 80 + i, none⟩ (.int .u64 v)) (g + 2) .u64 88 82 (fun j => ((if j < 80 + (i + 1) then ofS 384 F j else 0 : Nat) : Int))) := fun x v hv => ((hrow.next x.below).set (k := 80 + i) (by omega) _).congr fun j hj => by
            by_cases h : j = 80 + i
            · subst h; rw [if_pos rfl, if_pos (by omega), hv]
            · rw [if_neg h]
              by_cases h2 : j < 80 + i
              · rw [if_pos h2, if_pos (by omega)]
              · rw [if_neg h2, if_neg (by omega)]
          have HSB : Hid (∀ (x : BW wr) v, But (g + 2) w2 (x.v.setCell ⟨g + 2, 80 + i, none⟩ v)) := fun x v => (hbut.trans (But.of x.below (Nat.le_of_lt hrow.lt))).put (80 + i) v
          have HOE := hidD (ofS384h F i)
          have hFA := hF (80 + i)
          have hFB := hF (88 + i)
          clear hbut hrow k1 k2 k3 k4
          generalize hFa : F (80 + i) = XA at *
          generalize hFb : F (88 + i) = XB at *
          clear hFa hFb
          generalize hi8 : 8 + i = i8 at *
          have HI8 : Hid (i8 < 16) := by show _ < _; omega
          have hi16 : i8 < 16 := by omega
          clear hi8
          go_wp2_with fail
          refine wp_region_below (by kernel_rfl) (by kernel_rfl) ?_
          repeat (go_big_quiet_step (fail))
          refine wpQuiet_nil ?_
          intro x
          have d1 := HTW.out x
          have f1 := HFW.out x
          clear hcA hcB
          go_wp2_with fail
          go_roundw
          case rel =>
            first
            | exact ⟨i + 1, by omega, by go_num, HST.out _ _ (by rw [HOE.out] <;> first | rfl | simp | omega), HSB.out _ _⟩
            | ((repeat apply Exists.intro); refine And.intro ?_ rfl; exact ⟨i + 1, by omega, by go_num, HST.out _ _ (by rw [HOE.out] <;> first | rfl | simp | omega), HSB.out _ _⟩)
          case measure => simp [intOf]; omega
        · obtain rfl : i = 8 := by omega
          obtain ⟨k1, k2, k3, k4⟩ := HLP.out _ hbut
          have HL : Hid (wr.heap[g + 2]? = some (.cells (rowZ .u64 88 (fun j => (ofS 384 F j : Int))) (82 : TypeId) (0, 0))) := hrow.congr fun j hj => by rw [if_pos (by omega)]
          have HO : Hid (wr.heap[g + 1]? = some (.cells (rowZ .u64 88 (fun _ => 0)) (82 : TypeId) (0, 0))) := k2
          have HBL := hidD k4
          have HONE : Hid ((rowZ .u64 88 (fun j => (ofS 384 F j : Int))).all (·.oneCell') = true) := rowZ_one _ _ _
          have h4 : (rowZ .u64 88 (fun j => (ofS 384 F j : Int))).size = 88 := rowZ_size _ _ _
          have h0 : (rowZ .u64 88 (fun _ => 0)).size = 88 := rowZ_size _ _ _
          clear hrow hbut k1 k2 k3 k4 hz hy
          generalize hC : rowZ .u64 88 (fun j => (ofS 384 F j : Int)) = C at *
          have HCE := hidD hC
          clear hC
          generalize rowZ .u64 88 (fun _ => 0) = C0 at *
          have hi : Hid ((Try.prog.info? 82).map (·.size) = some C.size) := by show _ = _; rw [HSZ.out, h4]
          have HSS : Hid (C0.size = C.size) := by show _ = _; rw [h0, h4]
          clear h0 h4
          go_wp2_with (first | (refine wpList_load_row rfl 82 _ rfl (g + 2) rfl 82 C (0, 0) _ HL.out Try.underlying82 rfl hi.out ?_) | (refine wpList_store_row rfl 82 _ _ rfl (g + 1) C rfl rfl 82 C0 HO.out hi.out HSS.out HONE.out ?_))
          refine bodyPost_ret (results_cell_row (P := Try.prog) (p := 4) (ty := 82) (by kernel_rfl) _ _ (g + 1) 82 C (0, 0) _ rfl (setRow_heap _ _ C0 C 82 (0, 0) HO.out) Try.underlying82 rfl hi.out) rfl ?_
          refine ⟨by rw [HCE.out], ?_⟩
          have hfin : Below g w (wr.setRow (g + 1) C) := below_setRow HBL.out (by omega) _
          rw [HG.out]; exact hfin

theorem ofS512k (F : Nat → Nat) (j : Nat) (h : j < 80) : ofS 512 F j = if j < 80 then F j / 2 ^ 0 else 0 := by unfold ofS; rw [if_pos h]; rfl
theorem ofS512h (F : Nat → Nat) (i : Nat) : ofS 512 F (80 + i) = F (80 + i) := by unfold ofS; rw [if_neg (by omega), show 80 + i - 80 = i by omega]; rfl
set_option maxRecDepth 100000 in
set_option maxHeartbeats 3200000 in
theorem of512_any (F : Nat → Nat) (hF : ∀ j, F j < 18446744073709551616) (w : World) : Calls Try.prog 61 #[.agg (rowZ .u64 96 (fun j => (F j : Int))), .int .i64 512] w fun e w' => e = .returned (.agg (rowZ .u64 88 (fun j => (ofS 512 F j : Int)))) ∧ Below w.heap.size w w' := by
  obtain ⟨hz, hsz⟩ := zero_of_info Try.zero53z
  obtain ⟨hy, hsy⟩ := zero_of_info Try.zero67z
  have HSZ := hidD hsz
  have HSY := hidD hsy
  have HSH : Hid (∀ w, Calls Try.prog 47 #[.int .i64 512] w fun e w' => e = .returned (.agg shW) ∧ Below w.heap.size w w') := fun w => shapeOf_any 512 w
  have HI7 : Hid ((Try.prog.info? 96).map (·.size) = some shW.size) := hsy
  have HS7 : Hid ((#[.int .i64 0, .int .i64 0, .int .i64 0, .int .i64 0, .int .i64 0, .int .i64 0, .int .i64 0, .int .i64 0, .int .i64 0, .int .i64 0, .int .i64 0, .int .i64 0, .int .i64 0, .int .i64 0] : Array Value).size = shW.size) := hidD rfl
  have HO7 : Hid (shW.all (·.oneCell') = true) := hidD (by simp [shW, Value.oneCell'])
  have HQ0 : Hid (shW[0]? = some (.int .i64 64)) := hidD rfl
  have HQ1 : Hid (shW[1]? = some (.int .i64 80)) := hidD rfl
  clear hsz hsy
  generalize shW = SH at *
  generalize (#[.int .i64 0, .int .i64 0, .int .i64 0, .int .i64 0, .int .i64 0, .int .i64 0, .int .i64 0, .int .i64 0, .int .i64 0, .int .i64 0, .int .i64 0, .int .i64 0, .int .i64 0, .int .i64 0] : Array Value) = Z7 at *
  obtain ⟨b1, b2, b3, b4⟩ := three_blocks w (rowZ .u64 96 (fun j => (F j : Int))) (rowZ .u64 88 (fun _ => 0)) (rowZ .u64 88 (fun _ => 0)) 109 82 82
  have W1 := hidD b1
  have W2 := hidD b2
  have W3 := hidD b3
  have W4 := hidD b4
  clear b1 b2 b3 b4
  go_enter Try.func61, Try.ntmps61
  go_wp2_with (first
    | (go_at_call 47; refine (HSH.out _).mono ?_; rintro e w1 ⟨rfl, hb⟩; have V1 := hidD ((hb.block _ (row_lt W1.out)).trans W1.out); have V2 := hidD ((hb.block _ (row_lt W2.out)).trans W2.out); have V3 := hidD ((hb.block _ (row_lt W3.out)).trans W3.out); have V4 : Hid (Below w.heap.size w w1) := Below.next W4.out hb; have hl := row_lt V3.out; have VA : Hid ((w1.alloc (.cells Z7 (96 : TypeId))).heap[w1.heap.size]? = some (.cells Z7 (96 : TypeId) (0, 0))) := heap_alloc_last _ _; have VL : Hid (w.heap.size + 2 < w1.heap.size) := hl; clear hb hl W1 W2 W3 W4)
    | (refine wpList_store_row rfl 96 _ _ rfl w1.heap.size SH rfl rfl 96 Z7 VA.out HI7.out HS7.out HO7.out ?_; have HAL := hidD ((Below.refl w1.heap.size w1).alloc (Nat.le_refl _) (.cells Z7 (96 : TypeId))); have U7 := hidD (setRow_heap _ _ _ SH _ _ VA.out); have U1 := hidD ((setRow_other (w1.alloc (.cells Z7 (96 : TypeId))) w1.heap.size w.heap.size SH (by have := VL.out; omega)).trans ((HAL.out.block _ (row_lt V1.out)).trans V1.out)); have U2 := hidD ((setRow_other (w1.alloc (.cells Z7 (96 : TypeId))) w1.heap.size (w.heap.size + 1) SH (by have := VL.out; omega)).trans ((HAL.out.block _ (row_lt V2.out)).trans V2.out)); have U3 := hidD ((setRow_other (w1.alloc (.cells Z7 (96 : TypeId))) w1.heap.size (w.heap.size + 2) SH (by have := VL.out; omega)).trans ((HAL.out.block _ (row_lt V3.out)).trans V3.out)); have U4 := hidD (below_setRow (Below.next V4.out HAL.out) (g := w1.heap.size) V4.out.size SH); clear VA V1 V2 V3 V4 HAL; generalize (w1.alloc (.cells Z7 (96 : TypeId))).setRow w1.heap.size SH = w2 at *; have c7a : w2.cell? ⟨w1.heap.size, 1, none⟩ = some (.int .i64 80) := by rw [cell_of_row _ _ _ _ _ _ U7.out]; exact HQ1.out))
  generalize hg : w.heap.size = g at *
  have HG := hidD hg
  clear hg
  generalize w1.heap.size = g7 at *
  have X1 : Hid (RowZ w2 g .u64 96 109 (fun j => (F j : Int))) := U1.out
  have X2 : Hid (RowZ w2 (g + 1) .u64 88 82 (fun _ => 0)) := U2.out
  have X3 : Hid (RowZ w2 (g + 2) .u64 88 82 (fun j => ((if j < 0 then ofS 512 F j else 0 : Nat) : Int))) := (show RowZ w2 (g + 2) .u64 88 82 (fun _ => 0) from U3.out).congr fun j _ => by rw [if_neg (by omega)]; rfl
  clear c7a U1 U2 U3
  have hLOOP : ∀ wA : World, But (g + 2) w2 wA → RowZ wA g .u64 96 109 (fun j => (F j : Int)) ∧ RowZ wA (g + 1) .u64 88 82 (fun _ => 0) ∧ wA.heap[g7]? = some (.cells SH (96 : TypeId) (0, 0)) ∧ Below g w wA := fun wA h => ⟨(h.rest _ (row_lt X1.out) (by omega)).trans X1.out, (h.rest _ (row_lt X2.out) (by omega)).trans X2.out, (h.rest _ (row_lt U7.out) (by have := VL.out; omega)).trans U7.out, U4.out.trans (h.bel.mono (by omega))⟩
  have HLP := hidD hLOOP
  clear hLOOP X1 X2 U7
  go_loopw [15] (fun tv wr => ∃ t : Nat, t ≤ 80 ∧ tv = .int .i64 (t : Int) ∧ RowZ wr (g + 2) .u64 88 82 (fun j => ((if j < t then ofS 512 F j else 0 : Nat) : Int)) ∧ But (g + 2) w2 wr) (fun tv _ => 80 - (intOf tv).toNat)
  case atStart => exact ⟨0, Nat.zero_le _, rfl, X3.out, But.refl _ _⟩
  case round =>
    clear X3
    obtain ⟨t, ht, rfl, hrow, hbut⟩ := hrel
    by_cases hlt : t < 80
    · have hlti : (t : Int) < 80 := by omega
      obtain ⟨k1, k2, k3, k4⟩ := HLP.out _ hbut
      have hcF : ∀ i : KB wr [g, g7], i.v.cell? ⟨g, t, none⟩ = some (.int .u64 (F t : Int)) := fun i => (i.cell (by simp) _).trans (k1.cell (by omega))
      have hcw : ∀ i : KB wr [g, g7], i.v.cell? ⟨g7, 0, none⟩ = some (.int .i64 64) := fun i => by
        rw [i.cell (by simp) _, cell_of_row _ _ _ _ _ _ k3]; exact HQ0.out
      have hrd := hrow.next ((Below.refl wr.heap.size wr).drew)
      have HTW : Hid (wr.drew.cell? ⟨g + 2, t, none⟩ = some (.int .u64 ((if t < t then ofS 512 F t else 0 : Nat) : Int))) := hrd.cell (by omega)
      have HFW : Hid (wr.drew.frozen? ⟨g + 2, t, none⟩ = false) := hrd.frozen _
      have HST : Hid (∀ (v : Int), v = ((F t / 2 ^ 0 : Nat) : Int) → RowZ (wr.drew.setCell ⟨g + 2, t, none⟩ (.int .u64 v)) (g + 2) .u64 88 82 (fun j => ((if j < t + 1 then ofS 512 F j else 0 : Nat) : Int))) := fun v hv => (hrd.set (k := t) (by omega) _).congr fun j hj => by
        by_cases h : j = t
        · subst h; rw [if_pos rfl, if_pos (by omega), ofS512k F j (by omega), if_pos hlt, hv]
        · rw [if_neg h]
          by_cases h2 : j < t
          · rw [if_pos h2, if_pos (by omega)]
          · rw [if_neg h2, if_neg (by omega)]
      have HSB : Hid (∀ v, But (g + 2) w2 (wr.drew.setCell ⟨g + 2, t, none⟩ v)) := fun v => (hbut.trans (But.of ((Below.refl wr.heap.size wr).drew) (Nat.le_of_lt hrow.lt))).put t v
      have HFL : Hid (F t < 18446744073709551616) := hF t
      clear hbut hrow hrd k1 k2 k3 k4
      generalize hFt : F t = X at *
      clear hFt
      go_wp2_with fail
      refine wp_region_loud [true, true, true, true, true, true, true, true, true, true, true] [g, g7] (by simp) (by kernel_rfl) rfl rfl (by kernel_rfl) (by kernel_rfl) (by kernel_rfl) (by kernel_rfl) (by kernel_rfl) (by kernel_rfl) (fun _ _ _ _ _ h => h) ?_
      simp only [List.dropLast_cons_cons, List.dropLast_singleton, List.getLast_cons_cons, List.getLast_singleton, List.cons_append, List.nil_append, mute, qPick, lPick]
      repeat (go_big_quiet_step (fail))
      refine wpQuiet_nil ?_
      simp only [LoudW]
      have d1 := HTW.out
      have f1 := HFW.out
      clear hcF hcw
      generalize wr.drew = wd at *
      go_wp2_with fail
      go_roundw
      case rel =>
        first
        | exact ⟨t + 1, by omega, by go_num, HST.out _ (by simp), HSB.out _⟩
        | ((repeat apply Exists.intro); refine And.intro ?_ rfl; exact ⟨t + 1, by omega, by go_num, HST.out _ (by simp), HSB.out _⟩)
      case measure => simp [intOf]; omega
    · obtain rfl : t = 80 := by omega
      have Y3 : Hid (RowZ wr (g + 2) .u64 88 82 (fun j => ((if j < 80 + 0 then ofS 512 F j else 0 : Nat) : Int))) := hrow
      have YB := hidD hbut
      clear hrow hbut
      obtain ⟨wl, hwl⟩ : ∃ wl : World, wl = wr := ⟨_, rfl⟩
      subst hwl
      go_wp2_with fail
      go_loopw [30] (fun iv wr => ∃ i : Nat, i ≤ 8 ∧ iv = .int .i64 (i : Int) ∧ RowZ wr (g + 2) .u64 88 82 (fun j => ((if j < 80 + i then ofS 512 F j else 0 : Nat) : Int)) ∧ But (g + 2) w2 wr) (fun iv _ => 8 - (intOf iv).toNat)
      case atStart => exact ⟨0, Nat.zero_le _, rfl, Y3.out, YB.out⟩
      case round =>
        clear Y3 YB
        obtain ⟨i, hi, rfl, hrow, hbut⟩ := hrel
        by_cases hlt : i < 8
        · have hlti : (i : Int) < 8 := by omega
          obtain ⟨k1, k2, k3, k4⟩ := HLP.out _ hbut
          have hs8 : (8 : Int) + (i : Int) = ((8 + i : Nat) : Int) := by omega
          have hcA : ∀ x : BW wr, x.v.cell? ⟨g, 80 + i, none⟩ = some (.int .u64 (F (80 + i) : Int)) := fun x => (k1.next x.below).cell (by omega)
          have hcB : ∀ x : BW wr, x.v.cell? ⟨g, 80 + (8 + i), none⟩ = some (.int .u64 (F (88 + i) : Int)) := fun x => by rw [(k1.next x.below).cell (by omega), show 80 + (8 + i) = 88 + i by omega]
          have HTW : Hid (∀ x : BW wr, x.v.cell? ⟨g + 2, 80 + i, none⟩ = some (.int .u64 ((if 80 + i < 80 + i then ofS 512 F (80 + i) else 0 : Nat) : Int))) := fun x => (hrow.next x.below).cell (by omega)
          have HFW : Hid (∀ x : BW wr, x.v.frozen? ⟨g + 2, 80 + i, none⟩ = false) := fun x => (hrow.next x.below).frozen _
          have HST : Hid (∀ (x : BW wr) (v : Int), v = ((ofS 512 F (80 + i) : Nat) : Int) → RowZ (x.v.setCell ⟨g + 2, 80 + i, none⟩ (.int .u64 v)) (g + 2) .u64 88 82 (fun j => ((if j < 80 + (i + 1) then ofS 512 F j else 0 : Nat) : Int))) := fun x v hv => ((hrow.next x.below).set (k := 80 + i) (by omega) _).congr fun j hj => by
            by_cases h : j = 80 + i
            · subst h; rw [if_pos rfl, if_pos (by omega), hv]
            · rw [if_neg h]
              by_cases h2 : j < 80 + i
              · rw [if_pos h2, if_pos (by omega)]
              · rw [if_neg h2, if_neg (by omega)]
          have HSB : Hid (∀ (x : BW wr) v, But (g + 2) w2 (x.v.setCell ⟨g + 2, 80 + i, none⟩ v)) := fun x v => (hbut.trans (But.of x.below (Nat.le_of_lt hrow.lt))).put (80 + i) v
          have HOE := hidD (ofS512h F i)
          have hFA := hF (80 + i)
          have hFB := hF (88 + i)
          clear hbut hrow k1 k2 k3 k4
          generalize hFa : F (80 + i) = XA at *
          generalize hFb : F (88 + i) = XB at *
          clear hFa hFb
          generalize hi8 : 8 + i = i8 at *
          have HI8 : Hid (i8 < 16) := by show _ < _; omega
          have hi16 : i8 < 16 := by omega
          clear hi8
          go_wp2_with fail
          refine wp_region_below (by kernel_rfl) (by kernel_rfl) ?_
          repeat (go_big_quiet_step (fail))
          refine wpQuiet_nil ?_
          intro x
          have d1 := HTW.out x
          have f1 := HFW.out x
          clear hcA hcB
          go_wp2_with fail
          go_roundw
          case rel =>
            first
            | exact ⟨i + 1, by omega, by go_num, HST.out _ _ (by rw [HOE.out] <;> first | rfl | simp | omega), HSB.out _ _⟩
            | ((repeat apply Exists.intro); refine And.intro ?_ rfl; exact ⟨i + 1, by omega, by go_num, HST.out _ _ (by rw [HOE.out] <;> first | rfl | simp | omega), HSB.out _ _⟩)
          case measure => simp [intOf]; omega
        · obtain rfl : i = 8 := by omega
          obtain ⟨k1, k2, k3, k4⟩ := HLP.out _ hbut
          have HL : Hid (wr.heap[g + 2]? = some (.cells (rowZ .u64 88 (fun j => (ofS 512 F j : Int))) (82 : TypeId) (0, 0))) := hrow.congr fun j hj => by rw [if_pos (by omega)]
          have HO : Hid (wr.heap[g + 1]? = some (.cells (rowZ .u64 88 (fun _ => 0)) (82 : TypeId) (0, 0))) := k2
          have HBL := hidD k4
          have HONE : Hid ((rowZ .u64 88 (fun j => (ofS 512 F j : Int))).all (·.oneCell') = true) := rowZ_one _ _ _
          have h4 : (rowZ .u64 88 (fun j => (ofS 512 F j : Int))).size = 88 := rowZ_size _ _ _
          have h0 : (rowZ .u64 88 (fun _ => 0)).size = 88 := rowZ_size _ _ _
          clear hrow hbut k1 k2 k3 k4 hz hy
          generalize hC : rowZ .u64 88 (fun j => (ofS 512 F j : Int)) = C at *
          have HCE := hidD hC
          clear hC
          generalize rowZ .u64 88 (fun _ => 0) = C0 at *
          have hi : Hid ((Try.prog.info? 82).map (·.size) = some C.size) := by show _ = _; rw [HSZ.out, h4]
          have HSS : Hid (C0.size = C.size) := by show _ = _; rw [h0, h4]
          clear h0 h4
          go_wp2_with (first | (refine wpList_load_row rfl 82 _ rfl (g + 2) rfl 82 C (0, 0) _ HL.out Try.underlying82 rfl hi.out ?_) | (refine wpList_store_row rfl 82 _ _ rfl (g + 1) C rfl rfl 82 C0 HO.out hi.out HSS.out HONE.out ?_))
          refine bodyPost_ret (results_cell_row (P := Try.prog) (p := 4) (ty := 82) (by kernel_rfl) _ _ (g + 1) 82 C (0, 0) _ rfl (setRow_heap _ _ C0 C 82 (0, 0) HO.out) Try.underlying82 rfl hi.out) rfl ?_
          refine ⟨by rw [HCE.out], ?_⟩
          have hfin : Below g w (wr.setRow (g + 1) C) := below_setRow HBL.out (by omega) _
          rw [HG.out]; exact hfin
end Go.Proofs.Ytnldpofljeodiaa
