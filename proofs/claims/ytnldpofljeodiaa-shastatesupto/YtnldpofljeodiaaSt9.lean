/- What Resume of sha answers. -/
import Derived.Test.YtnldpofljeodiaaGu
import Derived.Deep.Cut
namespace Go.Proofs.Ytnldpofljeodiaa
open Go.RowKit
set_option linter.unusedVariables false

theorem Try.zero51z : (Try.prog.info? 80).map (fun i => (i.zero, i.size)) = some (some (.agg (rowZ .u64 8 (fun _ => 0))), 8) := by kernel_rfl
set_option maxRecDepth 100000 in
set_option maxHeartbeats 1600000 in
theorem resume512_any (b : Nat → UInt8) (n : Nat) (hn : n < 18446744073709551616) (hnb : n % 128 = 0) (g0 : Nat) (w : World) (hr : RowZ w g0 .u8 64 5 (fun i => ((b i).toNat : Int))) : Calls Try.prog 24 #[.int .i64 512, .slice (some ⟨g0, 0, none⟩) 64 64, .int .u64 (n : Int)] w fun e w' => ∃ g, e = .returned (.tuple #[.pointer (some ⟨g, 0, none⟩), .int .i64 0]) ∧ w.heap.size ≤ g ∧ StAt w' g 512 ⟨n, fun _ => 0, fun j => beTo b (j * 8) 8⟩ ∧ Below w.heap.size w w' := by
  have hk : Kind 512 := by unfold Kind; omega
  have HSZ : Hid (∀ w, Calls Try.prog 36 #[.int .i64 512] w fun e w' => e = .returned (.tuple #[.int .i64 64, .int .i64 128, .int .i64 0]) ∧ w' = w) := fun w => size_any 512 hk w
  have HCO : Hid (∀ w, Calls Try.prog 45 #[.int .i64 512] w fun e w' => e = .returned (.agg (rowZ .u64 88 (fun j => (coS 512 j : Int)))) ∧ Below w.heap.size w w') := fun w => constants_any 512 hk w
  have HFD : Hid (∀ w : World, (Instr.field 82 (.agg (rowZ .u64 88 (fun j => (coS 512 j : Int)))) 0).run Try.prog w = .ok (.agg (rowZ .u64 80 (fun j => (coS 512 j : Int)))) w) := fun w => field53 _ w
  have HBD : Hid (∀ w : World, (Instr.build 92 #[(0, .int .i64 512), (1, .int .u64 (n : Int)), (3, .agg (rowZ .u64 80 (fun j => (coS 512 j : Int))))]).run Try.prog w = .ok (.agg ((List.range 226).map (stV 512 n (fun _ => 0) (fun _ => 0))).toArray) w) := fun w => by rw [← bV_row 512 n]; exact build63n ((512 : Nat) : Int) (n : Int) (fun j => (coS 512 j : Int)) w
  have HST : Hid (∀ (W : World), StAt (W.alloc (.cells ((List.range 226).map (stV 512 n (fun _ => 0) (fun _ => 0))).toArray (92 : TypeId))) W.heap.size 512 ⟨n, fun _ => 0, fun _ => 0⟩) := fun W => heap_alloc_last _ _
  have HSH : Hid (∀ w, Calls Try.prog 47 #[.int .i64 512] w fun e w' => e = .returned (.agg shW) ∧ Below w.heap.size w w') := fun w => shapeOf_any 512 w
  have HWD : Hid (∀ (i : Nat), i < 8 → ∀ wA, RowZ wA g0 .u8 64 5 (fun i => ((b i).toNat : Int)) → Calls Try.prog 46 #[.slice (some ⟨g0, 0, none⟩) 64 64, .int .i64 (i : Int), .agg shW] wA fun e w' => e = .returned (.int .u64 (beTo b (i * 8) 8 : Int)) ∧ Below wA.heap.size wA w') := fun i hi wA h => wordW_any b g0 0 64 64 i (by omega) (by omega) (by omega) wA h.lt (fun q hq => by rw [Nat.zero_add]; exact h.cell hq)
  have HBL : Hid (∀ j, beTo b (j * 8) 8 < mdK 512) := fun j => beTo_lt b (j * 8) 8
  have HLY : Hid (∀ g w, StAt w g 512 ⟨n, fun _ => 0, fun _ => 0⟩ → Calls Try.prog 48 #[.pointer (some ⟨g, 0, none⟩), .agg (rowZ .u64 8 (fun j => (beTo b (j * 8) 8 : Int)))] w fun e w' => e = .returned (.tuple #[]) ∧ StAt w' g 512 ⟨n, fun _ => 0, fun j => beTo b (j * 8) 8⟩ ∧ But g w w') := fun g w h => lay_any 512 hk g ⟨n, fun _ => 0, fun _ => 0⟩ (fun j => beTo b (j * 8) 8) HBL.out w h
  have hrem : (n : Int).tmod 128 = 0 := by
    have : (n : Int).tmod 128 = ((n % 128 : Nat) : Int) := rfl
    rw [this, hnb]; rfl
  obtain ⟨hz, hsz⟩ := zero_of_info Try.zero51z
  have HR := hidD hr
  have HI8 : Hid (∀ f : Nat → Int, (Try.prog.info? 80).map (·.size) = some (rowZ .u64 8 f).size) := fun f => by rw [hsz, rowZ_size]
  clear hr hsz hnb hk HBL
  generalize shW = SH at *
  generalize hR88 : rowZ .u64 88 (fun j => (coS 512 j : Int)) = R88 at *
  generalize hR80 : rowZ .u64 80 (fun j => (coS 512 j : Int)) = R80 at *
  clear hR88 hR80
  generalize hRB : ((List.range 226).map (stV 512 n (fun _ => 0) (fun _ => 0))).toArray = RB at *
  clear hRB
  have hfd := HFD.out
  go_enter Try.func24, Try.ntmps24
  go_wp2_with (go_at_call 36; refine (HSZ.out _).mono ?_; rintro e wx ⟨rfl, hx⟩; subst wx)
  go_at_call 45
  refine (HCO.out _).mono ?_
  rintro e w1 ⟨rfl, hb1⟩
  have HB1 := hidD hb1
  have HR1 := hidD (HR.out.next hb1)
  clear hb1 HR HCO HSZ
  go_upto_region 7 with (refine wpList_build3 rfl 92 0 1 3 _ _ _ rfl (.int .i64 512) (.int .u64 (n : Int)) (.agg R80) _ rfl rfl rfl (HBD.out _) ?_)
  obtain ⟨W2, hW2⟩ : ∃ W2 : World, W2 = w1.alloc (.cells RB (92 : TypeId)) := ⟨_, rfl⟩
  refine at_world hW2 ?_
  have S2 : Hid (StAt W2 w1.heap.size 512 ⟨n, fun _ => 0, fun _ => 0⟩) := by show StAt _ _ _ _; rw [hW2]; exact HST.out w1
  have hb2 : Below w1.heap.size w1 W2 := by rw [hW2]; exact (Below.refl _ _).alloc (Nat.le_refl _) _
  have R2 := hidD (HR1.out.next hb2)
  have B2 := hidD (Below.next HB1.out hb2)
  have G2 : Hid (w.heap.size ≤ w1.heap.size) := HB1.out.size
  clear hW2 hb2 HR1 HB1 HST HBD hfd HFD hrem
  generalize hg2 : w1.heap.size = g2 at *
  clear hg2
  go_upto_region 8 with fail
  obtain ⟨W3, hW3⟩ : ∃ W3 : World, W3 = W2.alloc (.cells (rowZ .u64 8 (fun _ => 0)) (80 : TypeId)) := ⟨_, rfl⟩
  refine at_world hW3 ?_
  have N3 : Hid (RowZ W3 W2.heap.size .u64 8 80 (fun j => ((if j < 0 then beTo b (j * 8) 8 else 0 : Nat) : Int))) := by
    show RowZ _ _ _ _ _ _
    rw [hW3]; exact (RowZ.new W2 .u64 8 80 (fun _ => 0)).congr fun j _ => by rw [if_neg (Nat.not_lt_zero _)]; rfl
  have hb3 : Below W2.heap.size W2 W3 := by rw [hW3]; exact (Below.refl _ _).alloc (Nat.le_refl _) _
  have S3 := hidD (S2.out.next hb3)
  have R3 := hidD (R2.out.next hb3)
  have B3 := hidD (Below.next B2.out hb3)
  have L3 : Hid (g2 < W2.heap.size ∧ g0 < W2.heap.size ∧ w.heap.size ≤ W2.heap.size) := ⟨S2.out.lt, R2.out.lt, B2.out.size⟩
  clear hW3 hb3 S2 R2 B2
  generalize hg3 : W2.heap.size = g3 at *
  clear hg3
  go_wp2_with fail
  go_loopw [49] (fun iv wr => ∃ i : Nat, i ≤ 8 ∧ iv = .int .i64 (i : Int) ∧ RowZ wr g3 .u64 8 80 (fun j => ((if j < i then beTo b (j * 8) 8 else 0 : Nat) : Int)) ∧ But g3 W3 wr) (fun iv _ => 8 - (intOf iv).toNat)
  case atStart => exact ⟨0, by omega, rfl, N3.out, But.refl _ _⟩
  case round =>
    clear N3
    obtain ⟨i, hi, rfl, hrow, hbut⟩ := hrel
    have HRR : Hid (RowZ wr g0 .u8 64 5 (fun i => ((b i).toNat : Int))) := R3.out.but hbut (by have := L3.out; omega)
    have HROW := hidD hrow
    have HBUT := hidD hbut
    clear hrow hbut
    by_cases hlt : i < 8
    · have hlti : (i : Int) < 8 := by omega
      have HWI := hidD (HWD.out i hlt)
      have HNX : Hid (∀ wA, RowZ wA g3 .u64 8 80 (fun j => ((if j < i then beTo b (j * 8) 8 else 0 : Nat) : Int)) → RowZ (wA.setCell ⟨g3, i, none⟩ (.int .u64 (beTo b (i * 8) 8 : Int))) g3 .u64 8 80 (fun j => ((if j < i + 1 then beTo b (j * 8) 8 else 0 : Nat) : Int))) := fun wA h => (h.set hlt _).congr fun j hj => by
        by_cases h1 : j = i
        · subst h1; rw [if_pos rfl, if_pos (by omega)]
        · rw [if_neg h1]
          by_cases h2 : j < i
          · rw [if_pos h2, if_pos (by omega)]
          · rw [if_neg h2, if_neg (by omega)]
      generalize hBT : beTo b (i * 8) 8 = BT at *
      clear hBT
      go_wp2_with fail
      go_at_call 47
      refine (HSH.out _).mono ?_
      rintro e w4 ⟨rfl, hb4⟩
      have HB4 := hidD hb4
      have HR4 := hidD (HRR.out.next hb4)
      clear hb4 HRR
      go_wp2_with fail
      go_at_call 46
      refine (HWI.out _ HR4.out).mono ?_
      rintro e w5 ⟨rfl, hb5⟩
      have HB5 : Hid (Below wr.heap.size wr w5) := Below.next HB4.out hb5
      have hrow5 := HROW.out.next HB5.out
      have cf := hrow5.frozen i
      have cc := hrow5.cell hlt
      rw [if_neg (Nat.lt_irrefl _)] at cc
      have HN5 := hidD (HNX.out _ hrow5)
      have HBB : Hid (But g3 W3 (w5.setCell ⟨g3, i, none⟩ (.int .u64 (BT : Int)))) := (HBUT.out.trans (But.of HB5.out (Nat.le_of_lt HROW.out.lt))).put _ _
      clear hb5 hrow5 HB4 HB5 HR4 HWI HNX HROW HBUT
      go_wp2_with fail
      go_roundw
      case rel =>
        first
        | exact ⟨i + 1, by omega, by go_num, HN5.out, HBB.out⟩
        | ((repeat apply Exists.intro); refine And.intro ?_ rfl; exact ⟨i + 1, by omega, by go_num, HN5.out, HBB.out⟩)
      case measure => simp [intOf]; omega
    · obtain rfl : i = 8 := by omega
      have HRF : Hid (wr.heap[g3]? = some (.cells (rowZ .u64 8 (fun j => (beTo b (j * 8) 8 : Int))) (80 : TypeId) (0, 0))) := HROW.out.congr fun j hj => by rw [if_pos hj]
      have HS8 : Hid (StAt wr g2 512 ⟨n, fun _ => 0, fun _ => 0⟩) := S3.out.but HBUT.out (by have := L3.out; omega)
      have HLL := hidD (HLY.out g2 wr HS8.out)
      have HB8 : Hid (Below w.heap.size w wr) := B3.out.trans (HBUT.out.bel.mono L3.out.2.2)
      have HI := hidD (HI8.out (fun j => (beTo b (j * 8) 8 : Int)))
      clear HROW HBUT HRR HS8 HLY HI8
      generalize rowZ .u64 8 (fun j => (beTo b (j * 8) 8 : Int)) = R8 at *
      go_wp2_with (refine wpList_load_row rfl 80 _ rfl g3 rfl 80 R8 (0, 0) _ HRF.out Try.underlying80 rfl HI.out ?_)
      go_at_call 48
      refine HLL.out.mono ?_
      rintro e w9 ⟨rfl, hs9, hb9⟩
      have HF : Hid (w.heap.size ≤ g2 ∧ StAt w9 g2 512 ⟨n, fun _ => 0, fun j => beTo b (j * 8) 8⟩ ∧ Below w.heap.size w w9) := ⟨G2.out, hs9, HB8.out.trans (hb9.bel.mono G2.out)⟩
      clear hs9 hb9
      go_wp2_with fail
      go_ret2
      exact ⟨g2, rfl, HF.out⟩
set_option maxRecDepth 100000 in
set_option maxHeartbeats 1600000 in
theorem resume256_any (b : Nat → UInt8) (n : Nat) (hn : n < 18446744073709551616) (hnb : n % 64 = 0) (g0 : Nat) (w : World) (hr : RowZ w g0 .u8 32 5 (fun i => ((b i).toNat : Int))) : Calls Try.prog 24 #[.int .i64 256, .slice (some ⟨g0, 0, none⟩) 32 32, .int .u64 (n : Int)] w fun e w' => ∃ g, e = .returned (.tuple #[.pointer (some ⟨g, 0, none⟩), .int .i64 0]) ∧ w.heap.size ≤ g ∧ StAt w' g 256 ⟨n, fun _ => 0, fun j => beTo b (j * 4) 4⟩ ∧ Below w.heap.size w w' := by
  have hk : Kind 256 := by unfold Kind; omega
  have HSZ : Hid (∀ w, Calls Try.prog 36 #[.int .i64 256] w fun e w' => e = .returned (.tuple #[.int .i64 32, .int .i64 64, .int .i64 0]) ∧ w' = w) := fun w => size_any 256 hk w
  have HCO : Hid (∀ w, Calls Try.prog 45 #[.int .i64 256] w fun e w' => e = .returned (.agg (rowZ .u64 88 (fun j => (coS 256 j : Int)))) ∧ Below w.heap.size w w') := fun w => constants_any 256 hk w
  have HFD : Hid (∀ w : World, (Instr.field 82 (.agg (rowZ .u64 88 (fun j => (coS 256 j : Int)))) 0).run Try.prog w = .ok (.agg (rowZ .u64 80 (fun j => (coS 256 j : Int)))) w) := fun w => field53 _ w
  have HBD : Hid (∀ w : World, (Instr.build 92 #[(0, .int .i64 256), (1, .int .u64 (n : Int)), (3, .agg (rowZ .u64 80 (fun j => (coS 256 j : Int))))]).run Try.prog w = .ok (.agg ((List.range 226).map (stV 256 n (fun _ => 0) (fun _ => 0))).toArray) w) := fun w => by rw [← bV_row 256 n]; exact build63n ((256 : Nat) : Int) (n : Int) (fun j => (coS 256 j : Int)) w
  have HST : Hid (∀ (W : World), StAt (W.alloc (.cells ((List.range 226).map (stV 256 n (fun _ => 0) (fun _ => 0))).toArray (92 : TypeId))) W.heap.size 256 ⟨n, fun _ => 0, fun _ => 0⟩) := fun W => heap_alloc_last _ _
  have HSH : Hid (∀ w, Calls Try.prog 47 #[.int .i64 256] w fun e w' => e = .returned (.agg shN) ∧ Below w.heap.size w w') := fun w => shapeOf_any 256 w
  have HWD : Hid (∀ (i : Nat), i < 8 → ∀ wA, RowZ wA g0 .u8 32 5 (fun i => ((b i).toNat : Int)) → Calls Try.prog 46 #[.slice (some ⟨g0, 0, none⟩) 32 32, .int .i64 (i : Int), .agg shN] wA fun e w' => e = .returned (.int .u64 (beTo b (i * 4) 4 : Int)) ∧ Below wA.heap.size wA w') := fun i hi wA h => wordR_any b g0 0 32 32 i (by omega) (by omega) (by omega) wA h.lt (fun q hq => by rw [Nat.zero_add]; exact h.cell hq)
  have HBL : Hid (∀ j, beTo b (j * 4) 4 < mdK 256) := fun j => beTo_lt b (j * 4) 4
  have HLY : Hid (∀ g w, StAt w g 256 ⟨n, fun _ => 0, fun _ => 0⟩ → Calls Try.prog 48 #[.pointer (some ⟨g, 0, none⟩), .agg (rowZ .u64 8 (fun j => (beTo b (j * 4) 4 : Int)))] w fun e w' => e = .returned (.tuple #[]) ∧ StAt w' g 256 ⟨n, fun _ => 0, fun j => beTo b (j * 4) 4⟩ ∧ But g w w') := fun g w h => lay_any 256 hk g ⟨n, fun _ => 0, fun _ => 0⟩ (fun j => beTo b (j * 4) 4) HBL.out w h
  have hrem : (n : Int).tmod 64 = 0 := by
    have : (n : Int).tmod 64 = ((n % 64 : Nat) : Int) := rfl
    rw [this, hnb]; rfl
  obtain ⟨hz, hsz⟩ := zero_of_info Try.zero51z
  have HR := hidD hr
  have HI8 : Hid (∀ f : Nat → Int, (Try.prog.info? 80).map (·.size) = some (rowZ .u64 8 f).size) := fun f => by rw [hsz, rowZ_size]
  clear hr hsz hnb hk HBL
  generalize shN = SH at *
  generalize hR88 : rowZ .u64 88 (fun j => (coS 256 j : Int)) = R88 at *
  generalize hR80 : rowZ .u64 80 (fun j => (coS 256 j : Int)) = R80 at *
  clear hR88 hR80
  generalize hRB : ((List.range 226).map (stV 256 n (fun _ => 0) (fun _ => 0))).toArray = RB at *
  clear hRB
  have hfd := HFD.out
  go_enter Try.func24, Try.ntmps24
  go_wp2_with (go_at_call 36; refine (HSZ.out _).mono ?_; rintro e wx ⟨rfl, hx⟩; subst wx)
  go_at_call 45
  refine (HCO.out _).mono ?_
  rintro e w1 ⟨rfl, hb1⟩
  have HB1 := hidD hb1
  have HR1 := hidD (HR.out.next hb1)
  clear hb1 HR HCO HSZ
  go_upto_region 7 with (refine wpList_build3 rfl 92 0 1 3 _ _ _ rfl (.int .i64 256) (.int .u64 (n : Int)) (.agg R80) _ rfl rfl rfl (HBD.out _) ?_)
  obtain ⟨W2, hW2⟩ : ∃ W2 : World, W2 = w1.alloc (.cells RB (92 : TypeId)) := ⟨_, rfl⟩
  refine at_world hW2 ?_
  have S2 : Hid (StAt W2 w1.heap.size 256 ⟨n, fun _ => 0, fun _ => 0⟩) := by show StAt _ _ _ _; rw [hW2]; exact HST.out w1
  have hb2 : Below w1.heap.size w1 W2 := by rw [hW2]; exact (Below.refl _ _).alloc (Nat.le_refl _) _
  have R2 := hidD (HR1.out.next hb2)
  have B2 := hidD (Below.next HB1.out hb2)
  have G2 : Hid (w.heap.size ≤ w1.heap.size) := HB1.out.size
  clear hW2 hb2 HR1 HB1 HST HBD hfd HFD hrem
  generalize hg2 : w1.heap.size = g2 at *
  clear hg2
  go_upto_region 8 with fail
  obtain ⟨W3, hW3⟩ : ∃ W3 : World, W3 = W2.alloc (.cells (rowZ .u64 8 (fun _ => 0)) (80 : TypeId)) := ⟨_, rfl⟩
  refine at_world hW3 ?_
  have N3 : Hid (RowZ W3 W2.heap.size .u64 8 80 (fun j => ((if j < 0 then beTo b (j * 4) 4 else 0 : Nat) : Int))) := by
    show RowZ _ _ _ _ _ _
    rw [hW3]; exact (RowZ.new W2 .u64 8 80 (fun _ => 0)).congr fun j _ => by rw [if_neg (Nat.not_lt_zero _)]; rfl
  have hb3 : Below W2.heap.size W2 W3 := by rw [hW3]; exact (Below.refl _ _).alloc (Nat.le_refl _) _
  have S3 := hidD (S2.out.next hb3)
  have R3 := hidD (R2.out.next hb3)
  have B3 := hidD (Below.next B2.out hb3)
  have L3 : Hid (g2 < W2.heap.size ∧ g0 < W2.heap.size ∧ w.heap.size ≤ W2.heap.size) := ⟨S2.out.lt, R2.out.lt, B2.out.size⟩
  clear hW3 hb3 S2 R2 B2
  generalize hg3 : W2.heap.size = g3 at *
  clear hg3
  go_wp2_with fail
  go_loopw [49] (fun iv wr => ∃ i : Nat, i ≤ 8 ∧ iv = .int .i64 (i : Int) ∧ RowZ wr g3 .u64 8 80 (fun j => ((if j < i then beTo b (j * 4) 4 else 0 : Nat) : Int)) ∧ But g3 W3 wr) (fun iv _ => 8 - (intOf iv).toNat)
  case atStart => exact ⟨0, by omega, rfl, N3.out, But.refl _ _⟩
  case round =>
    clear N3
    obtain ⟨i, hi, rfl, hrow, hbut⟩ := hrel
    have HRR : Hid (RowZ wr g0 .u8 32 5 (fun i => ((b i).toNat : Int))) := R3.out.but hbut (by have := L3.out; omega)
    have HROW := hidD hrow
    have HBUT := hidD hbut
    clear hrow hbut
    by_cases hlt : i < 8
    · have hlti : (i : Int) < 8 := by omega
      have HWI := hidD (HWD.out i hlt)
      have HNX : Hid (∀ wA, RowZ wA g3 .u64 8 80 (fun j => ((if j < i then beTo b (j * 4) 4 else 0 : Nat) : Int)) → RowZ (wA.setCell ⟨g3, i, none⟩ (.int .u64 (beTo b (i * 4) 4 : Int))) g3 .u64 8 80 (fun j => ((if j < i + 1 then beTo b (j * 4) 4 else 0 : Nat) : Int))) := fun wA h => (h.set hlt _).congr fun j hj => by
        by_cases h1 : j = i
        · subst h1; rw [if_pos rfl, if_pos (by omega)]
        · rw [if_neg h1]
          by_cases h2 : j < i
          · rw [if_pos h2, if_pos (by omega)]
          · rw [if_neg h2, if_neg (by omega)]
      generalize hBT : beTo b (i * 4) 4 = BT at *
      clear hBT
      go_wp2_with fail
      go_at_call 47
      refine (HSH.out _).mono ?_
      rintro e w4 ⟨rfl, hb4⟩
      have HB4 := hidD hb4
      have HR4 := hidD (HRR.out.next hb4)
      clear hb4 HRR
      go_wp2_with fail
      go_at_call 46
      refine (HWI.out _ HR4.out).mono ?_
      rintro e w5 ⟨rfl, hb5⟩
      have HB5 : Hid (Below wr.heap.size wr w5) := Below.next HB4.out hb5
      have hrow5 := HROW.out.next HB5.out
      have cf := hrow5.frozen i
      have cc := hrow5.cell hlt
      rw [if_neg (Nat.lt_irrefl _)] at cc
      have HN5 := hidD (HNX.out _ hrow5)
      have HBB : Hid (But g3 W3 (w5.setCell ⟨g3, i, none⟩ (.int .u64 (BT : Int)))) := (HBUT.out.trans (But.of HB5.out (Nat.le_of_lt HROW.out.lt))).put _ _
      clear hb5 hrow5 HB4 HB5 HR4 HWI HNX HROW HBUT
      go_wp2_with fail
      go_roundw
      case rel =>
        first
        | exact ⟨i + 1, by omega, by go_num, HN5.out, HBB.out⟩
        | ((repeat apply Exists.intro); refine And.intro ?_ rfl; exact ⟨i + 1, by omega, by go_num, HN5.out, HBB.out⟩)
      case measure => simp [intOf]; omega
    · obtain rfl : i = 8 := by omega
      have HRF : Hid (wr.heap[g3]? = some (.cells (rowZ .u64 8 (fun j => (beTo b (j * 4) 4 : Int))) (80 : TypeId) (0, 0))) := HROW.out.congr fun j hj => by rw [if_pos hj]
      have HS8 : Hid (StAt wr g2 256 ⟨n, fun _ => 0, fun _ => 0⟩) := S3.out.but HBUT.out (by have := L3.out; omega)
      have HLL := hidD (HLY.out g2 wr HS8.out)
      have HB8 : Hid (Below w.heap.size w wr) := B3.out.trans (HBUT.out.bel.mono L3.out.2.2)
      have HI := hidD (HI8.out (fun j => (beTo b (j * 4) 4 : Int)))
      clear HROW HBUT HRR HS8 HLY HI8
      generalize rowZ .u64 8 (fun j => (beTo b (j * 4) 4 : Int)) = R8 at *
      go_wp2_with (refine wpList_load_row rfl 80 _ rfl g3 rfl 80 R8 (0, 0) _ HRF.out Try.underlying80 rfl HI.out ?_)
      go_at_call 48
      refine HLL.out.mono ?_
      rintro e w9 ⟨rfl, hs9, hb9⟩
      have HF : Hid (w.heap.size ≤ g2 ∧ StAt w9 g2 256 ⟨n, fun _ => 0, fun j => beTo b (j * 4) 4⟩ ∧ Below w.heap.size w w9) := ⟨G2.out, hs9, HB8.out.trans (hb9.bel.mono G2.out)⟩
      clear hs9 hb9
      go_wp2_with fail
      go_ret2
      exact ⟨g2, rfl, HF.out⟩
end Go.Proofs.Ytnldpofljeodiaa
