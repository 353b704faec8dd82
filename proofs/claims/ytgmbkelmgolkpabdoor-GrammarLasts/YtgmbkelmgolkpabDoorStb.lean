/- Sets of symbols: join, list, upTo. -/
import Derived.Test.YtgmbkelmgolkpabDoorSta
namespace Go.Proofs.YtgmbkelmgolkpabDoor
open Go.RowKit
set_option linter.unusedVariables false

/-- A block's cells. -/
def CsAt (w : World) (g : Nat) (cs : Array Value) (t : TypeId) : Prop := w.heap[g]? = some (.cells cs t (0, 0))
theorem CsAt.lt {w : World} {g : Nat} {cs : Array Value} {t : TypeId} (h : CsAt w g cs t) : g < w.heap.size := row_lt h
theorem CsAt.next {w w' : World} {g : Nat} {cs : Array Value} {t : TypeId} (h : CsAt w g cs t) (hb : Below w.heap.size w w') : CsAt w' g cs t := (hb.block g h.lt).trans h
theorem CsAt.cell {w : World} {g : Nat} {cs : Array Value} {t : TypeId} (h : CsAt w g cs t) (i : Nat) : w.cell? ⟨g, i, none⟩ = cs[i]? := cell_of_row _ _ _ _ _ _ h
theorem CsAt.frz {w : World} {g : Nat} {cs : Array Value} {t : TypeId} (h : CsAt w g cs t) (i : Nat) : w.frozen? ⟨g, i, none⟩ = false := frozen_of_row _ _ _ _ _ h
theorem CsAt.put {w : World} {g : Nat} {cs : Array Value} {t : TypeId} (h : CsAt w g cs t) (i : Nat) (v : Value) : CsAt (w.setCell ⟨g, i, none⟩ v) g (cs.setIfInBounds i v) t := heap_setCell_same w g i _ _ _ h
/-- A set among a block's cells. -/
structure SetIn (cs : Array Value) (o M : Nat) : Prop where
  top : M < Top
  c0 : cs[o]? = some (.int .u64 (lw M : Int))
  c1 : cs[o + 1]? = some (.int .u64 (hw M : Int))
/-- The cells with another set there. -/
def setC (cs : Array Value) (o M : Nat) : Array Value := (cs.setIfInBounds o (.int .u64 (lw M : Int))).setIfInBounds (o + 1) (.int .u64 (hw M : Int))
theorem SetIn.lt {cs : Array Value} {o M : Nat} (h : SetIn cs o M) : o + 1 < cs.size := by
  rcases Nat.lt_or_ge (o + 1) cs.size with h1 | h1
  · exact h1
  · have := h.c1; rw [Array.getElem?_eq_none h1] at this; cases this
theorem SetIn.at {w : World} {g o M : Nat} {cs : Array Value} {t : TypeId} (h : SetIn cs o M) (hc : CsAt w g cs t) : SetAt w g o M := ⟨h.top, by rw [hc.cell]; exact h.c0, by rw [hc.cell]; exact h.c1, hc.frz _, hc.frz _⟩
theorem setC_size (cs : Array Value) (o M : Nat) : (setC cs o M).size = cs.size := by simp [setC]
theorem setC_same {cs : Array Value} {o : Nat} (h : o + 1 < cs.size) {M : Nat} (hM : M < Top) : SetIn (setC cs o M) o M := by
  refine ⟨hM, ?_, ?_⟩
  · unfold setC
    rw [Array.getElem?_setIfInBounds, if_neg (by omega), Array.getElem?_setIfInBounds, if_pos rfl, if_pos (by omega)]
  · unfold setC
    rw [Array.getElem?_setIfInBounds, if_pos rfl, if_pos (by simpa using h)]
theorem setC_other (cs : Array Value) (o M i : Nat) (h0 : i ≠ o) (h1 : i ≠ o + 1) : (setC cs o M)[i]? = cs[i]? := by
  unfold setC
  rw [Array.getElem?_setIfInBounds, if_neg (fun e => h1 e.symm), Array.getElem?_setIfInBounds, if_neg (fun e => h0 e.symm)]
theorem setC_ext {cs cs' : Array Value} {o M : Nat} (h : SetIn cs' o M) (hs : cs'.size = cs.size) (ho : ∀ i, i ≠ o → i ≠ o + 1 → cs'[i]? = cs[i]?) : cs' = setC cs o M := by
  apply Array.ext_getElem?
  intro i
  have hlt : o + 1 < cs.size := by rw [← hs]; exact h.lt
  have h2 := setC_same (cs := cs) hlt h.top
  by_cases h0 : i = o
  · subst h0; rw [h.c0, h2.c0]
  · by_cases h1 : i = o + 1
    · subst h1; rw [h.c1, h2.c1]
    · rw [ho i h0 h1, setC_other _ _ _ _ h0 h1]
/-- An added element. -/
theorem setAdd_cs (M g o : Nat) (s : Nat) (hs : s < 128) (w : World) {cs : Array Value} {t : TypeId} (hc : CsAt w g cs t) (h : SetIn cs o M) : Calls Tryd.prog 51 #[.pointer (some ⟨g, o, none⟩), .int .i64 s] w fun e w' => e = .returned (.tuple #[]) ∧ CsAt w' g (setC cs o (M ||| 2 ^ s)) t ∧ But g w w' := by
  refine (setAdd_any M g o s hs w (h.at hc)).mono fun e w' ⟨h1, h2⟩ => ⟨h1, ?_, ?_⟩
  · rw [h2]
    have hd : CsAt w.drew g cs t := hc
    have hlt := h.lt
    have h3 := hd.put (o + s / 64) (.int .u64 (wdS (M ||| 2 ^ s) s : Int))
    have htop := or_top h.top (two_top hs)
    rw [setC_ext (cs := cs) (o := o) (M := M ||| 2 ^ s) (cs' := cs.setIfInBounds (o + s / 64) (.int .u64 (wdS (M ||| 2 ^ s) s : Int))) ?_ (by simp) ?_] at h3
    · exact h3
    · unfold wdS
      by_cases h4 : s < 64
      · rw [if_pos h4, show s / 64 = 0 by omega, Nat.add_zero]
        refine ⟨htop, by rw [Array.getElem?_setIfInBounds, if_pos rfl, if_pos (by omega)], ?_⟩
        rw [Array.getElem?_setIfInBounds, if_neg (by omega), h.c1, hw_or, hw_two h4, Nat.or_zero]
      · obtain ⟨u, rfl⟩ : ∃ u, s = 64 + u := ⟨s - 64, by omega⟩
        rw [if_neg h4, show (64 + u) / 64 = 1 by omega]
        refine ⟨htop, ?_, by rw [Array.getElem?_setIfInBounds, if_pos rfl, if_pos hlt]⟩
        rw [Array.getElem?_setIfInBounds, if_neg (by omega), h.c0, lw_or, lw_two', Nat.or_zero]
    · intro i h5 h6
      rw [Array.getElem?_setIfInBounds, if_neg (by have : s / 64 = 0 ∨ s / 64 = 1 := by omega
                                                   omega)]
  · rw [h2]
    exact (But.of ((Below.refl w.heap.size w).drew) (Nat.le_of_lt hc.lt)).put _ _
theorem Tryd.info59 : (Tryd.prog.info? 59).map (fun i => (i.zero, i.size, i.bytes)) = some (some (.int .u64 0), 1, 8) := by kernel_rfl
theorem index_set (C : Array Value) (k : Nat) (u : Value) (hk : k < 2) (h : C[k]? = some u) (w : World) : (Instr.index 61 (.agg C) (.int .i64 (k : Int))).run Tryd.prog w = .ok u w := by
  have hu : Tryd.prog.underlying 61 = some (.array 2 59) := by kernel_rfl
  have hpk : Tryd.prog.plainKey 59 = true := by kernel_rfl
  have hc : Tryd.prog.cellsOf 59 = 1 := by kernel_rfl
  obtain ⟨i0, hi, _⟩ := info_parts Tryd.info59
  have hn : (0 : Int) ≤ (k : Int) ∧ (k : Int) < ((2 : Nat) : Int) := by omega
  have hp := run_part_plain (P := Tryd.prog) (w := w) hpk (xs := C) (off := k) (v := u) h
  simp only [Instr.index, asIntOf, Sem.run_bind, Sem.run_pure, Result.andThen_ok, run_underlying hu, if_pos hn, run_sizeOf w hi, hc, Nat.mul_one, Int.toNat_natCast, hp]
theorem or_words {a b : Nat} (ha : a < 18446744073709551616) (hb : b < 18446744073709551616) : bits .or .u64 (a : Int) (b : Int) = ((a ||| b : Nat) : Int) := u64_or_nat a b ha hb
set_option maxRecDepth 100000 in
set_option maxHeartbeats 1600000 in
theorem setJoin_any (M N g o : Nat) (hN : N < Top) (w : World) {cs : Array Value} {t : TypeId} (hc : CsAt w g cs t) (h : SetIn cs o M) : Calls Tryd.prog 37 #[.pointer (some ⟨g, o, none⟩), setV N] w fun e w' => e = .returned (.tuple #[]) ∧ CsAt w' g (setC cs o (M ||| N)) t ∧ But g w w' := by
  have hlt := h.lt
  have HGL := hidD hc.lt
  have HC : Hid (CsAt (w.alloc (.cells #[.int .u64 (lw N : Int), .int .u64 (hw N : Int)] (61 : TypeId))) g cs t) := hc.next ((Below.refl _ _).alloc (Nat.le_refl _) _)
  have HB0 : Hid (But g w (w.alloc (.cells #[.int .u64 (lw N : Int), .int .u64 (hw N : Int)] (61 : TypeId)))) := But.of ((Below.refl _ _).alloc (Nat.le_refl _) _) (Nat.le_of_lt hc.lt)
  have hx0 := or_words (lw_lt M) (lw_lt N)
  have hx1 := or_words (hw_lt h.top) (hw_lt hN)
  have HC0 := hidD h.c0
  have HC1 : Hid ((cs.setIfInBounds o (.int .u64 (lw (M ||| N) : Int)))[o + 1]? = some (.int .u64 (hw M : Int))) := by
    show _ = _
    rw [Array.getElem?_setIfInBounds, if_neg (by omega), h.c1]
  have HS : Hid ((cs.setIfInBounds o (.int .u64 (lw (M ||| N) : Int))).setIfInBounds (o + 1) (.int .u64 (hw (M ||| N) : Int)) = setC cs o (M ||| N)) := rfl
  rw [← lw_or] at hx0
  rw [← hw_or] at hx1
  unfold setV
  generalize lw (M ||| N) = R0 at *
  generalize hw (M ||| N) = R1 at *
  generalize lw M = a0 at *
  generalize hw M = a1 at *
  generalize lw N = b0 at *
  generalize hw N = b1 at *
  have hi0 : ∀ w, (Instr.index 61 (.agg #[.int .u64 (b0 : Int), .int .u64 (b1 : Int)]) (.int .i64 0)).run Tryd.prog w = .ok (.int .u64 (b0 : Int)) w := fun w => index_set _ 0 _ (by omega) rfl w
  have hi1 : ∀ w, (Instr.index 61 (.agg #[.int .u64 (b0 : Int), .int .u64 (b1 : Int)]) (.int .i64 1)).run Tryd.prog w = .ok (.int .u64 (b1 : Int)) w := fun w => index_set _ 1 _ (by omega) rfl w
  clear h hc
  go_enter Tryd.func37, Tryd.ntmps37
  go_wp2_with fail
  go_loopw [7] (fun i wr => ∃ k : Nat, k ≤ 2 ∧ i = .int .i64 k ∧ CsAt wr g (if k = 0 then cs else if k = 1 then cs.setIfInBounds o (.int .u64 (R0 : Int)) else (cs.setIfInBounds o (.int .u64 (R0 : Int))).setIfInBounds (o + 1) (.int .u64 (R1 : Int))) t ∧ But g w wr) (fun i _ => 2 - (intOf i).toNat)
  case atStart => exact ⟨0, by omega, rfl, HC.out, HB0.out⟩
  case round =>
    obtain ⟨k, hk, rfl, hcs, hbut⟩ := hrel
    have HBU := hidD hbut
    rcases (show k = 0 ∨ k = 1 ∨ k = 2 by omega) with rfl | rfl | rfl
    · rw [if_pos rfl] at hcs
      have hcell : wr.cell? ⟨g, o, none⟩ = some (.int .u64 (a0 : Int)) := by rw [hcs.cell]; exact HC0.out
      have f1 : ∀ i : KB wr [g], i.v.cell? ⟨g, o, none⟩ = some (.int .u64 (a0 : Int)) := fun i => (i.cell (b := g) (by simp) _).trans hcell
      have hcd : wr.drew.cell? ⟨g, o, none⟩ = some (.int .u64 (a0 : Int)) := hcell
      have hfd : wr.drew.frozen? ⟨g, o, none⟩ = false := hcs.frz o
      have HN : Hid (CsAt (wr.drew.setCell ⟨g, o, none⟩ (.int .u64 (R0 : Int))) g (cs.setIfInBounds o (.int .u64 (R0 : Int))) t) := (show CsAt wr.drew g cs t from hcs).put o _
      have HBN : Hid (But g w (wr.drew.setCell ⟨g, o, none⟩ (.int .u64 (R0 : Int)))) := (hbut.next ((Below.refl wr.heap.size wr).drew) (Nat.le_of_lt HGL.out)).put o _
      clear hcs hbut hcell
      go_wp2_with fail
      refine wp_region_seg [0, 0, 0, 0, 0, 0, 0, 0, 0, 99] 0 9 [g] (by kernel_rfl) (by kernel_rfl) (by kernel_rfl) (by kernel_rfl) (by kernel_rfl) (by kernel_rfl) (by kernel_rfl) (by kernel_rfl) (fun _ _ _ _ _ h => h) ?_
      simp only [SegW, pk, Nat.reduceMul, Nat.reduceBEq, cond_true, cond_false]
      repeat (go_big_quiet_step (fail))
      refine wpQuiet_nil ?_
      go_wp2_with fail
      go_roundw
      case rel => exact ⟨1, by omega, by go_num, by rw [if_neg (by decide), if_pos rfl]; exact HN.out, HBN.out⟩
      case measure => simp [intOf]
    · rw [if_neg (by decide), if_pos rfl] at hcs
      have hcell : wr.cell? ⟨g, o + 1, none⟩ = some (.int .u64 (a1 : Int)) := by rw [hcs.cell]; exact HC1.out
      have f1 : ∀ i : KB wr [g], i.v.cell? ⟨g, o + 1, none⟩ = some (.int .u64 (a1 : Int)) := fun i => (i.cell (b := g) (by simp) _).trans hcell
      have hcd : wr.drew.cell? ⟨g, o + 1, none⟩ = some (.int .u64 (a1 : Int)) := hcell
      have hfd : wr.drew.frozen? ⟨g, o + 1, none⟩ = false := hcs.frz (o + 1)
      have HN : Hid (CsAt (wr.drew.setCell ⟨g, o + 1, none⟩ (.int .u64 (R1 : Int))) g ((cs.setIfInBounds o (.int .u64 (R0 : Int))).setIfInBounds (o + 1) (.int .u64 (R1 : Int))) t) := (show CsAt wr.drew g _ t from hcs).put (o + 1) _
      have HBN : Hid (But g w (wr.drew.setCell ⟨g, o + 1, none⟩ (.int .u64 (R1 : Int)))) := (hbut.next ((Below.refl wr.heap.size wr).drew) (Nat.le_of_lt HGL.out)).put (o + 1) _
      clear hcs hbut hcell
      go_wp2_with fail
      refine wp_region_seg [0, 0, 0, 0, 0, 0, 0, 0, 0, 99] 0 9 [g] (by kernel_rfl) (by kernel_rfl) (by kernel_rfl) (by kernel_rfl) (by kernel_rfl) (by kernel_rfl) (by kernel_rfl) (by kernel_rfl) (fun _ _ _ _ _ h => h) ?_
      simp only [SegW, pk, Nat.reduceMul, Nat.reduceBEq, cond_true, cond_false]
      repeat (go_big_quiet_step (fail))
      refine wpQuiet_nil ?_
      go_wp2_with fail
      go_roundw
      case rel => exact ⟨2, by omega, by go_num, by rw [if_neg (by decide), if_neg (by decide)]; exact HN.out, HBN.out⟩
      case measure => simp [intOf]
    · rw [if_neg (by decide), if_neg (by decide)] at hcs
      have HN := hidD hcs
      clear hcs hbut
      go_wp2_with fail
      refine bodyPost_end (v := .tuple #[]) (by simp [results, Tryd.results37, go_sem]) rfl ?_
      exact ⟨rfl, by rw [← HS.out]; exact HN.out, HBU.out⟩
end Go.Proofs.YtgmbkelmgolkpabDoor
