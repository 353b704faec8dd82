/- What layChain and takeBlock of sha do to a state. -/
import Derived.Test.YtjpcndhdlbkilaaSs
namespace Go.Proofs.Ytjpcndhdlbkilaa
open Go.RowKit
set_option linter.unusedVariables false

theorem co_lt (k j : Nat) : coS k j < 18446744073709551616 := by
  have hd := dr_lt (wdN k) (rdN k)
  unfold coS ofS
  split
  · split
    · exact Nat.lt_of_le_of_lt (Nat.div_le_self _ _) (hd _)
    · omega
  · unfold hOf
    split
    · exact Nat.lt_of_lt_of_le (Nat.mod_lt _ (by decide)) (by decide)
    · split
      · exact Nat.lt_of_le_of_lt (Nat.div_le_self _ _) (hd _)
      · split <;> exact hd _
set_option maxRecDepth 100000 in
set_option maxHeartbeats 1600000 in
theorem layChainW_any (k : Nat) (hkk : 256 < k) (hk5 : k ≤ 512) (g : Nat) (s : Ps) (h : Nat → Nat) (hh : ∀ j, h j < mdK k) (w : World) (hs : StAt w g k s) : Calls Try.prog 26 #[.pointer (some ⟨g, 0, none⟩), .agg (rowZ .u64 8 (fun j => (h j : Int)))] w fun e w' => e = .returned (.tuple #[]) ∧ StAt w' g k ⟨s.n, s.r, h⟩ ∧ But g w w' := by
  have HIW : Hid (∀ w, Calls Try.prog 29 #[.int .i64 (k : Int)] w fun e w' => e = .returned (.bool true) ∧ w' = w) := fun w => by have := isWide_any k w; rw [decide_eq_true hkk] at this; exact this
  have HH := hidD hh
  have HIX : Hid (∀ i : Nat, i < 8 → ∀ w, (Instr.index 51 (.agg (rowZ .u64 8 (fun j => (h j : Int)))) (.int .i64 (i : Int))).run Try.prog w = .ok (.int .u64 (h i : Int)) w) := fun i hi w => index51 _ i hi w
  have HR : Hid ((w.alloc (.cells (rowZ .u64 8 (fun j => (h j : Int))) (51 : TypeId))).heap[w.heap.size]? = some (.cells (rowZ .u64 8 (fun j => (h j : Int))) (51 : TypeId) (0, 0))) := heap_alloc_last _ _
  have HI : Hid ((Try.prog.info? 51).map (·.size) = some (rowZ .u64 8 (fun j => (h j : Int))).size) := by show _ = _; rw [Try.size51s, rowZ_size]
  have HB : Hid (But g w (w.alloc (.cells (rowZ .u64 8 (fun j => (h j : Int))) (51 : TypeId)))) := But.of ((Below.refl _ _).alloc (Nat.le_refl _) _) (Nat.le_of_lt hs.lt)
  have HS : Hid (StAt (w.alloc (.cells (rowZ .u64 8 (fun j => (h j : Int))) (51 : TypeId))) g k s) := hs.next ((Below.refl _ _).alloc (Nat.le_refl _) _)
  clear hs hh
  generalize (rowZ .u64 8 (fun j => (h j : Int))) = R at *
  go_enter Try.func26, Try.ntmps26
  go_wp2_with (refine wpList_load_row rfl 51 _ rfl w.heap.size rfl 51 R (0, 0) _ HR.out Try.underlying51 rfl HI.out ?_)
  go_loopw [7] (fun iv wr => ∃ i : Nat, i ≤ 8 ∧ iv = .int .i64 (i : Int) ∧ StAt wr g k ⟨s.n, s.r, fun j => if j < i then h j else s.c j⟩ ∧ But g w wr) (fun iv _ => 8 - (intOf iv).toNat)
  case atStart => exact ⟨0, by omega, rfl, HS.out.congr _ rfl (fun _ _ => rfl) (fun i _ => by show s.c i = if i < 0 then h i else s.c i; rw [if_neg (Nat.not_lt_zero _)]), HB.out⟩
  case round =>
    clear HR HB HS
    obtain ⟨i, hi, rfl, hst, hbut⟩ := hrel
    by_cases hlt : i < 8
    · have hlti : (i : Int) < 8 := by omega
      have hix := HIX.out i hlt
      have ck := hst.kind
      have cc := hst.wide hkk hlt
      have cf := StRow.frozen hst (218 + i)
      have HN : Hid (StAt (wr.setCell ⟨g, 218 + i, none⟩ (.int .u64 (h i : Int))) g k ⟨s.n, s.r, fun j => if j < i + 1 then h j else s.c j⟩) := (hst.one_wide hkk hlt (h i)).congr _ rfl (fun _ _ => rfl) (fun j _ => by
        show (if j = i then h i else if j < i then h j else s.c j) = if j < i + 1 then h j else s.c j
        by_cases h1 : j = i
        · subst h1; rw [if_pos rfl, if_pos (by omega)]
        · rw [if_neg h1]
          by_cases h2 : j < i
          · rw [if_pos h2, if_pos (by omega)]
          · rw [if_neg h2, if_neg (by omega)])
      have HNB : Hid (But g w (wr.setCell ⟨g, 218 + i, none⟩ (.int .u64 (h i : Int)))) := hbut.put _ _
      clear hst hbut
      generalize (h i : Int) = Z at *
      go_wp2_with (go_at_call 29; refine (HIW.out _).mono ?_; rintro e wx ⟨rfl, hx⟩)
      go_roundw
      case rel =>
        first
        | exact ⟨i + 1, by omega, by go_num, HN.out, HNB.out⟩
        | ((repeat apply Exists.intro); refine And.intro ?_ rfl; exact ⟨i + 1, by omega, by go_num, HN.out, HNB.out⟩)
      case measure => simp [intOf]; omega
    · obtain rfl : i = 8 := by omega
      have HN : Hid (StAt wr g k ⟨s.n, s.r, h⟩) := hst.congr _ rfl (fun _ _ => rfl) (fun j hj => if_pos hj)
      have HNB := hidD hbut
      clear hst hbut
      go_wp2_with fail
      refine bodyPost_end (v := .tuple #[]) (by simp [results, Try.results26, go_sem]) rfl ⟨rfl, HN.out, HNB.out⟩
set_option maxRecDepth 100000 in
set_option maxHeartbeats 1600000 in
theorem layChainN_any (k : Nat) (hkk : ¬ 256 < k) (hk5 : k ≤ 512) (g : Nat) (s : Ps) (h : Nat → Nat) (hh : ∀ j, h j < mdK k) (w : World) (hs : StAt w g k s) : Calls Try.prog 26 #[.pointer (some ⟨g, 0, none⟩), .agg (rowZ .u64 8 (fun j => (h j : Int)))] w fun e w' => e = .returned (.tuple #[]) ∧ StAt w' g k ⟨s.n, s.r, h⟩ ∧ But g w w' := by
  have HIW : Hid (∀ w, Calls Try.prog 29 #[.int .i64 (k : Int)] w fun e w' => e = .returned (.bool false) ∧ w' = w) := fun w => by have := isWide_any k w; rw [decide_eq_false hkk] at this; exact this
  have HH := hidD hh
  have HIX : Hid (∀ i : Nat, i < 8 → ∀ w, (Instr.index 51 (.agg (rowZ .u64 8 (fun j => (h j : Int)))) (.int .i64 (i : Int))).run Try.prog w = .ok (.int .u64 (h i : Int)) w) := fun i hi w => index51 _ i hi w
  have HR : Hid ((w.alloc (.cells (rowZ .u64 8 (fun j => (h j : Int))) (51 : TypeId))).heap[w.heap.size]? = some (.cells (rowZ .u64 8 (fun j => (h j : Int))) (51 : TypeId) (0, 0))) := heap_alloc_last _ _
  have HI : Hid ((Try.prog.info? 51).map (·.size) = some (rowZ .u64 8 (fun j => (h j : Int))).size) := by show _ = _; rw [Try.size51s, rowZ_size]
  have HB : Hid (But g w (w.alloc (.cells (rowZ .u64 8 (fun j => (h j : Int))) (51 : TypeId)))) := But.of ((Below.refl _ _).alloc (Nat.le_refl _) _) (Nat.le_of_lt hs.lt)
  have HS : Hid (StAt (w.alloc (.cells (rowZ .u64 8 (fun j => (h j : Int))) (51 : TypeId))) g k s) := hs.next ((Below.refl _ _).alloc (Nat.le_refl _) _)
  clear hs hh
  generalize (rowZ .u64 8 (fun j => (h j : Int))) = R at *
  go_enter Try.func26, Try.ntmps26
  go_wp2_with (refine wpList_load_row rfl 51 _ rfl w.heap.size rfl 51 R (0, 0) _ HR.out Try.underlying51 rfl HI.out ?_)
  go_loopw [7] (fun iv wr => ∃ i : Nat, i ≤ 8 ∧ iv = .int .i64 (i : Int) ∧ StAt wr g k ⟨s.n, s.r, fun j => if j < i then h j else s.c j⟩ ∧ But g w wr) (fun iv _ => 8 - (intOf iv).toNat)
  case atStart => exact ⟨0, by omega, rfl, HS.out.congr _ rfl (fun _ _ => rfl) (fun i _ => by show s.c i = if i < 0 then h i else s.c i; rw [if_neg (Nat.not_lt_zero _)]), HB.out⟩
  case round =>
    clear HR HB HS
    obtain ⟨i, hi, rfl, hst, hbut⟩ := hrel
    by_cases hlt : i < 8
    · have hlti : (i : Int) < 8 := by omega
      have hix := HIX.out i hlt
      have ck := hst.kind
      have cc := hst.narrow hkk hlt
      have cf := StRow.frozen hst (210 + i)
      have HN : Hid (StAt (wr.setCell ⟨g, 210 + i, none⟩ (.int .u32 (h i : Int))) g k ⟨s.n, s.r, fun j => if j < i + 1 then h j else s.c j⟩) := (hst.one_narrow hkk hlt (h i)).congr _ rfl (fun _ _ => rfl) (fun j _ => by
        show (if j = i then h i else if j < i then h j else s.c j) = if j < i + 1 then h j else s.c j
        by_cases h1 : j = i
        · subst h1; rw [if_pos rfl, if_pos (by omega)]
        · rw [if_neg h1]
          by_cases h2 : j < i
          · rw [if_pos h2, if_pos (by omega)]
          · rw [if_neg h2, if_neg (by omega)])
      have HNB : Hid (But g w (wr.setCell ⟨g, 210 + i, none⟩ (.int .u32 (h i : Int)))) := hbut.put _ _
      have hcv : (h i : Int) % 4294967296 = (h i : Int) := by have := HH.out i; rw [mdK, if_neg hkk] at this; omega
      clear hst hbut
      generalize (h i : Int) = Z at *
      go_wp2_with (go_at_call 29; refine (HIW.out _).mono ?_; rintro e wx ⟨rfl, hx⟩)
      go_roundw
      case rel =>
        first
        | exact ⟨i + 1, by omega, by go_num, HN.out, HNB.out⟩
        | ((repeat apply Exists.intro); refine And.intro ?_ rfl; exact ⟨i + 1, by omega, by go_num, HN.out, HNB.out⟩)
      case measure => simp [intOf]; omega
    · obtain rfl : i = 8 := by omega
      have HN : Hid (StAt wr g k ⟨s.n, s.r, h⟩) := hst.congr _ rfl (fun _ _ => rfl) (fun j hj => if_pos hj)
      have HNB := hidD hbut
      clear hst hbut
      go_wp2_with fail
      refine bodyPost_end (v := .tuple #[]) (by simp [results, Try.results26, go_sem]) rfl ⟨rfl, HN.out, HNB.out⟩
end Go.Proofs.Ytjpcndhdlbkilaa
