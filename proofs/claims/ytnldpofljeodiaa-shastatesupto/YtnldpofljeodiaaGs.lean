/- Texts of one proof, one behind the other. -/
import Derived.Test.YtnldpofljeodiaaSs
/- What layChain and takeBlock of sha do to a state. -/
namespace Go.Proofs.Ytnldpofljeodiaa
open Go.RowKit
set_option linter.unusedVariables false

theorem co_lt (k j : Nat) : coS k j < 18446744073709551616 := by
  have hd := dr_lt (wdN k) (rdN k)
  unfold coS ofS
  split
  · split
    · exact Nat.lt_of_le_of_lt (Nat.div_le_self _ _) (hd _)
    · omega
  · unfold hOf
    split
    · exact Nat.lt_of_lt_of_le (Nat.mod_lt _ (by decide)) (by decide)
    · split
      · exact Nat.lt_of_le_of_lt (Nat.div_le_self _ _) (hd _)
      · split <;> exact hd _
set_option maxRecDepth 100000 in
set_option maxHeartbeats 1600000 in
theorem layChainW_any (k : Nat) (hkk : 256 < k) (hk5 : k ≤ 512) (g : Nat) (s : Ps) (h : Nat → Nat) (hh : ∀ j, h j < mdK k) (w : World) (hs : StAt w g k s) : Calls Try.prog 48 #[.pointer (some ⟨g, 0, none⟩), .agg (rowZ .u64 8 (fun j => (h j : Int)))] w fun e w' => e = .returned (.tuple #[]) ∧ StAt w' g k ⟨s.n, s.r, h⟩ ∧ But g w w' := by
  have HIW : Hid (∀ w, Calls Try.prog 50 #[.int .i64 (k : Int)] w fun e w' => e = .returned (.bool true) ∧ w' = w) := fun w => by have := isWide_any k w; rw [decide_eq_true hkk] at this; exact this
  have HH := hidD hh
  have HIX : Hid (∀ i : Nat, i < 8 → ∀ w, (Instr.index 80 (.agg (rowZ .u64 8 (fun j => (h j : Int)))) (.int .i64 (i : Int))).run Try.prog w = .ok (.int .u64 (h i : Int)) w) := fun i hi w => index51 _ i hi w
  have HR : Hid ((w.alloc (.cells (rowZ .u64 8 (fun j => (h j : Int))) (80 : TypeId))).heap[w.heap.size]? = some (.cells (rowZ .u64 8 (fun j => (h j : Int))) (80 : TypeId) (0, 0))) := heap_alloc_last _ _
  have HI : Hid ((Try.prog.info? 80).map (·.size) = some (rowZ .u64 8 (fun j => (h j : Int))).size) := by show _ = _; rw [Try.size51s, rowZ_size]
  have HB : Hid (But g w (w.alloc (.cells (rowZ .u64 8 (fun j => (h j : Int))) (80 : TypeId)))) := But.of ((Below.refl _ _).alloc (Nat.le_refl _) _) (Nat.le_of_lt hs.lt)
  have HS : Hid (StAt (w.alloc (.cells (rowZ .u64 8 (fun j => (h j : Int))) (80 : TypeId))) g k s) := hs.next ((Below.refl _ _).alloc (Nat.le_refl _) _)
  clear hs hh
  generalize (rowZ .u64 8 (fun j => (h j : Int))) = R at *
  go_enter Try.func48, Try.ntmps48
  go_wp2_with (refine wpList_load_row rfl 80 _ rfl w.heap.size rfl 80 R (0, 0) _ HR.out Try.underlying80 rfl HI.out ?_)
  go_loopw [7] (fun iv wr => ∃ i : Nat, i ≤ 8 ∧ iv = .int .i64 (i : Int) ∧ StAt wr g k ⟨s.n, s.r, fun j => if j < i then h j else s.c j⟩ ∧ But g w wr) (fun iv _ => 8 - (intOf iv).toNat)
  case atStart => exact ⟨0, by omega, rfl, HS.out.congr _ rfl (fun _ _ => rfl) (fun i _ => by show s.c i = if i < 0 then h i else s.c i; rw [if_neg (Nat.not_lt_zero _)]), HB.out⟩
  case round =>
    clear HR HB HS
    obtain ⟨i, hi, rfl, hst, hbut⟩ := hrel
    by_cases hlt : i < 8
    · have hlti : (i : Int) < 8 := by omega
      have hix := HIX.out i hlt
      have ck := hst.kind
      have cc := hst.wide hkk hlt
      have cf := StRow.frozen hst (218 + i)
      have HN : Hid (StAt (wr.setCell ⟨g, 218 + i, none⟩ (.int .u64 (h i : Int))) g k ⟨s.n, s.r, fun j => if j < i + 1 then h j else s.c j⟩) := (hst.one_wide hkk hlt (h i)).congr _ rfl (fun _ _ => rfl) (fun j _ => by
        show (if j = i then h i else if j < i then h j else s.c j) = if j < i + 1 then h j else s.c j
        by_cases h1 : j = i
        · subst h1; rw [if_pos rfl, if_pos (by omega)]
        · rw [if_neg h1]
          by_cases h2 : j < i
          · rw [if_pos h2, if_pos (by omega)]
          · rw [if_neg h2, if_neg (by omega)])
      have HNB : Hid (But g w (wr.setCell ⟨g, 218 + i, none⟩ (.int .u64 (h i : Int)))) := hbut.put _ _
      clear hst hbut
      generalize (h i : Int) = Z at *
      go_wp2_with (go_at_call 50; refine (HIW.out _).mono ?_; rintro e wx ⟨rfl, hx⟩)
      go_roundw
      case rel =>
        first
        | exact ⟨i + 1, by omega, by go_num, HN.out, HNB.out⟩
        | ((repeat apply Exists.intro); refine And.intro ?_ rfl; exact ⟨i + 1, by omega, by go_num, HN.out, HNB.out⟩)
      case measure => simp [intOf]; omega
    · obtain rfl : i = 8 := by omega
      have HN : Hid (StAt wr g k ⟨s.n, s.r, h⟩) := hst.congr _ rfl (fun _ _ => rfl) (fun j hj => if_pos hj)
      have HNB := hidD hbut
      clear hst hbut
      go_wp2_with fail
      refine bodyPost_end (v := .tuple #[]) (by simp [results, Try.results48, go_sem]) rfl ⟨rfl, HN.out, HNB.out⟩
set_option maxRecDepth 100000 in
set_option maxHeartbeats 1600000 in
theorem layChainN_any (k : Nat) (hkk : ¬ 256 < k) (hk5 : k ≤ 512) (g : Nat) (s : Ps) (h : Nat → Nat) (hh : ∀ j, h j < mdK k) (w : World) (hs : StAt w g k s) : Calls Try.prog 48 #[.pointer (some ⟨g, 0, none⟩), .agg (rowZ .u64 8 (fun j => (h j : Int)))] w fun e w' => e = .returned (.tuple #[]) ∧ StAt w' g k ⟨s.n, s.r, h⟩ ∧ But g w w' := by
  have HIW : Hid (∀ w, Calls Try.prog 50 #[.int .i64 (k : Int)] w fun e w' => e = .returned (.bool false) ∧ w' = w) := fun w => by have := isWide_any k w; rw [decide_eq_false hkk] at this; exact this
  have HH := hidD hh
  have HIX : Hid (∀ i : Nat, i < 8 → ∀ w, (Instr.index 80 (.agg (rowZ .u64 8 (fun j => (h j : Int)))) (.int .i64 (i : Int))).run Try.prog w = .ok (.int .u64 (h i : Int)) w) := fun i hi w => index51 _ i hi w
  have HR : Hid ((w.alloc (.cells (rowZ .u64 8 (fun j => (h j : Int))) (80 : TypeId))).heap[w.heap.size]? = some (.cells (rowZ .u64 8 (fun j => (h j : Int))) (80 : TypeId) (0, 0))) := heap_alloc_last _ _
  have HI : Hid ((Try.prog.info? 80).map (·.size) = some (rowZ .u64 8 (fun j => (h j : Int))).size) := by show _ = _; rw [Try.size51s, rowZ_size]
  have HB : Hid (But g w (w.alloc (.cells (rowZ .u64 8 (fun j => (h j : Int))) (80 : TypeId)))) := But.of ((Below.refl _ _).alloc (Nat.le_refl _) _) (Nat.le_of_lt hs.lt)
  have HS : Hid (StAt (w.alloc (.cells (rowZ .u64 8 (fun j => (h j : Int))) (80 : TypeId))) g k s) := hs.next ((Below.refl _ _).alloc (Nat.le_refl _) _)
  clear hs hh
  generalize (rowZ .u64 8 (fun j => (h j : Int))) = R at *
  go_enter Try.func48, Try.ntmps48
  go_wp2_with (refine wpList_load_row rfl 80 _ rfl w.heap.size rfl 80 R (0, 0) _ HR.out Try.underlying80 rfl HI.out ?_)
  go_loopw [7] (fun iv wr => ∃ i : Nat, i ≤ 8 ∧ iv = .int .i64 (i : Int) ∧ StAt wr g k ⟨s.n, s.r, fun j => if j < i then h j else s.c j⟩ ∧ But g w wr) (fun iv _ => 8 - (intOf iv).toNat)
  case atStart => exact ⟨0, by omega, rfl, HS.out.congr _ rfl (fun _ _ => rfl) (fun i _ => by show s.c i = if i < 0 then h i else s.c i; rw [if_neg (Nat.not_lt_zero _)]), HB.out⟩
  case round =>
    clear HR HB HS
    obtain ⟨i, hi, rfl, hst, hbut⟩ := hrel
    by_cases hlt : i < 8
    · have hlti : (i : Int) < 8 := by omega
      have hix := HIX.out i hlt
      have ck := hst.kind
      have cc := hst.narrow hkk hlt
      have cf := StRow.frozen hst (210 + i)
      have HN : Hid (StAt (wr.setCell ⟨g, 210 + i, none⟩ (.int .u32 (h i : Int))) g k ⟨s.n, s.r, fun j => if j < i + 1 then h j else s.c j⟩) := (hst.one_narrow hkk hlt (h i)).congr _ rfl (fun _ _ => rfl) (fun j _ => by
        show (if j = i then h i else if j < i then h j else s.c j) = if j < i + 1 then h j else s.c j
        by_cases h1 : j = i
        · subst h1; rw [if_pos rfl, if_pos (by omega)]
        · rw [if_neg h1]
          by_cases h2 : j < i
          · rw [if_pos h2, if_pos (by omega)]
          · rw [if_neg h2, if_neg (by omega)])
      have HNB : Hid (But g w (wr.setCell ⟨g, 210 + i, none⟩ (.int .u32 (h i : Int)))) := hbut.put _ _
      have hcv : (h i : Int) % 4294967296 = (h i : Int) := by have := HH.out i; rw [mdK, if_neg hkk] at this; omega
      clear hst hbut
      generalize (h i : Int) = Z at *
      go_wp2_with (go_at_call 50; refine (HIW.out _).mono ?_; rintro e wx ⟨rfl, hx⟩)
      go_roundw
      case rel =>
        first
        | exact ⟨i + 1, by omega, by go_num, HN.out, HNB.out⟩
        | ((repeat apply Exists.intro); refine And.intro ?_ rfl; exact ⟨i + 1, by omega, by go_num, HN.out, HNB.out⟩)
      case measure => simp [intOf]; omega
    · obtain rfl : i = 8 := by omega
      have HN : Hid (StAt wr g k ⟨s.n, s.r, h⟩) := hst.congr _ rfl (fun _ _ => rfl) (fun j hj => if_pos hj)
      have HNB := hidD hbut
      clear hst hbut
      go_wp2_with fail
      refine bodyPost_end (v := .tuple #[]) (by simp [results, Try.results48, go_sem]) rfl ⟨rfl, HN.out, HNB.out⟩
end Go.Proofs.Ytnldpofljeodiaa
/- What takeBlock of sha does to a state. -/
namespace Go.Proofs.Ytnldpofljeodiaa
open Go.RowKit
set_option linter.unusedVariables false

set_option maxRecDepth 100000 in
set_option maxHeartbeats 1600000 in
theorem takeW_any (k : Nat) (hkk : 256 < k) (hk5 : k ≤ 512) (g : Nat) (s : Ps) (hcl : ∀ j, s.c j < mdK k) (w : World) (hs : StAt w g k s) : Calls Try.prog 49 #[.pointer (some ⟨g, 0, none⟩)] w fun e w' => e = .returned (.tuple #[]) ∧ StAt w' g k ⟨s.n, s.r, afK k s.r s.c⟩ ∧ But g w w' := by
  have HIW : Hid (∀ w, Calls Try.prog 50 #[.int .i64 (k : Int)] w fun e w' => e = .returned (.bool true) ∧ w' = w) := fun w => by have := isWide_any k w; rw [decide_eq_true hkk] at this; exact this
  have HSH : Hid (∀ w, Calls Try.prog 52 #[] w fun e w' => e = .returned (.agg shW) ∧ Below w.heap.size w w') := fun w => wide_any w
  have hcl2 : ∀ j, s.c j < 18446744073709551616 := fun j => by have := hcl j; rw [mdK, if_pos hkk] at this; exact this
  have HAF : Hid (∀ wA, StAt wA g k s → Calls Try.prog 62 #[.agg (rowZ .u64 8 (fun j => (s.c j : Int))), .slice (some ⟨g, 2, none⟩) 128 128, .agg (rowZ .u64 80 (fun j => (coS k j : Int))), .agg shW] wA fun e w' => e = .returned (.agg (rowZ .u64 8 (fun j => (afK k s.r s.c j : Int)))) ∧ Below wA.heap.size wA w') := fun wA hA => by
    have := afterW_any s.c (coS k) hcl2 (co_lt k) s.r g 2 128 128 (by omega) (by omega) (by omega) wA hA.lt (fun q hq => hA.rest (by omega))
    have he : afK k s.r s.c = afW s.r (coS k) s.c := by funext j; unfold afK; rw [if_pos hkk]
    rw [he]; exact this
  have ck := hs.kind
  have q0 : Hid (∀ i : KB w [g], (Instr.loadAt 90 (.pointer (some ⟨g, 218, none⟩))).run Try.prog i.v = .ok (.agg (rowZ .u64 8 (fun j => (s.c j : Int)))) i.v) := fun i => StAt.load61 (show StAt i.v g k s from (i.keep g (by simp)).trans hs) hkk
  have q1 : Hid (∀ i : KB w [g], (Instr.loadAt 79 (.pointer (some ⟨g, 130, none⟩))).run Try.prog i.v = .ok (.agg (rowZ .u64 80 (fun j => (coS k j : Int)))) i.v) := fun i => StAt.load50 (show StAt i.v g k s from (i.keep g (by simp)).trans hs)
  have HS := hidD hs
  have HO8 : Hid (∀ f : Nat → Int, (rowZ .u64 8 f).all (·.oneCell') = true) := fun f => rowZ_one _ _ _
  have HI8 : Hid (∀ f : Nat → Int, (Try.prog.info? 90).map (·.size) = some (rowZ .u64 8 f).size) := fun f => by rw [Try.size61s, rowZ_size]
  have HTH : Hid (∀ (wA : World) (f : Nat → Int), StAt wA g k s → wA.there g 218 (rowZ .u64 8 f).size) := fun wA f h => by rw [rowZ_size]; exact StRow.there h _ _ (by omega)
  have HFIN : Hid (∀ wA, StAt wA g k s → But g w wA → StAt (wA.setCells g 218 (rowZ .u64 8 (fun j => (afK k s.r s.c j : Int))).toList) g k ⟨s.n, s.r, afK k s.r s.c⟩ ∧ But g w (wA.setCells g 218 (rowZ .u64 8 (fun j => (afK k s.r s.c j : Int))).toList)) := fun wA h hb => ⟨h.put_wide hkk _, hb.sets _ _⟩
  have HKK : Hid (∀ wA wB, Below wA.heap.size wA wB → StAt wA g k s → (∃ i : KB w [g], wB = i.v) ∧ StAt wB g k s) := fun wA wB hb h => ⟨⟨⟨wB, fun x hx => by
    obtain rfl : x = g := by simpa using hx
    exact ((h.next hb).trans HS.out.symm)⟩, rfl⟩, h.next hb⟩
  have HGS : Hid (g < w.heap.size) := hs.lt
  clear hs hcl hcl2
  generalize rowZ .u64 8 = R8 at *
  generalize rowZ .u64 80 (fun j => (coS k j : Int)) = RK at *
  generalize shW = SH at *
  go_enter Try.func49, Try.ntmps49
  go_wp2_with (go_at_call 50; refine (HIW.out _).mono ?_; rintro e wx ⟨rfl, hx⟩)
  clear ck
  refine wp_region_loud [true, true, true, true, true, true, true, true, true, true, true, true, true, false, false, false, false] [g] (by simp) (by kernel_rfl) rfl rfl (by kernel_rfl) (by kernel_rfl) (by kernel_rfl) (by kernel_rfl) (by kernel_rfl) (by kernel_rfl) (fun _ _ _ _ _ h => h) ?_
  simp only [List.dropLast_cons_cons, List.dropLast_singleton, List.getLast_cons_cons, List.getLast_singleton, List.cons_append, List.nil_append, mute, qPick, lPick]
  iterate 4 (go_big_quiet_step (fail))
  refine quiet_load rfl 90 _ rfl ⟨g, 218, none⟩ rfl _ (fun w' hw' => by obtain ⟨i, rfl⟩ := hw'; exact q0.out i) ?_
  simp only [Act.put, List.setIfInBounds_toArray, List.set_cons_succ, List.set_cons_zero]
  iterate 7 (go_big_quiet_step (fail))
  refine quiet_load rfl 79 _ rfl ⟨g, 130, none⟩ rfl _ (fun w' hw' => by obtain ⟨i, rfl⟩ := hw'; exact q1.out i) ?_
  simp only [Act.put, List.setIfInBounds_toArray, List.set_cons_succ, List.set_cons_zero]
  refine wpQuiet_nil ?_
  simp only [LoudW]
  have HSD : Hid (StAt w.drew g k s) := HS.out
  have HBD : Hid (But g w w.drew) := But.of ((Below.refl _ _).drew) (Nat.le_of_lt HGS.out)
  go_wp2_with (go_at_call 52; refine (HSH.out _).mono ?_; rintro e w1 ⟨rfl, hb1⟩)
  obtain ⟨hk1, hs1⟩ := HKK.out _ _ hb1 HSD.out
  have HB1 := hidD (HBD.out.below hb1 (Nat.le_of_lt HGS.out))
  have HK1 := hidD hk1
  have HS1 := hidD hs1
  clear hk1 hs1 hb1
  refine ⟨HK1.out, ?_⟩
  go_wp2_with (go_at_call 62; refine (HAF.out _ HS1.out).mono ?_; rintro e w2 ⟨rfl, hb2⟩)
  obtain ⟨hk2, hs2⟩ := HKK.out _ _ hb2 HS1.out
  have HB2 := hidD (HB1.out.below hb2 (Nat.le_of_lt HGS.out))
  have HK2 := hidD hk2
  have HS2 := hidD hs2
  clear hk2 hs2 hb2
  refine ⟨HK2.out, ?_⟩
  go_wp2_with fail
  refine ⟨HK2.out, ?_⟩
  go_wp2_with fail
  refine ⟨HK2.out, ?_⟩
  go_wp2_with (refine wpList_store_mid rfl 90 _ _ rfl g 218 (R8 (fun j => (afK k s.r s.c j : Int))) rfl rfl (HTH.out _ _ HS2.out) (HI8.out _) (HO8.out _) ?_)
  obtain ⟨f1, f2⟩ := HFIN.out _ HS2.out HB2.out
  refine bodyPost_end (v := .tuple #[]) (by simp [results, Try.results49, go_sem]) rfl ⟨rfl, f1, f2⟩
set_option maxRecDepth 100000 in
set_option maxHeartbeats 1600000 in
theorem takeN_any (k : Nat) (hkk : ¬ 256 < k) (hk5 : k ≤ 512) (g : Nat) (s : Ps) (hcl : ∀ j, s.c j < mdK k) (w : World) (hs : StAt w g k s) : Calls Try.prog 49 #[.pointer (some ⟨g, 0, none⟩)] w fun e w' => e = .returned (.tuple #[]) ∧ StAt w' g k ⟨s.n, s.r, afK k s.r s.c⟩ ∧ But g w w' := by
  have HIW : Hid (∀ w, Calls Try.prog 50 #[.int .i64 (k : Int)] w fun e w' => e = .returned (.bool false) ∧ w' = w) := fun w => by have := isWide_any k w; rw [decide_eq_false hkk] at this; exact this
  have HSH : Hid (∀ w, Calls Try.prog 54 #[] w fun e w' => e = .returned (.agg shN) ∧ Below w.heap.size w w') := fun w => narrow_any w
  have hcl2 : ∀ j, s.c j < 4294967296 := fun j => by have := hcl j; rw [mdK, if_neg hkk] at this; exact this
  have HAF : Hid (∀ wA, StAt wA g k s → Calls Try.prog 63 #[.agg (rowZ .u32 8 (fun j => (s.c j : Int))), .slice (some ⟨g, 2, none⟩) 64 128, .agg (rowZ .u64 80 (fun j => (coS k j : Int))), .agg shN] wA fun e w' => e = .returned (.agg (rowZ .u32 8 (fun j => (afK k s.r s.c j : Int)))) ∧ Below wA.heap.size wA w') := fun wA hA => by
    have := afterN_any s.c (coS k) hcl2 (co_lt k) s.r g 2 64 128 (by omega) (by omega) (by omega) wA hA.lt (fun q hq => hA.rest (by omega))
    have he : afK k s.r s.c = afN s.r (coS k) s.c := by funext j; unfold afK; rw [if_neg hkk]
    rw [he]; exact this
  have ck := hs.kind
  have q0 : Hid (∀ i : KB w [g], (Instr.loadAt 88 (.pointer (some ⟨g, 210, none⟩))).run Try.prog i.v = .ok (.agg (rowZ .u32 8 (fun j => (s.c j : Int)))) i.v) := fun i => StAt.load59 (show StAt i.v g k s from (i.keep g (by simp)).trans hs) hkk
  have q1 : Hid (∀ i : KB w [g], (Instr.loadAt 79 (.pointer (some ⟨g, 130, none⟩))).run Try.prog i.v = .ok (.agg (rowZ .u64 80 (fun j => (coS k j : Int)))) i.v) := fun i => StAt.load50 (show StAt i.v g k s from (i.keep g (by simp)).trans hs)
  have HS := hidD hs
  have HO8 : Hid (∀ f : Nat → Int, (rowZ .u32 8 f).all (·.oneCell') = true) := fun f => rowZ_one _ _ _
  have HI8 : Hid (∀ f : Nat → Int, (Try.prog.info? 88).map (·.size) = some (rowZ .u32 8 f).size) := fun f => by rw [Try.size59s, rowZ_size]
  have HTH : Hid (∀ (wA : World) (f : Nat → Int), StAt wA g k s → wA.there g 210 (rowZ .u32 8 f).size) := fun wA f h => by rw [rowZ_size]; exact StRow.there h _ _ (by omega)
  have HFIN : Hid (∀ wA, StAt wA g k s → But g w wA → StAt (wA.setCells g 210 (rowZ .u32 8 (fun j => (afK k s.r s.c j : Int))).toList) g k ⟨s.n, s.r, afK k s.r s.c⟩ ∧ But g w (wA.setCells g 210 (rowZ .u32 8 (fun j => (afK k s.r s.c j : Int))).toList)) := fun wA h hb => ⟨h.put_narrow hkk _, hb.sets _ _⟩
  have HKK : Hid (∀ wA wB, Below wA.heap.size wA wB → StAt wA g k s → (∃ i : KB w [g], wB = i.v) ∧ StAt wB g k s) := fun wA wB hb h => ⟨⟨⟨wB, fun x hx => by
    obtain rfl : x = g := by simpa using hx
    exact ((h.next hb).trans HS.out.symm)⟩, rfl⟩, h.next hb⟩
  have HGS : Hid (g < w.heap.size) := hs.lt
  clear hs hcl hcl2
  generalize rowZ .u32 8 = R8 at *
  generalize rowZ .u64 80 (fun j => (coS k j : Int)) = RK at *
  generalize shN = SH at *
  go_enter Try.func49, Try.ntmps49
  go_wp2_with (go_at_call 50; refine (HIW.out _).mono ?_; rintro e wx ⟨rfl, hx⟩)
  clear ck
  refine wp_region_loud [true, true, true, true, true, true, true, true, true, true, true, true, true, false, false, false, false] [g] (by simp) (by kernel_rfl) rfl rfl (by kernel_rfl) (by kernel_rfl) (by kernel_rfl) (by kernel_rfl) (by kernel_rfl) (by kernel_rfl) (fun _ _ _ _ _ h => h) ?_
  simp only [List.dropLast_cons_cons, List.dropLast_singleton, List.getLast_cons_cons, List.getLast_singleton, List.cons_append, List.nil_append, mute, qPick, lPick]
  iterate 4 (go_big_quiet_step (fail))
  refine quiet_load rfl 88 _ rfl ⟨g, 210, none⟩ rfl _ (fun w' hw' => by obtain ⟨i, rfl⟩ := hw'; exact q0.out i) ?_
  simp only [Act.put, List.setIfInBounds_toArray, List.set_cons_succ, List.set_cons_zero]
  iterate 7 (go_big_quiet_step (fail))
  refine quiet_load rfl 79 _ rfl ⟨g, 130, none⟩ rfl _ (fun w' hw' => by obtain ⟨i, rfl⟩ := hw'; exact q1.out i) ?_
  simp only [Act.put, List.setIfInBounds_toArray, List.set_cons_succ, List.set_cons_zero]
  refine wpQuiet_nil ?_
  simp only [LoudW]
  have HSD : Hid (StAt w.drew g k s) := HS.out
  have HBD : Hid (But g w w.drew) := But.of ((Below.refl _ _).drew) (Nat.le_of_lt HGS.out)
  go_wp2_with (go_at_call 54; refine (HSH.out _).mono ?_; rintro e w1 ⟨rfl, hb1⟩)
  obtain ⟨hk1, hs1⟩ := HKK.out _ _ hb1 HSD.out
  have HB1 := hidD (HBD.out.below hb1 (Nat.le_of_lt HGS.out))
  have HK1 := hidD hk1
  have HS1 := hidD hs1
  clear hk1 hs1 hb1
  refine ⟨HK1.out, ?_⟩
  go_wp2_with (go_at_call 63; refine (HAF.out _ HS1.out).mono ?_; rintro e w2 ⟨rfl, hb2⟩)
  obtain ⟨hk2, hs2⟩ := HKK.out _ _ hb2 HS1.out
  have HB2 := hidD (HB1.out.below hb2 (Nat.le_of_lt HGS.out))
  have HK2 := hidD hk2
  have HS2 := hidD hs2
  clear hk2 hs2 hb2
  refine ⟨HK2.out, ?_⟩
  go_wp2_with fail
  refine ⟨HK2.out, ?_⟩
  go_wp2_with fail
  refine ⟨HK2.out, ?_⟩
  go_wp2_with (refine wpList_store_mid rfl 88 _ _ rfl g 210 (R8 (fun j => (afK k s.r s.c j : Int))) rfl rfl (HTH.out _ _ HS2.out) (HI8.out _) (HO8.out _) ?_)
  obtain ⟨f1, f2⟩ := HFIN.out _ HS2.out HB2.out
  refine bodyPost_end (v := .tuple #[]) (by simp [results, Try.results49, go_sem]) rfl ⟨rfl, f1, f2⟩
end Go.Proofs.Ytnldpofljeodiaa
