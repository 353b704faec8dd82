/- What takeBlock of sha does to a state. -/
import Derived.Test.YtjpcndhdlbkilaaSt1
namespace Go.Proofs.Ytjpcndhdlbkilaa
open Go.RowKit
set_option linter.unusedVariables false

set_option maxRecDepth 100000 in
set_option maxHeartbeats 1600000 in
theorem takeW_any (k : Nat) (hkk : 256 < k) (hk5 : k ≤ 512) (g : Nat) (s : Ps) (hcl : ∀ j, s.c j < mdK k) (w : World) (hs : StAt w g k s) : Calls Try.prog 27 #[.pointer (some ⟨g, 0, none⟩)] w fun e w' => e = .returned (.tuple #[]) ∧ StAt w' g k ⟨s.n, s.r, afK k s.r s.c⟩ ∧ But g w w' := by
  have HIW : Hid (∀ w, Calls Try.prog 29 #[.int .i64 (k : Int)] w fun e w' => e = .returned (.bool true) ∧ w' = w) := fun w => by have := isWide_any k w; rw [decide_eq_true hkk] at this; exact this
  have HSH : Hid (∀ w, Calls Try.prog 31 #[] w fun e w' => e = .returned (.agg shW) ∧ Below w.heap.size w w') := fun w => wide_any w
  have hcl2 : ∀ j, s.c j < 18446744073709551616 := fun j => by have := hcl j; rw [mdK, if_pos hkk] at this; exact this
  have HAF : Hid (∀ wA, StAt wA g k s → Calls Try.prog 42 #[.agg (rowZ .u64 8 (fun j => (s.c j : Int))), .slice (some ⟨g, 2, none⟩) 128 128, .agg (rowZ .u64 80 (fun j => (coS k j : Int))), .agg shW] wA fun e w' => e = .returned (.agg (rowZ .u64 8 (fun j => (afK k s.r s.c j : Int)))) ∧ Below wA.heap.size wA w') := fun wA hA => by
    have := afterW_any s.c (coS k) hcl2 (co_lt k) s.r g 2 128 128 (by omega) (by omega) (by omega) wA hA.lt (fun q hq => hA.rest (by omega))
    have he : afK k s.r s.c = afW s.r (coS k) s.c := by funext j; unfold afK; rw [if_pos hkk]
    rw [he]; exact this
  have ck := hs.kind
  have q0 : Hid (∀ i : KB w [g], (Instr.loadAt 61 (.pointer (some ⟨g, 218, none⟩))).run Try.prog i.v = .ok (.agg (rowZ .u64 8 (fun j => (s.c j : Int)))) i.v) := fun i => StAt.load61 (show StAt i.v g k s from (i.keep g (by simp)).trans hs) hkk
  have q1 : Hid (∀ i : KB w [g], (Instr.loadAt 50 (.pointer (some ⟨g, 130, none⟩))).run Try.prog i.v = .ok (.agg (rowZ .u64 80 (fun j => (coS k j : Int)))) i.v) := fun i => StAt.load50 (show StAt i.v g k s from (i.keep g (by simp)).trans hs)
  have HS := hidD hs
  have HO8 : Hid (∀ f : Nat → Int, (rowZ .u64 8 f).all (·.oneCell') = true) := fun f => rowZ_one _ _ _
  have HI8 : Hid (∀ f : Nat → Int, (Try.prog.info? 61).map (·.size) = some (rowZ .u64 8 f).size) := fun f => by rw [Try.size61s, rowZ_size]
  have HTH : Hid (∀ (wA : World) (f : Nat → Int), StAt wA g k s → wA.there g 218 (rowZ .u64 8 f).size) := fun wA f h => by rw [rowZ_size]; exact StRow.there h _ _ (by omega)
  have HFIN : Hid (∀ wA, StAt wA g k s → But g w wA → StAt (wA.setCells g 218 (rowZ .u64 8 (fun j => (afK k s.r s.c j : Int))).toList) g k ⟨s.n, s.r, afK k s.r s.c⟩ ∧ But g w (wA.setCells g 218 (rowZ .u64 8 (fun j => (afK k s.r s.c j : Int))).toList)) := fun wA h hb => ⟨h.put_wide hkk _, hb.sets _ _⟩
  have HKK : Hid (∀ wA wB, Below wA.heap.size wA wB → StAt wA g k s → (∃ i : KB w [g], wB = i.v) ∧ StAt wB g k s) := fun wA wB hb h => ⟨⟨⟨wB, fun x hx => by
    obtain rfl : x = g := by simpa using hx
    exact ((h.next hb).trans HS.out.symm)⟩, rfl⟩, h.next hb⟩
  have HGS : Hid (g < w.heap.size) := hs.lt
  clear hs hcl hcl2
  generalize rowZ .u64 8 = R8 at *
  generalize rowZ .u64 80 (fun j => (coS k j : Int)) = RK at *
  generalize shW = SH at *
  go_enter Try.func27, Try.ntmps27
  go_wp2_with (go_at_call 29; refine (HIW.out _).mono ?_; rintro e wx ⟨rfl, hx⟩)
  clear ck
  refine wp_region_loud [true, true, true, true, true, true, true, true, true, true, true, true, true, false, false, false, false] [g] (by simp) (by kernel_rfl) rfl rfl (by kernel_rfl) (by kernel_rfl) (by kernel_rfl) (by kernel_rfl) (by kernel_rfl) (by kernel_rfl) (fun _ _ _ _ _ h => h) ?_
  simp only [List.dropLast_cons_cons, List.dropLast_singleton, List.getLast_cons_cons, List.getLast_singleton, List.cons_append, List.nil_append, mute, qPick, lPick]
  iterate 4 (go_big_quiet_step (fail))
  refine quiet_load rfl 61 _ rfl ⟨g, 218, none⟩ rfl _ (fun w' hw' => by obtain ⟨i, rfl⟩ := hw'; exact q0.out i) ?_
  simp only [Act.put, List.setIfInBounds_toArray, List.set_cons_succ, List.set_cons_zero]
  iterate 7 (go_big_quiet_step (fail))
  refine quiet_load rfl 50 _ rfl ⟨g, 130, none⟩ rfl _ (fun w' hw' => by obtain ⟨i, rfl⟩ := hw'; exact q1.out i) ?_
  simp only [Act.put, List.setIfInBounds_toArray, List.set_cons_succ, List.set_cons_zero]
  refine wpQuiet_nil ?_
  simp only [LoudW]
  have HSD : Hid (StAt w.drew g k s) := HS.out
  have HBD : Hid (But g w w.drew) := But.of ((Below.refl _ _).drew) (Nat.le_of_lt HGS.out)
  go_wp2_with (go_at_call 31; refine (HSH.out _).mono ?_; rintro e w1 ⟨rfl, hb1⟩)
  obtain ⟨hk1, hs1⟩ := HKK.out _ _ hb1 HSD.out
  have HB1 := hidD (HBD.out.below hb1 (Nat.le_of_lt HGS.out))
  have HK1 := hidD hk1
  have HS1 := hidD hs1
  clear hk1 hs1 hb1
  refine ⟨HK1.out, ?_⟩
  go_wp2_with (go_at_call 42; refine (HAF.out _ HS1.out).mono ?_; rintro e w2 ⟨rfl, hb2⟩)
  obtain ⟨hk2, hs2⟩ := HKK.out _ _ hb2 HS1.out
  have HB2 := hidD (HB1.out.below hb2 (Nat.le_of_lt HGS.out))
  have HK2 := hidD hk2
  have HS2 := hidD hs2
  clear hk2 hs2 hb2
  refine ⟨HK2.out, ?_⟩
  go_wp2_with fail
  refine ⟨HK2.out, ?_⟩
  go_wp2_with fail
  refine ⟨HK2.out, ?_⟩
  go_wp2_with (refine wpList_store_mid rfl 61 _ _ rfl g 218 (R8 (fun j => (afK k s.r s.c j : Int))) rfl rfl (HTH.out _ _ HS2.out) (HI8.out _) (HO8.out _) ?_)
  obtain ⟨f1, f2⟩ := HFIN.out _ HS2.out HB2.out
  refine bodyPost_end (v := .tuple #[]) (by simp [results, Try.results27, go_sem]) rfl ⟨rfl, f1, f2⟩
set_option maxRecDepth 100000 in
set_option maxHeartbeats 1600000 in
theorem takeN_any (k : Nat) (hkk : ¬ 256 < k) (hk5 : k ≤ 512) (g : Nat) (s : Ps) (hcl : ∀ j, s.c j < mdK k) (w : World) (hs : StAt w g k s) : Calls Try.prog 27 #[.pointer (some ⟨g, 0, none⟩)] w fun e w' => e = .returned (.tuple #[]) ∧ StAt w' g k ⟨s.n, s.r, afK k s.r s.c⟩ ∧ But g w w' := by
  have HIW : Hid (∀ w, Calls Try.prog 29 #[.int .i64 (k : Int)] w fun e w' => e = .returned (.bool false) ∧ w' = w) := fun w => by have := isWide_any k w; rw [decide_eq_false hkk] at this; exact this
  have HSH : Hid (∀ w, Calls Try.prog 33 #[] w fun e w' => e = .returned (.agg shN) ∧ Below w.heap.size w w') := fun w => narrow_any w
  have hcl2 : ∀ j, s.c j < 4294967296 := fun j => by have := hcl j; rw [mdK, if_neg hkk] at this; exact this
  have HAF : Hid (∀ wA, StAt wA g k s → Calls Try.prog 43 #[.agg (rowZ .u32 8 (fun j => (s.c j : Int))), .slice (some ⟨g, 2, none⟩) 64 128, .agg (rowZ .u64 80 (fun j => (coS k j : Int))), .agg shN] wA fun e w' => e = .returned (.agg (rowZ .u32 8 (fun j => (afK k s.r s.c j : Int)))) ∧ Below wA.heap.size wA w') := fun wA hA => by
    have := afterN_any s.c (coS k) hcl2 (co_lt k) s.r g 2 64 128 (by omega) (by omega) (by omega) wA hA.lt (fun q hq => hA.rest (by omega))
    have he : afK k s.r s.c = afN s.r (coS k) s.c := by funext j; unfold afK; rw [if_neg hkk]
    rw [he]; exact this
  have ck := hs.kind
  have q0 : Hid (∀ i : KB w [g], (Instr.loadAt 59 (.pointer (some ⟨g, 210, none⟩))).run Try.prog i.v = .ok (.agg (rowZ .u32 8 (fun j => (s.c j : Int)))) i.v) := fun i => StAt.load59 (show StAt i.v g k s from (i.keep g (by simp)).trans hs) hkk
  have q1 : Hid (∀ i : KB w [g], (Instr.loadAt 50 (.pointer (some ⟨g, 130, none⟩))).run Try.prog i.v = .ok (.agg (rowZ .u64 80 (fun j => (coS k j : Int)))) i.v) := fun i => StAt.load50 (show StAt i.v g k s from (i.keep g (by simp)).trans hs)
  have HS := hidD hs
  have HO8 : Hid (∀ f : Nat → Int, (rowZ .u32 8 f).all (·.oneCell') = true) := fun f => rowZ_one _ _ _
  have HI8 : Hid (∀ f : Nat → Int, (Try.prog.info? 59).map (·.size) = some (rowZ .u32 8 f).size) := fun f => by rw [Try.size59s, rowZ_size]
  have HTH : Hid (∀ (wA : World) (f : Nat → Int), StAt wA g k s → wA.there g 210 (rowZ .u32 8 f).size) := fun wA f h => by rw [rowZ_size]; exact StRow.there h _ _ (by omega)
  have HFIN : Hid (∀ wA, StAt wA g k s → But g w wA → StAt (wA.setCells g 210 (rowZ .u32 8 (fun j => (afK k s.r s.c j : Int))).toList) g k ⟨s.n, s.r, afK k s.r s.c⟩ ∧ But g w (wA.setCells g 210 (rowZ .u32 8 (fun j => (afK k s.r s.c j : Int))).toList)) := fun wA h hb => ⟨h.put_narrow hkk _, hb.sets _ _⟩
  have HKK : Hid (∀ wA wB, Below wA.heap.size wA wB → StAt wA g k s → (∃ i : KB w [g], wB = i.v) ∧ StAt wB g k s) := fun wA wB hb h => ⟨⟨⟨wB, fun x hx => by
    obtain rfl : x = g := by simpa using hx
    exact ((h.next hb).trans HS.out.symm)⟩, rfl⟩, h.next hb⟩
  have HGS : Hid (g < w.heap.size) := hs.lt
  clear hs hcl hcl2
  generalize rowZ .u32 8 = R8 at *
  generalize rowZ .u64 80 (fun j => (coS k j : Int)) = RK at *
  generalize shN = SH at *
  go_enter Try.func27, Try.ntmps27
  go_wp2_with (go_at_call 29; refine (HIW.out _).mono ?_; rintro e wx ⟨rfl, hx⟩)
  clear ck
  refine wp_region_loud [true, true, true, true, true, true, true, true, true, true, true, true, true, false, false, false, false] [g] (by simp) (by kernel_rfl) rfl rfl (by kernel_rfl) (by kernel_rfl) (by kernel_rfl) (by kernel_rfl) (by kernel_rfl) (by kernel_rfl) (fun _ _ _ _ _ h => h) ?_
  simp only [List.dropLast_cons_cons, List.dropLast_singleton, List.getLast_cons_cons, List.getLast_singleton, List.cons_append, List.nil_append, mute, qPick, lPick]
  iterate 4 (go_big_quiet_step (fail))
  refine quiet_load rfl 59 _ rfl ⟨g, 210, none⟩ rfl _ (fun w' hw' => by obtain ⟨i, rfl⟩ := hw'; exact q0.out i) ?_
  simp only [Act.put, List.setIfInBounds_toArray, List.set_cons_succ, List.set_cons_zero]
  iterate 7 (go_big_quiet_step (fail))
  refine quiet_load rfl 50 _ rfl ⟨g, 130, none⟩ rfl _ (fun w' hw' => by obtain ⟨i, rfl⟩ := hw'; exact q1.out i) ?_
  simp only [Act.put, List.setIfInBounds_toArray, List.set_cons_succ, List.set_cons_zero]
  refine wpQuiet_nil ?_
  simp only [LoudW]
  have HSD : Hid (StAt w.drew g k s) := HS.out
  have HBD : Hid (But g w w.drew) := But.of ((Below.refl _ _).drew) (Nat.le_of_lt HGS.out)
  go_wp2_with (go_at_call 33; refine (HSH.out _).mono ?_; rintro e w1 ⟨rfl, hb1⟩)
  obtain ⟨hk1, hs1⟩ := HKK.out _ _ hb1 HSD.out
  have HB1 := hidD (HBD.out.below hb1 (Nat.le_of_lt HGS.out))
  have HK1 := hidD hk1
  have HS1 := hidD hs1
  clear hk1 hs1 hb1
  refine ⟨HK1.out, ?_⟩
  go_wp2_with (go_at_call 43; refine (HAF.out _ HS1.out).mono ?_; rintro e w2 ⟨rfl, hb2⟩)
  obtain ⟨hk2, hs2⟩ := HKK.out _ _ hb2 HS1.out
  have HB2 := hidD (HB1.out.below hb2 (Nat.le_of_lt HGS.out))
  have HK2 := hidD hk2
  have HS2 := hidD hs2
  clear hk2 hs2 hb2
  refine ⟨HK2.out, ?_⟩
  go_wp2_with fail
  refine ⟨HK2.out, ?_⟩
  go_wp2_with fail
  refine ⟨HK2.out, ?_⟩
  go_wp2_with (refine wpList_store_mid rfl 59 _ _ rfl g 210 (R8 (fun j => (afK k s.r s.c j : Int))) rfl rfl (HTH.out _ _ HS2.out) (HI8.out _) (HO8.out _) ?_)
  obtain ⟨f1, f2⟩ := HFIN.out _ HS2.out HB2.out
  refine bodyPost_end (v := .tuple #[]) (by simp [results, Try.results27, go_sem]) rfl ⟨rfl, f1, f2⟩
end Go.Proofs.Ytjpcndhdlbkilaa
