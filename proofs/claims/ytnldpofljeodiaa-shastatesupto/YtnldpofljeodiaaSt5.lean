/- What Sum of a state of sha answers. -/
import Derived.Test.YtnldpofljeodiaaGt
namespace Go.Proofs.Ytnldpofljeodiaa
open Go.RowKit
set_option linter.unusedVariables false

set_option maxRecDepth 100000 in
set_option maxHeartbeats 1600000 in
theorem sumW_any (k : Nat) (hk : Kind k) (hkk : 256 < k) (g : Nat) (s : Ps) (hn : s.n < 18446744073709551616) (hcl : ∀ j, s.c j < mdK k) (w : World) (hs : StAt w g k s) : Calls Try.prog 28 #[.pointer (some ⟨g, 0, none⟩)] w fun e w' => ∃ g', e = .returned (.slice (some ⟨g', 0, none⟩) (k / 8) (k / 8)) ∧ w.heap.size ≤ g' ∧ RowZ w' g' .u8 (k / 8) 5 (fun i => ((dgP k s i).toNat : Int)) ∧ Below w.heap.size w w' := by
  have HIW : Hid (∀ w, Calls Try.prog 50 #[.int .i64 (k : Int)] w fun e w' => e = .returned (.bool true) ∧ w' = w) := fun w => by have := isWide_any k w; rw [decide_eq_true hkk] at this; exact this
  have HSH : Hid (∀ w, Calls Try.prog 52 #[] w fun e w' => e = .returned (.agg shW) ∧ Below w.heap.size w w') := fun w => wide_any w
  have HSZ : Hid (∀ w, Calls Try.prog 36 #[.int .i64 (k : Int)] w fun e w' => e = .returned (.tuple #[.int .i64 ((k / 8 : Nat) : Int), .int .i64 (blkN k : Int), .int .i64 0]) ∧ w' = w) := fun w => size_any k hk w
  have HCL : Hid (∀ w, StAt w g k s → Calls Try.prog 32 #[.pointer (some ⟨g, 0, none⟩)] w fun e w' => ∃ g', e = .returned (.pointer (some ⟨g', 0, none⟩)) ∧ w.heap.size ≤ g' ∧ StAt w' g' k s ∧ Below w.heap.size w w') := fun w h => clone_any k g s w h
  have HPD : Hid (∀ w, Calls Try.prog 43 #[.int .i64 (blkN k : Int), .int .u64 (s.n : Int)] w fun e w' => ∃ g, e = .returned (.slice (some ⟨g, 0, none⟩) (padL k s.n).length (padL k s.n).length) ∧ w.heap.size ≤ g ∧ ByAt w' (.slice (some ⟨g, 0, none⟩) (padL k s.n).length (padL k s.n).length) (padL k s.n) ∧ Below w.heap.size w w') := fun w => (padding_any k s.n hn w).mono fun e w' ⟨g, h1, h2, h3, h4⟩ => ⟨g, by rw [padL_len]; exact h1, h2, by have := rowZ_by h3; rw [padL_len]; unfold padL; simpa using this, h4⟩
  have HWR : Hid (∀ (g1 g2 : Nat) (wA : World), g2 ≠ g1 → StAt wA g1 k s → ByAt wA (.slice (some ⟨g2, 0, none⟩) (padL k s.n).length (padL k s.n).length) (padL k s.n) → Calls Try.prog 26 #[.pointer (some ⟨g1, 0, none⟩), .slice (some ⟨g2, 0, none⟩) (padL k s.n).length (padL k s.n).length] wA fun e w' => e = .returned (.int .i64 ((padL k s.n).length : Int)) ∧ StAt w' g1 k (feedP k s (padL k s.n)) ∧ But g1 wA w') := fun g1 g2 wA hne h1 h2 => write_any k hk g1 s hn hcl (padL k s.n) (by rw [padL_len]; have := rm_le k s.n; omega) _ _ wA h1 h2 (fun _ h o n c e => by simp only [Value.slice.injEq, Option.some.injEq, Addr.mk.injEq] at e; omega)
  have HFC : Hid (∀ j, (feedP k s (padL k s.n)).c j < 18446744073709551616) := fun j => by have := feed_lt k (padL k s.n) s hcl j; rw [mdK, if_pos hkk] at this; exact this
  have HDG : Hid (∀ i, dgP k s i = cbS 8 (feedP k s (padL k s.n)).c i) := fun i => by unfold dgP cbK; rw [if_pos hkk]
  have HBY : Hid (∀ w, Calls Try.prog 51 #[.agg (rowZ .u64 8 (fun j => ((feedP k s (padL k s.n)).c j : Int))), .int .i64 ((k / 8 : Nat) : Int), .agg shW] w fun e w' => ∃ g, e = .returned (.slice (some ⟨g, 0, none⟩) (k / 8) (k / 8)) ∧ w.heap.size ≤ g ∧ RowZ w' g .u8 (k / 8) 5 (fun i => ((dgP k s i).toNat : Int)) ∧ Below w.heap.size w w') := fun w => (bytesW_any _ HFC.out (k / 8) (by have := hk.le; omega) w).mono fun e w' ⟨g, h1, h2, h3, h4⟩ => ⟨g, h1, h2, h3.congr fun i _ => by rw [HDG.out], h4⟩
  have ck := hs.kind
  have cn := hs.len
  have HS := hidD hs
  have HGL := hidD hs.lt
  clear hs hcl HDG HFC
  generalize hPL : padL k s.n = PL at *
  generalize hFS : feedP k s PL = FS at *
  have hbk := blk_pos k
  generalize blkN k = BK at *
  obtain ⟨K8, hK8⟩ : ∃ K8, k / 8 = K8 := ⟨_, rfl⟩
  rw [hK8] at HSZ HBY
  rw [hK8]
  clear hPL hFS hK8
  generalize shW = SH at *
  generalize PL.length = LL at *
  go_enter Try.func28, Try.ntmps28
  go_wp2_with fail
  go_at_call 32
  refine (HCL.out _ HS.out).mono ?_
  rintro e w1 ⟨g1, rfl, hg1, hs1, hb1⟩
  have HS1 := hidD hs1
  have HB1 := hidD hb1
  have HG1 := hidD hg1
  have HSG := hidD (HS.out.next hb1)
  have ck1 := HSG.out.kind
  have cn1 := HSG.out.len
  clear hs1 hb1 hg1 ck cn HCL
  go_wp2_with (go_at_call 36; refine (HSZ.out _).mono ?_; rintro e wx ⟨rfl, hx⟩)
  go_at_call 43
  refine (HPD.out _).mono ?_
  rintro e w2 ⟨g2, rfl, hg2, hby, hb2⟩
  have HS2 := hidD (HS1.out.next hb2)
  have HSG2 := hidD (HSG.out.next hb2)
  have HB2 := hidD (Below.next HB1.out hb2)
  have hne2 : g2 ≠ g1 := by have := HS1.out.lt; omega
  have HWW := hidD (HWR.out g1 g2 _ hne2 HS2.out hby)
  clear hby hb2 HS1 HSG HB1 HWR HPD
  go_wp2_with fail
  go_at_call 26
  refine HWW.out.mono ?_
  rintro e w3 ⟨rfl, hs3, hb3⟩
  have hgg : g ≠ g1 := by have := HGL.out; have := HG1.out; omega
  have HSG3 := hidD (HSG2.out.but hb3 hgg)
  have HS3 := hidD hs3
  have HB3 : Hid (Below w.heap.size w w3) := HB2.out.trans (hb3.bel.mono HG1.out)
  have ck3 := HSG3.out.kind
  clear hs3 hb3 HSG2 HS2 HB2 HWW ck1 cn1 hne2 hgg hg2
  go_wp2_with (go_at_call 50; refine (HIW.out _).mono ?_; rintro e wx ⟨rfl, hx⟩)
  have q0 : Hid (∀ i : KB w3 [g1], (Instr.loadAt 90 (.pointer (some ⟨g1, 218, none⟩))).run Try.prog i.v = .ok (.agg (rowZ .u64 8 (fun j => (FS.c j : Int)))) i.v) := fun i => StAt.load61 (show StAt i.v g1 k FS from (i.keep g1 (by simp)).trans HS3.out) hkk
  have HKK : Hid (∀ wB, Below w3.heap.size w3 wB → ∃ i : KB w3 [g1], wB = i.v) := fun wB hb => ⟨⟨wB, fun x hx => by
    obtain rfl : x = g1 := by simpa using hx
    exact hb.block _ HS3.out.lt⟩, rfl⟩
  generalize rowZ .u64 8 (fun j => (FS.c j : Int)) = R8 at *
  refine wp_region_loud0 [true, true, true, true, true, false, false, false] [g1] (by kernel_rfl) (by kernel_rfl) (by kernel_rfl) (by kernel_rfl) (by kernel_rfl) (fun _ _ _ _ _ h => h) ?_
  simp only [qPick, lPick]
  iterate 3 (go_big_quiet_step (fail))
  refine quiet_load rfl 90 _ rfl ⟨g1, 218, none⟩ rfl _ (fun w' hw' => by obtain ⟨i, rfl⟩ := hw'; exact q0.out i) ?_
  simp only [Act.put, List.setIfInBounds_toArray, List.set_cons_succ, List.set_cons_zero]
  iterate 1 (go_big_quiet_step (fail))
  refine wpQuiet_nil ?_
  simp only [LoudW]
  have HD3 : Hid (Below w3.heap.size w3 w3.drew) := (Below.refl _ _).drew
  go_wp2_with (go_at_call 52; refine (HSH.out _).mono ?_; rintro e w4 ⟨rfl, hb4⟩)
  have HB4 : Hid (Below w3.heap.size w3 w4) := HD3.out.trans hb4
  clear hb4
  refine ⟨HKK.out _ HB4.out, ?_⟩
  go_wp2_with (go_at_call 51; refine (HBY.out _).mono ?_; rintro e w5 ⟨g5, rfl, hg5, hr5, hb5⟩)
  have HB5 : Hid (Below w3.heap.size w3 w5) := Below.next HB4.out hb5
  have HFIN : Hid (w.heap.size ≤ g5 ∧ RowZ w5 g5 .u8 K8 5 (fun i => ((dgP k s i).toNat : Int)) ∧ Below w.heap.size w w5) := ⟨Nat.le_trans HB3.out.size (Nat.le_trans HB4.out.size hg5), hr5, HB3.out.trans (HB5.out.mono HB3.out.size)⟩
  clear hb5 hr5 hg5
  refine ⟨HKK.out _ HB5.out, ?_⟩
  go_wp2_with fail
  refine ⟨HKK.out _ HB5.out, ?_⟩
  go_wp2_with fail
  go_ret
  exact ⟨g5, rfl, HFIN.out⟩
set_option maxRecDepth 100000 in
set_option maxHeartbeats 1600000 in
theorem sumN_any (k : Nat) (hk : Kind k) (hkk : ¬ 256 < k) (g : Nat) (s : Ps) (hn : s.n < 18446744073709551616) (hcl : ∀ j, s.c j < mdK k) (w : World) (hs : StAt w g k s) : Calls Try.prog 28 #[.pointer (some ⟨g, 0, none⟩)] w fun e w' => ∃ g', e = .returned (.slice (some ⟨g', 0, none⟩) (k / 8) (k / 8)) ∧ w.heap.size ≤ g' ∧ RowZ w' g' .u8 (k / 8) 5 (fun i => ((dgP k s i).toNat : Int)) ∧ Below w.heap.size w w' := by
  have HIW : Hid (∀ w, Calls Try.prog 50 #[.int .i64 (k : Int)] w fun e w' => e = .returned (.bool false) ∧ w' = w) := fun w => by have := isWide_any k w; rw [decide_eq_false hkk] at this; exact this
  have HSH : Hid (∀ w, Calls Try.prog 54 #[] w fun e w' => e = .returned (.agg shN) ∧ Below w.heap.size w w') := fun w => narrow_any w
  have HSZ : Hid (∀ w, Calls Try.prog 36 #[.int .i64 (k : Int)] w fun e w' => e = .returned (.tuple #[.int .i64 ((k / 8 : Nat) : Int), .int .i64 (blkN k : Int), .int .i64 0]) ∧ w' = w) := fun w => size_any k hk w
  have HCL : Hid (∀ w, StAt w g k s → Calls Try.prog 32 #[.pointer (some ⟨g, 0, none⟩)] w fun e w' => ∃ g', e = .returned (.pointer (some ⟨g', 0, none⟩)) ∧ w.heap.size ≤ g' ∧ StAt w' g' k s ∧ Below w.heap.size w w') := fun w h => clone_any k g s w h
  have HPD : Hid (∀ w, Calls Try.prog 43 #[.int .i64 (blkN k : Int), .int .u64 (s.n : Int)] w fun e w' => ∃ g, e = .returned (.slice (some ⟨g, 0, none⟩) (padL k s.n).length (padL k s.n).length) ∧ w.heap.size ≤ g ∧ ByAt w' (.slice (some ⟨g, 0, none⟩) (padL k s.n).length (padL k s.n).length) (padL k s.n) ∧ Below w.heap.size w w') := fun w => (padding_any k s.n hn w).mono fun e w' ⟨g, h1, h2, h3, h4⟩ => ⟨g, by rw [padL_len]; exact h1, h2, by have := rowZ_by h3; rw [padL_len]; unfold padL; simpa using this, h4⟩
  have HWR : Hid (∀ (g1 g2 : Nat) (wA : World), g2 ≠ g1 → StAt wA g1 k s → ByAt wA (.slice (some ⟨g2, 0, none⟩) (padL k s.n).length (padL k s.n).length) (padL k s.n) → Calls Try.prog 26 #[.pointer (some ⟨g1, 0, none⟩), .slice (some ⟨g2, 0, none⟩) (padL k s.n).length (padL k s.n).length] wA fun e w' => e = .returned (.int .i64 ((padL k s.n).length : Int)) ∧ StAt w' g1 k (feedP k s (padL k s.n)) ∧ But g1 wA w') := fun g1 g2 wA hne h1 h2 => write_any k hk g1 s hn hcl (padL k s.n) (by rw [padL_len]; have := rm_le k s.n; omega) _ _ wA h1 h2 (fun _ h o n c e => by simp only [Value.slice.injEq, Option.some.injEq, Addr.mk.injEq] at e; omega)
  have HFC : Hid (∀ j, (feedP k s (padL k s.n)).c j < 4294967296) := fun j => by have := feed_lt k (padL k s.n) s hcl j; rw [mdK, if_neg hkk] at this; exact this
  have HDG : Hid (∀ i, dgP k s i = cbS 4 (feedP k s (padL k s.n)).c i) := fun i => by unfold dgP cbK; rw [if_neg hkk]
  have HBY : Hid (∀ w, Calls Try.prog 53 #[.agg (rowZ .u32 8 (fun j => ((feedP k s (padL k s.n)).c j : Int))), .int .i64 ((k / 8 : Nat) : Int), .agg shN] w fun e w' => ∃ g, e = .returned (.slice (some ⟨g, 0, none⟩) (k / 8) (k / 8)) ∧ w.heap.size ≤ g ∧ RowZ w' g .u8 (k / 8) 5 (fun i => ((dgP k s i).toNat : Int)) ∧ Below w.heap.size w w') := fun w => (bytesN_any _ HFC.out (k / 8) (by have := hk.le; omega) w).mono fun e w' ⟨g, h1, h2, h3, h4⟩ => ⟨g, h1, h2, h3.congr fun i _ => by rw [HDG.out], h4⟩
  have ck := hs.kind
  have cn := hs.len
  have HS := hidD hs
  have HGL := hidD hs.lt
  clear hs hcl HDG HFC
  generalize hPL : padL k s.n = PL at *
  generalize hFS : feedP k s PL = FS at *
  have hbk := blk_pos k
  generalize blkN k = BK at *
  obtain ⟨K8, hK8⟩ : ∃ K8, k / 8 = K8 := ⟨_, rfl⟩
  rw [hK8] at HSZ HBY
  rw [hK8]
  clear hPL hFS hK8
  generalize shN = SH at *
  generalize PL.length = LL at *
  go_enter Try.func28, Try.ntmps28
  go_wp2_with fail
  go_at_call 32
  refine (HCL.out _ HS.out).mono ?_
  rintro e w1 ⟨g1, rfl, hg1, hs1, hb1⟩
  have HS1 := hidD hs1
  have HB1 := hidD hb1
  have HG1 := hidD hg1
  have HSG := hidD (HS.out.next hb1)
  have ck1 := HSG.out.kind
  have cn1 := HSG.out.len
  clear hs1 hb1 hg1 ck cn HCL
  go_wp2_with (go_at_call 36; refine (HSZ.out _).mono ?_; rintro e wx ⟨rfl, hx⟩)
  go_at_call 43
  refine (HPD.out _).mono ?_
  rintro e w2 ⟨g2, rfl, hg2, hby, hb2⟩
  have HS2 := hidD (HS1.out.next hb2)
  have HSG2 := hidD (HSG.out.next hb2)
  have HB2 := hidD (Below.next HB1.out hb2)
  have hne2 : g2 ≠ g1 := by have := HS1.out.lt; omega
  have HWW := hidD (HWR.out g1 g2 _ hne2 HS2.out hby)
  clear hby hb2 HS1 HSG HB1 HWR HPD
  go_wp2_with fail
  go_at_call 26
  refine HWW.out.mono ?_
  rintro e w3 ⟨rfl, hs3, hb3⟩
  have hgg : g ≠ g1 := by have := HGL.out; have := HG1.out; omega
  have HSG3 := hidD (HSG2.out.but hb3 hgg)
  have HS3 := hidD hs3
  have HB3 : Hid (Below w.heap.size w w3) := HB2.out.trans (hb3.bel.mono HG1.out)
  have ck3 := HSG3.out.kind
  clear hs3 hb3 HSG2 HS2 HB2 HWW ck1 cn1 hne2 hgg hg2
  go_wp2_with (go_at_call 50; refine (HIW.out _).mono ?_; rintro e wx ⟨rfl, hx⟩)
  have q0 : Hid (∀ i : KB w3 [g1], (Instr.loadAt 88 (.pointer (some ⟨g1, 210, none⟩))).run Try.prog i.v = .ok (.agg (rowZ .u32 8 (fun j => (FS.c j : Int)))) i.v) := fun i => StAt.load59 (show StAt i.v g1 k FS from (i.keep g1 (by simp)).trans HS3.out) hkk
  have HKK : Hid (∀ wB, Below w3.heap.size w3 wB → ∃ i : KB w3 [g1], wB = i.v) := fun wB hb => ⟨⟨wB, fun x hx => by
    obtain rfl : x = g1 := by simpa using hx
    exact hb.block _ HS3.out.lt⟩, rfl⟩
  generalize rowZ .u32 8 (fun j => (FS.c j : Int)) = R8 at *
  refine wp_region_loud0 [true, true, true, true, true, false, false, false] [g1] (by kernel_rfl) (by kernel_rfl) (by kernel_rfl) (by kernel_rfl) (by kernel_rfl) (fun _ _ _ _ _ h => h) ?_
  simp only [qPick, lPick]
  iterate 3 (go_big_quiet_step (fail))
  refine quiet_load rfl 88 _ rfl ⟨g1, 210, none⟩ rfl _ (fun w' hw' => by obtain ⟨i, rfl⟩ := hw'; exact q0.out i) ?_
  simp only [Act.put, List.setIfInBounds_toArray, List.set_cons_succ, List.set_cons_zero]
  iterate 1 (go_big_quiet_step (fail))
  refine wpQuiet_nil ?_
  simp only [LoudW]
  have HD3 : Hid (Below w3.heap.size w3 w3.drew) := (Below.refl _ _).drew
  go_wp2_with (go_at_call 54; refine (HSH.out _).mono ?_; rintro e w4 ⟨rfl, hb4⟩)
  have HB4 : Hid (Below w3.heap.size w3 w4) := HD3.out.trans hb4
  clear hb4
  refine ⟨HKK.out _ HB4.out, ?_⟩
  go_wp2_with (go_at_call 53; refine (HBY.out _).mono ?_; rintro e w5 ⟨g5, rfl, hg5, hr5, hb5⟩)
  have HB5 : Hid (Below w3.heap.size w3 w5) := Below.next HB4.out hb5
  have HFIN : Hid (w.heap.size ≤ g5 ∧ RowZ w5 g5 .u8 K8 5 (fun i => ((dgP k s i).toNat : Int)) ∧ Below w.heap.size w w5) := ⟨Nat.le_trans HB3.out.size (Nat.le_trans HB4.out.size hg5), hr5, HB3.out.trans (HB5.out.mono HB3.out.size)⟩
  clear hb5 hr5 hg5
  refine ⟨HKK.out _ HB5.out, ?_⟩
  go_wp2_with fail
  refine ⟨HKK.out _ HB5.out, ?_⟩
  go_wp2_with fail
  go_ret
  exact ⟨g5, rfl, HFIN.out⟩
theorem stSum_any (k : Nat) (hk : Kind k) (g : Nat) (s : Ps) (hn : s.n < 18446744073709551616) (hcl : ∀ j, s.c j < mdK k) (w : World) (hs : StAt w g k s) : Calls Try.prog 28 #[.pointer (some ⟨g, 0, none⟩)] w fun e w' => ∃ g', e = .returned (.slice (some ⟨g', 0, none⟩) (k / 8) (k / 8)) ∧ w.heap.size ≤ g' ∧ RowZ w' g' .u8 (k / 8) 5 (fun i => ((dgP k s i).toNat : Int)) ∧ Below w.heap.size w w' := by
  by_cases h : 256 < k
  · exact sumW_any k hk h g s hn hcl w hs
  · exact sumN_any k hk h g s hn hcl w hs
end Go.Proofs.Ytnldpofljeodiaa
