/- The walk of ShelfCopies: true for every slice of notes and every note, and nothing that was there has changed. -/
import Derived.Test.YtnjjpahpaeblfabCopyA
namespace Go.Proofs.Ytnjjpahpaeblfab
open Go.RowKit Go.Maps Go.Sort
set_option linter.unusedVariables false

theorem grown_cell {w w' : World} {row : Option Nat} (h : w.grownBy w' row) {b o : Nat} (hb : b < w.heap.size) (hne : some b ≠ row) : w'.cell? ⟨b, o, none⟩ = w.cell? ⟨b, o, none⟩ := World.cell?_of_block (a := ⟨b, o, none⟩) (h.block b hb hne)

set_option maxRecDepth 100000 in
set_option maxHeartbeats 1000000 in
theorem copies_any (L : List Ne) (sl : Value) (mo : Ne) (w : World) (hL : NotesAt w sl L) (hM : NeOk w mo) :
    Calls Try.prog 3 #[sl, .agg #[.string ⟨mo.n.name.toArray⟩, .int .i64 mo.n.words, .int .u32 mo.n.sum, .slice mo.a mo.n.leans.length mo.cap]] w fun e w' => e = .returned (.bool true) ∧ Below w.heap.size w w' := by
  have hlen := hL.2.1
  obtain ⟨a, cap, rfl⟩ : ∃ a cap, sl = .slice a L.length cap := by
    rcases hL.1 with ⟨rfl, a, cap, rfl⟩ | ⟨g, off, cap, rfl, _⟩
    · exact ⟨a, cap, rfl⟩
    · exact ⟨_, cap, rfl⟩
  have HL0 := hidIt hL
  have HM0 := hidIt hM
  clear hL hM
  go_enter Try.func3, Try.ntmps3
  go_wp2_with fail
  have HX0 := hidIt ((Below.refl w.heap.size w).alloc (Nat.le_refl _) (.cells #[.string ⟨mo.n.name.toArray⟩, .int .i64 mo.n.words, .int .u32 mo.n.sum, .slice mo.a mo.n.leans.length mo.cap] 26))
  have HC0 : Hid (CellsAt (w.alloc (.cells #[.string ⟨mo.n.name.toArray⟩, .int .i64 mo.n.words, .int .u32 mo.n.sum, .slice mo.a mo.n.leans.length mo.cap] 26)) w.heap.size 0 mo) := ⟨by simp, by simp, by simp, by simp⟩
  have hz0 : (w.alloc (.cells #[.string ⟨mo.n.name.toArray⟩, .int .i64 mo.n.words, .int .u32 mo.n.sum, .slice mo.a mo.n.leans.length mo.cap] 26)).heap.size = w.heap.size + 1 := by simp
  generalize w.alloc (.cells #[.string ⟨mo.n.name.toArray⟩, .int .i64 mo.n.words, .int .u32 mo.n.sum, .slice mo.a mo.n.leans.length mo.cap] 26) = w0 at *
  have HL : Hid (∀ w', Below w0.heap.size w0 w' → NotesAt w' (.slice a L.length cap) L) := fun w' hb => (HL0.out.below HX0.out (Nat.le_refl _)).below hb (Nat.le_refl _)
  have HMO : Hid (∀ w', Below w0.heap.size w0 w' → NeOk w' mo ∧ CellsAt w' w.heap.size 0 mo) := fun w' hb => ⟨(HM0.out.below HX0.out (Nat.le_refl _)).below hb (Nat.le_refl _), HC0.out.below hb (by omega)⟩
  have HEND : Hid (∀ w', Below w0.heap.size w0 w' → Below w.heap.size w w') := fun w' hb => HX0.out.trans (hb.mono (by omega))
  clear HL0 HM0 HX0 HC0
  obtain ⟨mb, hmb⟩ : ∃ mb, w.heap.size = mb := ⟨_, rfl⟩
  rw [hmb] at HMO hz0 ⊢
  have HMB := hidIt hmb
  clear hmb
  refine (alive_any _).mono ?_
  rintro e w1 ⟨rfl, hb1⟩
  have HB1 := hidIt hb1
  have hsz1 := hb1.size
  clear hb1
  go_wp2_with fail
  refine (new_at w1).mono ?_
  rintro e w2 ⟨rfl, hS2, hb2, hz2⟩
  have HB2 : Hid (Below w0.heap.size w0 w2) := HB1.out.trans (hb2.mono hsz1)
  have HS2 := hidIt hS2
  clear hS2 hb2
  generalize hp : w1.heap.size + 1 = p at *
  generalize hb : w1.heap.size = b at *
  have o1 : w0.heap.size ≤ b := by omega
  have o2 : b < p := by omega
  have o3 : p < w2.heap.size := by omega
  clear hp hb hz2 hsz1 HB1
  go_wp2_with fail
  go_loopw [6] (fun i wr => ∃ (k : Nat) (S : List Nt) (F : Nat → Prop) (D : DataW Value), k ≤ L.length ∧ i = .int .i64 k ∧ SH wr p b F S D ∧ Tracked S L k ∧ (∀ j, F j → j < wr.heap.size) ∧ Below w0.heap.size w0 wr)
    (fun i _ => L.length - (intOf i).toNat)
  case atStart =>
    exact ⟨0, [], _, _, Nat.zero_le _, rfl, HS2.out, Tracked.start L, by rintro j (rfl | rfl) <;> omega, HB2.out⟩
  case round =>
    clear HS2 HB2
    obtain ⟨k, S, F, D, hk, rfl, hS, hTr, hF, hnx⟩ := hrel
    have HS := hidIt hS
    have HTR := hidIt hTr
    have HF := hidIt hF
    have HNX := hidIt hnx
    have hszn := hnx.size
    by_cases hlt : k < L.length
    · have hNL := HL.out wr hnx
      have hok := hNL.2.2 _ (mem_getD1 hlt)
      rcases hNL.1 with ⟨h0, _⟩ | ⟨g, off, cap', hsl, hg, hcl⟩
      · rw [h0] at hlt; exact absurd hlt (by simp)
      cases hsl
      obtain ⟨hc0, hc1, hc2, hc3⟩ := hcl k hlt
      have HST := hidIt (hTr.step hlt)
      have hki : (k : Int) < L.length := by omega
      have HOK := hidIt hok
      clear hcl hNL hok hS hTr hF hnx
      generalize L.getD k ne0 = x at *
      have hlnb : x.n.leans.length ≤ 8796093022208 := HOK.out.ok.leans.1
      go_wp2_with fail
      refine (own_any x.n HOK.out.ok x.a x.cap wr HOK.out.at_).mono ?_
      rintro e w4 ⟨a4, c4, rfl, hr4, hne4, hb4⟩
      have HB4 : Hid (Below w0.heap.size w0 w4) := HNX.out.trans (hb4.mono hszn)
      have HS4 := hidIt (HS.out.below hb4 (Nat.le_refl _))
      have HROW4 := hidIt hr4
      have hs4 := hb4.size
      obtain ⟨ad4, rfl⟩ : ∃ q, a4 = some q := by cases a4 with | none => exact absurd rfl hne4 | some q => exact ⟨q, rfl⟩
      obtain ⟨g4, rfl⟩ : ∃ g4, ad4 = ⟨g4, 0, none⟩ := by
        rcases hr4.2 with ⟨h0, _⟩ | ⟨g, cap2, cur, hv, _⟩
        · cases h0
        · rw [Value.slice.injEq] at hv; exact ⟨g, by injection hv.1⟩
      have hg4 : wr.heap.size ≤ g4 ∧ g4 < w4.heap.size := hr4.lt g4 rfl
      have hbw : b < wr.heap.size := HS.out.own.lt
      clear hb4 hr4 hne4 hc0 hc1 hc2 hc3
      go_wp2_with fail
      have HX5 := hidIt ((Below.refl w4.heap.size w4).alloc (Nat.le_refl _) (.cells #[.string ⟨x.n.name.toArray⟩, .int .i64 x.n.words, .int .u32 x.n.sum, .slice (some ⟨g4, 0, none⟩) x.n.leans.length c4] 30))
      have e3 : (w4.alloc (.cells #[.string ⟨x.n.name.toArray⟩, .int .i64 x.n.words, .int .u32 x.n.sum, .slice (some ⟨g4, 0, none⟩) x.n.leans.length c4] 30)).cell? ⟨w4.heap.size, 3, none⟩ = some (.slice (some ⟨g4, 0, none⟩) x.n.leans.length c4) := by simp
      have hz5 : (w4.alloc (.cells #[.string ⟨x.n.name.toArray⟩, .int .i64 x.n.words, .int .u32 x.n.sum, .slice (some ⟨g4, 0, none⟩) x.n.leans.length c4] 30)).heap.size = w4.heap.size + 1 := by simp
      generalize w4.alloc (.cells #[.string ⟨x.n.name.toArray⟩, .int .i64 x.n.words, .int .u32 x.n.sum, .slice (some ⟨g4, 0, none⟩) x.n.leans.length c4] 30) = w5 at *
      generalize hn8 : w4.heap.size = n8 at *
      have HS5 := hidIt (HS4.out.below HX5.out (by omega))
      have HB5 : Hid (Below w0.heap.size w0 w5) := HB4.out.trans (HX5.out.mono (by have := HB4.out.size; omega))
      have HROW5 := hidIt (HROW4.out.kept (grown_of_below (HX5.out.mono (by omega)) (row := none)) (by simp [Value.ownBlock]))
      clear HS4 HROW4 HX5 hn8 HB4
      refine (add_agg x.n HOK.out.ok (some ⟨g4, 0, none⟩) c4 w5 (StrsAt.of_row HROW5.out) p b F S D HS5.out).mono ?_
      rintro e w6 ⟨F6, D6, rfl, hS6, hF6, hFF6, hg6⟩
      have HB6 : Hid (Below w0.heap.size w0 w6) := HB5.out.grown hg6 HB5.out.size (fun j hj => by cases hj; exact o1)
      have HS6 := hidIt hS6
      have hsz6 := hg6.size
      have q3 : w6.cell? ⟨n8, 3, none⟩ = some (.slice (some ⟨g4, 0, none⟩) x.n.leans.length c4) := (grown_cell hg6 (by omega) (by simp; omega)).trans e3
      have HROW9 := hidIt (row_mono (HROW5.out.kept hg6 (.inr (by simp only [Value.ownBlock, ne_eq, Option.some.injEq]; omega))) hszn)
      have HFG : Hid (∀ j, F6 j → j < w6.heap.size ∧ j ≠ g4) := fun j hj => by
        rcases hF6 j hj with h | h
        · have := HF.out j h; omega
        · omega
      have hgw4 : w0.heap.size ≤ g4 := by omega
      clear hS6 hF6 hFF6 hg6 e3 HS5 HB5 HROW5 HOK
      generalize x.n.leans.length = ln at *
      go_wp2_with fail
      go_loopw [8] (fun i wq => ∃ (q : Nat) (xs : List Value), q ≤ ln ∧ i = .int .i64 q ∧ wq.ownsRow w0.heap.size 9 1 (.slice (some ⟨g4, 0, none⟩) ln c4) ln xs ∧ w6.grownBy wq (some g4)) (fun i _ => ln - (intOf i).toNat)
      case atStart => exact ⟨0, _, Nat.zero_le _, rfl, HROW9.out, ⟨rfl, rfl, rfl, Nat.le_refl _, fun _ _ _ => rfl⟩⟩
      case round =>
        clear HROW9
        obtain ⟨q, xs, hq, rfl, hrow, hgr⟩ := hrel
        have HRW := hidIt hrow
        have HGR := hidIt hgr
        have hn3 : wr.cell? ⟨n8, 3, none⟩ = some (.slice (some ⟨g4, 0, none⟩) ln c4) := (grown_cell hgr (by omega) (by simp; omega)).trans q3
        have hszq := hgr.size
        by_cases hlq : q < ln
        · obtain ⟨u, hu⟩ : ∃ u, wr.cell? ⟨g4, q, none⟩ = some u := by
            have hxl : xs.length = ln * 1 := hrow.1
            exact ⟨_, (hrow.cellAt q (by omega)).trans (List.getElem?_eq_getElem (by omega))⟩
          have hfq := hrow.frozenAt q
          have hqi : (q : Int) < ln := by omega
          clear hrow hgr
          go_wp2
          go_roundw
          case rel =>
            have h1 := HRW.out.stored q (.string ⟨#[115, 112, 111, 105, 108, 116]⟩)
            exact ⟨q + 1, _, by omega, by go_num, h1.1, ⟨h1.2.os.trans HGR.out.os, h1.2.tape.trans HGR.out.tape, h1.2.output.trans HGR.out.output, Nat.le_trans HGR.out.size h1.2.size, fun j hj hne => (h1.2.block j (Nat.lt_of_lt_of_le hj HGR.out.size) hne).trans (HGR.out.block j hj hne)⟩⟩
          case measure => simp [intOf]; omega
        · have hd : ¬ (q : Int) < ln := by omega
          clear hrow hgr
          go_wp2
          go_roundw
          case rel =>
            refine ⟨k + 1, addS S x.n, F6, D6, by omega, by go_num, HS6.out.kept hszq (fun j hj hl => HGR.out.block j hl ?_), HST.out, fun j hj => ?_, HB6.out.grown HGR.out HB6.out.size (fun j hj => by cases hj; exact hgw4)⟩
            · have := (HFG.out j hj).2; simpa using this
            · have := (HFG.out j hj).1; omega
          case measure => simp [intOf]; omega
    · obtain ⟨wz, hwz⟩ : ∃ wz, wz = wr := ⟨_, rfl⟩
      subst hwz
      have hkL : ¬ (k : Int) < L.length := by omega
      clear hS hTr hF hnx
      go_wp2_with fail
      refine (notes_any wz p b F S D HS.out).mono ?_
      rintro e wa ⟨va, T0, rfl, hm0, hl0, hr0, hL0, hba⟩
      obtain ⟨a0, c0, rfl⟩ := row_shape hr0
      have HT0 := hidIt hr0
      have HLE0 := hidIt hL0
      have HM0 := hidIt hm0
      have HN0 := hidIt hl0
      have HZA := hidIt hba
      have hsza := hba.size
      have HBa : Hid (Below w0.heap.size w0 wa) := HNX.out.trans (hba.mono hszn)
      have h64 : S.length ≤ 64 := HS.out.few
      clear hr0 hL0 hm0 hl0 hba
      go_wp2_with fail
      refine (clone_any wa p b F S D (HS.out.below HZA.out (Nat.le_refl _))).mono ?_
      rintro e wc ⟨p3, b3, F3, S3, D3, rfl, hS3, hP3, hF3, hbc⟩
      have HS3 := hidIt hS3
      have HP3 := hidIt hP3
      have HBc : Hid (Below wa.heap.size wa wc) := hbc
      have hszc := hbc.size
      have hb3 : wa.heap.size ≤ b3 := (hF3 b3 hS3.fb).1
      have HB0c : Hid (Below w0.heap.size w0 wc) := HBa.out.trans (hbc.mono HBa.out.size)
      obtain ⟨hmok, z0, z1, z2, z3⟩ := HMO.out wc HB0c.out
      have HMOK := hidIt hmok
      clear hS3 hP3 hF3 hbc hmok
      go_wp2_with fail
      refine (own_any mo.n HMOK.out.ok mo.a mo.cap wc HMOK.out.at_).mono ?_
      rintro e wo ⟨ao, co, rfl, hro, hneo, hbo⟩
      have HBo : Hid (Below wa.heap.size wa wo) := HBc.out.trans (hbo.mono hszc)
      have HSo := hidIt (HS3.out.below hbo (Nat.le_refl _))
      have HRo := hidIt (StrsAt.of_row hro)
      have hszo := HBo.out.size
      clear hro hneo hbo z0 z1 z2 z3 HS3
      go_wp2_with fail
      refine (add_agg mo.n HMOK.out.ok ao co wo HRo.out p3 b3 F3 S3 D3 HSo.out).mono ?_
      rintro e wd ⟨F4, D4, rfl, hS4, hF4, hFF4, hg4⟩
      have HAD : Hid (Below wa.heap.size wa wd) := HBo.out.grown hg4 hszo (fun j hj => by cases hj; exact hb3)
      have HZD : Hid (Below wz.heap.size wz wd) := HZA.out.trans (HAD.out.mono hsza)
      have HS4 := hidIt hS4
      have hszd := HAD.out.size
      have HCL : Hid ((addI S3 mo.n = 0 ∧ (addS S3 mo.n).length = S.length + 1) ∨ (addI S3 mo.n ≠ 0 ∧ (addS S3 mo.n).length = S.length)) := by
        have h1 := HP3.out.length_eq
        by_cases h0 : addI S3 mo.n = 0
        · left; refine ⟨h0, ?_⟩; unfold addS; rw [if_pos h0]; simp [h1]
        · right; refine ⟨h0, ?_⟩; unfold addS; rw [if_neg h0]; exact h1
      clear hS4 hF4 hFF4 hg4 HSo HRo HBo HBc HB0c HP3
      generalize addI S3 mo.n = ai at *
      generalize addS S3 mo.n = S4 at *
      generalize hcl : S4.length = cl at *
      have HCLE := hidIt hcl
      clear hcl
      go_wp2_with fail
      refine (notes_any wd p b F S D (HS.out.below HZD.out (Nat.le_refl _))).mono ?_
      rintro e wt ⟨vt, T1, rfl, hm1, hl1, hr1, hL1, hbt⟩
      obtain ⟨a1, c1, rfl⟩ := row_shape hr1
      have HTO := hidIt (Told.of hr1 hL1)
      have HDT := hidIt hbt
      have hT1 : T1.length ≤ 64 := by omega
      have HO1 : Hid (∀ e ∈ T1, e.n.leans.length ≤ 8796093022208) := fun e he => by
        obtain ⟨j, hj, rfl⟩ := List.mem_iff_getElem.1 he
        have h1 := mem_notes HS.out hm1 hj
        rw [getD_ne hj] at h1
        obtain ⟨h2, _⟩ := HS.out.inn _ h1
        exact h2.leans.1
      clear hr1 hL1 hm1 hl1 hbt
      go_wp2_with fail
      go_loopw [13] (fun i wq => ∃ (q : Nat), q ≤ T1.length ∧ i = .int .i64 q ∧ Told wq wd.heap.size (.slice a1 T1.length c1) T1 ∧ Below wd.heap.size wd wq) (fun i _ => T1.length - (intOf i).toNat)
      case atStart => exact ⟨0, Nat.zero_le _, rfl, HTO.out, HDT.out⟩
      case round =>
        clear HTO HDT
        obtain ⟨q, hq, rfl, htd, hbq⟩ := hrel
        have HTD := hidIt htd
        have HBQ := hidIt hbq
        have hszq := hbq.size
        by_cases hlq : q < T1.length
        · obtain ⟨gt, ct, hv, hgt, ⟨u, hu⟩, hfz, hc3⟩ := htd.at_ hlq
          rw [Value.slice.injEq] at hv
          obtain ⟨rfl, hq1, rfl⟩ := hv
          have hqi : (q : Int) < T1.length := by omega
          have HMEM := hidIt (mem_getD1 hlq)
          have hlb := HO1.out _ (mem_getD1 hlq)
          clear htd hbq hq1
          go_wp2_with fail
          go_loopw [14] (fun i wv => ∃ (j : Nat), j ≤ (T1.getD q ne0).n.leans.length ∧ i = .int .i64 j ∧ Told wv wd.heap.size (.slice (some ⟨gt, 0, none⟩) T1.length c1) T1 ∧ Below wd.heap.size wd wv) (fun i _ => (T1.getD q ne0).n.leans.length - (intOf i).toNat)
          case atStart => exact ⟨0, Nat.zero_le _, rfl, HTD.out.name q _, HBQ.out.setCell hgt _⟩
          case round =>
            clear hu hfz hc3 HTD HBQ
            obtain ⟨j, hj, rfl, htd, hbq⟩ := hrel
            have HTD := hidIt htd
            have HBQ := hidIt hbq
            obtain ⟨gt2, ct2, hv, _, _, _, hc3⟩ := htd.at_ hlq
            rw [Value.slice.injEq, Option.some.injEq, Addr.mk.injEq] at hv
            obtain ⟨⟨rfl, _, _⟩, _, _⟩ := hv
            by_cases hlj : j < (T1.getD q ne0).n.leans.length
            · obtain ⟨gl, hga, hgl, ⟨u, hu⟩, hfz⟩ := htd.leanAt HMEM.out hlj
              have HOB : Hid ((Value.slice (T1.getD q ne0).a (T1.getD q ne0).n.leans.length (T1.getD q ne0).cap).ownBlock = some gl) := by show Value.ownBlock _ = _; rw [hga]; rfl
              rw [hga] at hc3
              have hji : (j : Int) < (T1.getD q ne0).n.leans.length := by omega
              clear htd hbq
              generalize hxe : T1.getD q ne0 = x at *
              go_wp2
              go_roundw
              case rel => exact ⟨j + 1, by omega, by go_num, HTD.out.lean_ HMEM.out HOB.out j _, HBQ.out.setCell hgl _⟩
              case measure => simp [intOf]; omega
            · have hjd : ¬ (j : Int) < (T1.getD q ne0).n.leans.length := by omega
              clear htd hbq
              generalize hxe : T1.getD q ne0 = x at *
              go_wp2
              go_roundw
              case rel => exact ⟨q + 1, by omega, by go_num, HTD.out, HBQ.out⟩
              case measure => simp [intOf]; omega
        · have hqd : ¬ (q : Int) < T1.length := by omega
          clear htd hbq
          go_wp2_with fail
          have HZQ : Hid (Below wz.heap.size wz wr) := HZD.out.trans (HBQ.out.mono HZD.out.size)
          have HAQ : Hid (Below wa.heap.size wa wr) := HAD.out.trans (HBQ.out.mono hszd)
          have HS4Q := hidIt (HS4.out.below HBQ.out (Nat.le_refl _))
          refine (notes_any wr p b F S D (HS.out.below HZQ.out (Nat.le_refl _))).mono ?_
          rintro e wn ⟨vn, T2, rfl, hm2, hl2, hr2, hL2, hbn⟩
          obtain ⟨a2, c2, rfl⟩ := row_shape hr2
          have HT2 := hidIt hr2
          have HLE2 := hidIt hL2
          have HM2 := hidIt hm2
          have HAN : Hid (Below wa.heap.size wa wn) := HAQ.out.trans (hbn.mono HAQ.out.size)
          have HZN : Hid (Below wz.heap.size wz wn) := HZQ.out.trans (hbn.mono HZQ.out.size)
          have HLS := hidIt (len_any wn p b F S D (HS.out.below HZN.out (Nat.le_refl _)))
          have HLC := hidIt (len_any wn p3 b3 F4 S4 D4 (HS4Q.out.below hbn (Nat.le_refl _)))
          rw [HCLE.out] at HLC
          have hn0 := HN0.out
          have hT2 : T2.length ≤ 64 := by omega
          have hT0 : T0.length ≤ 64 := by omega
          have x1 : ((T2.length : Int) != (T0.length : Int)) = false := by rw [bne_eq_false_iff_eq]; omega
          have x2 : ((S.length : Int) != (T0.length : Int)) = false := by rw [bne_eq_false_iff_eq]; omega
          have HNE : Hid (T2.length = T0.length) := by show T2.length = T0.length; omega
          have HN0n := hidIt (HBa.out.trans (HAN.out.mono HBa.out.size))
          clear hr2 hL2 hm2 hl2 hbn HCLE HN0
          rcases HCL.out with ⟨h0, h1⟩ | ⟨h0, h1⟩
          · have x3 : ((cl : Int) != (T0.length : Int)) = true := by rw [bne_iff_ne]; omega
            have x4 : ((cl : Int) != (T0.length : Int) + 1) = false := by rw [bne_eq_false_iff_eq]; omega
            have x5 : (ai != 0) = false := by rw [h0]; rfl
            clear h0 h1 hn0 HCL
            go_wp2_with fail
            refine HLS.out.mono ?_
            rintro e w' ⟨rfl, hw'⟩
            have hw2 := hw'.symm
            clear hw'
            subst hw2
            go_wp2_with fail
            refine HLC.out.mono ?_
            rintro e w' ⟨rfl, hw'⟩
            have hw2 := hw'.symm
            clear hw'
            subst hw2
            go_wp2_with fail
            refine HLC.out.mono ?_
            rintro e w' ⟨rfl, hw'⟩
            have hw2 := hw'.symm
            clear hw'
            subst hw2
            go_wp2_with fail
            go_loopw [16] (fun i wq => ∃ (q : Nat), q ≤ T2.length ∧ i = .int .i64 q ∧ Below wn.heap.size wn wq) (fun i _ => T2.length - (intOf i).toNat)
            case atStart => exact ⟨0, Nat.zero_le _, rfl, Below.refl _ _⟩
            case round =>
              obtain ⟨q, hq, rfl, hbq⟩ := hrel
              have HBQ := hidIt hbq
              have hszq := hbq.size
              by_cases hlq : q < T2.length
              · obtain ⟨g2, rfl, hC2⟩ := row_cellsN HT2.out hlq
                have hq0 : q < T0.length := by have := HNE.out; omega
                obtain ⟨g0, rfl, hC0⟩ := row_cellsN HT0.out hq0
                have hsame : (T0.getD q ne0).n = (T2.getD q ne0).n := same_at (HM2.out.trans HM0.out.symm) hlq
                have HMS := hidIt (mem_notes HS.out HM2.out hlq)
                have HY2 := hidIt (StrsAt.of_row (HLE2.out _ (mem_getD1 hlq)))
                have HY0 := hidIt (StrsAt.of_row (HLE0.out _ (mem_getD1 hq0)))
                have hg2 : g2 < wn.heap.size := World.block_lt_of_cell? wn _ hC2.1
                have hg0 : g0 < wa.heap.size := World.block_lt_of_cell? wa _ hC0.1
                have HAR : Hid (Below wa.heap.size wa wr) := HAN.out.trans (hbq.mono HAN.out.size)
                obtain ⟨d0, d1, d2, d3⟩ := hC2.below hbq hg2
                obtain ⟨f0, f1, f2, f3⟩ := hC0.below HAR.out hg0
                rw [hsame] at f0 f1 f2 f3 HY0
                have HYOK := hidIt ((HS.out.inn _ HMS.out).1)
                generalize T2.getD q ne0 = y2 at *
                generalize (T0.getD q ne0).a = u0 at *
                generalize (T0.getD q ne0).cap = v0 at *
                have hqi : (q : Int) < T2.length := by omega
                have hqi0 : (q : Int) < T0.length := by omega
                have hq00 : (0 : Int) ≤ (q : Int) := by omega
                have hg2r : g2 < wr.heap.size := by omega
                have hg0r : g0 < wr.heap.size := Nat.lt_of_lt_of_le hg0 HAR.out.size
                have HTX : Hid (∀ w', Below wr.heap.size wr w' → Calls Try.prog 11 #[.slice y2.a y2.n.leans.length y2.cap, .slice u0 y2.n.leans.length v0] w' fun e w'' => e = .returned (.bool true) ∧ Below w'.heap.size w' w'') := fun w' hb => texts_same y2.n.leans HYOK.out.leans _ _ _ _ w' (HY2.out.below (HBQ.out.trans (hb.mono hszq)) (Nat.le_refl _)) (HY0.out.below (HAR.out.trans (hb.mono HAR.out.size)) (Nat.le_refl _))
                have r0 : ∀ i : BW wr, i.v.cell? ⟨g2, q * 4, none⟩ = some (.string ⟨y2.n.name.toArray⟩) := fun i => (i.cell hg2r).trans d0
                have r1 : ∀ i : BW wr, i.v.cell? ⟨g2, q * 4 + 1, none⟩ = some (.int .i64 y2.n.words) := fun i => (i.cell hg2r).trans d1
                have r2 : ∀ i : BW wr, i.v.cell? ⟨g2, q * 4 + 2, none⟩ = some (.int .u32 y2.n.sum) := fun i => (i.cell hg2r).trans d2
                have r3 : ∀ i : BW wr, i.v.cell? ⟨g2, q * 4 + 3, none⟩ = some (.slice y2.a y2.n.leans.length y2.cap) := fun i => (i.cell hg2r).trans d3
                have s0 : ∀ i : BW wr, i.v.cell? ⟨g0, q * 4, none⟩ = some (.string ⟨y2.n.name.toArray⟩) := fun i => (i.cell hg0r).trans f0
                have s1 : ∀ i : BW wr, i.v.cell? ⟨g0, q * 4 + 1, none⟩ = some (.int .i64 y2.n.words) := fun i => (i.cell hg0r).trans f1
                have s2 : ∀ i : BW wr, i.v.cell? ⟨g0, q * 4 + 2, none⟩ = some (.int .u32 y2.n.sum) := fun i => (i.cell hg0r).trans f2
                have s3 : ∀ i : BW wr, i.v.cell? ⟨g0, q * 4 + 3, none⟩ = some (.slice u0 y2.n.leans.length v0) := fun i => (i.cell hg0r).trans f3
                have HCY : Hid (∀ w', Below wn.heap.size wn w' → w'.cell? ⟨g2, q * 4, none⟩ = some (.string ⟨y2.n.name.toArray⟩) ∧ w'.cell? ⟨g2, q * 4 + 3, none⟩ = some (.slice y2.a y2.n.leans.length y2.cap)) := fun w' hb => ⟨(hC2.below hb hg2).1, (hC2.below hb hg2).2.2.2⟩
                clear d0 d1 d2 d3 f0 f1 f2 f3 hC2 hC0 hbq hsame
                go_wp2_with fail
                refine wp_region_below (by kernel_rfl) (by kernel_rfl) ?_
                repeat (go_big_quiet_step ((go_at_call 11; exact Calls.below_of (HTX.out _ (BW.below _)))))
                refine wpQuiet_nil ?_
                intro i
                have HBI : Hid (Below wn.heap.size wn i.v) := HBQ.out.trans (i.below.mono hszq)
                clear r0 r1 r2 r3 s0 s1 s2 s3 HTX
                generalize i.v = w35 at *
                go_wp2_with fail
                go_loopw [17] (fun i wv => ∃ (kk : Nat), kk ≤ L.length ∧ i = .int .i64 kk ∧ Below wn.heap.size wn wv) (fun i _ => L.length - (intOf i).toNat)
                case atStart => exact ⟨0, Nat.zero_le _, rfl, HBI.out⟩
                case round =>
                  clear HBI HBQ HAR
                  obtain ⟨kk, hkk, rfl, hbk⟩ := hrel
                  have HBK := hidIt hbk
                  have hszk := hbk.size
                  by_cases hlk : kk < L.length
                  · have HB0K : Hid (Below w0.heap.size w0 wr) := HN0n.out.trans (hbk.mono HN0n.out.size)
                    have hNL := HL.out wr HB0K.out
                    have hok := hNL.2.2 _ (mem_getD1 hlk)
                    rcases hNL.1 with ⟨h0, _⟩ | ⟨g, off, cap', hsl, hg, hcl⟩
                    · rw [h0] at hlk; exact absurd hlk (by simp)
                    cases hsl
                    obtain ⟨d0, d1, d2, d3⟩ := hcl kk hlk
                    obtain ⟨r0', r3'⟩ := HCY.out wr hbk
                    have hki : (kk : Int) < L.length := by omega
                    have hk00 : (0 : Int) ≤ (kk : Int) := by omega
                    have hg2k : g2 < wr.heap.size := by omega
                    have HSM : Hid (((L.getD kk ne0).n.name == y2.n.name) = true → firstI L (L.getD kk ne0).n.name = kk → (L.getD kk ne0).n = y2.n) := fun h1 h3 => HTR.out.same HMS.out h1 h3
                    have H12 : Hid (∀ w', Below wr.heap.size wr w' → Calls Try.prog 12 #[.agg #[.string ⟨(L.getD kk ne0).n.name.toArray⟩, .int .i64 (L.getD kk ne0).n.words, .int .u32 (L.getD kk ne0).n.sum, .slice (L.getD kk ne0).a (L.getD kk ne0).n.leans.length (L.getD kk ne0).cap]] w' fun e w2 => e = .returned (.int .i64 (rightI (L.getD kk ne0).n)) ∧ Below w'.heap.size w' w2) := fun w' hb => refRight_any (L.getD kk ne0).n hok.ok _ _ hok.le hok.max w' (hok.at_.below hb (Nat.le_refl _))
                    have H13 : Hid (∀ w', Below wr.heap.size wr w' → Calls Try.prog 13 #[.slice (some ⟨g, off, none⟩) L.length cap, .string ⟨(L.getD kk ne0).n.name.toArray⟩] w' fun e w2 => e = .returned (.int .i64 (firstI L (L.getD kk ne0).n.name)) ∧ Below w'.heap.size w' w2) := fun w' hb => first_any L _ _ _ w' (hNL.below hb (Nat.le_refl _))
                    have HX := hidIt hok.at_
                    have HYW : Hid (∀ w', Below wr.heap.size wr w' → StrsAt w' (.slice y2.a y2.n.leans.length y2.cap) y2.n.leans) := fun w' hb => HY2.out.below (HBK.out.trans (hb.mono hszk)) (Nat.le_refl _)
                    clear hcl hNL hok hbk
                    generalize firstI L (L.getD kk ne0).n.name = fi at *
                    generalize L.getD kk ne0 = z at *
                    generalize rightI z.n = ri at *
                    have r0 : ∀ i : BW wr, i.v.cell? ⟨g2, q * 4, none⟩ = some (.string ⟨y2.n.name.toArray⟩) := fun i => (i.cell hg2k).trans r0'
                    have r3 : ∀ i : BW wr, i.v.cell? ⟨g2, q * 4 + 3, none⟩ = some (.slice y2.a y2.n.leans.length y2.cap) := fun i => (i.cell hg2k).trans r3'
                    clear r0' r3'
                    have t0 : ∀ i : BW wr, i.v.cell? ⟨g, off + kk * 4, none⟩ = some (.string ⟨z.n.name.toArray⟩) := fun i => (i.cell hg).trans d0
                    have t1 : ∀ i : BW wr, i.v.cell? ⟨g, off + kk * 4 + 1, none⟩ = some (.int .i64 z.n.words) := fun i => (i.cell hg).trans d1
                    have t2 : ∀ i : BW wr, i.v.cell? ⟨g, off + kk * 4 + 2, none⟩ = some (.int .u32 z.n.sum) := fun i => (i.cell hg).trans d2
                    have t3 : ∀ i : BW wr, i.v.cell? ⟨g, off + kk * 4 + 3, none⟩ = some (.slice z.a z.n.leans.length z.cap) := fun i => (i.cell hg).trans d3
                    clear d0 d1 d2 d3
                    cases hb1 : (z.n.name == y2.n.name) with
                    | false =>
                      have H11 : Hid True := trivial
                      go_wp2_with fail
                      refine wp_region_below (by kernel_rfl) (by kernel_rfl) ?_
                      repeat (go_big_quiet_step (fail))
                      refine wpQuiet_nil ?_
                      intro i
                      have HBI : Hid (Below wn.heap.size wn i.v) := HBK.out.trans (i.below.mono hszk)
                      clear t0 t1 t2 t3 r0 r3 H11 H12 H13
                      generalize i.v = w40 at *
                      go_wp2
                      go_roundw
                      case rel => exact ⟨kk + 1, by omega, by go_num, HBI.out⟩
                      case measure => simp [intOf]; omega
                    | true =>
                      cases hb2 : (ri == 0) with
                      | false =>
                        have H11 : Hid True := trivial
                        go_wp2_with fail
                        refine wp_region_below (by kernel_rfl) (by kernel_rfl) ?_
                        repeat (go_big_quiet_step (first | (go_at_call 12; exact Calls.below_of (H12.out _ (BW.below _)))))
                        refine wpQuiet_nil ?_
                        intro i
                        have HBI : Hid (Below wn.heap.size wn i.v) := HBK.out.trans (i.below.mono hszk)
                        clear t0 t1 t2 t3 r0 r3 H11 H12 H13
                        generalize i.v = w40 at *
                        go_wp2
                        go_roundw
                        case rel => exact ⟨kk + 1, by omega, by go_num, HBI.out⟩
                        case measure => simp [intOf]; omega
                      | true =>
                        cases hb3 : (fi == (kk : Int)) with
                        | false =>
                          have H11 : Hid True := trivial
                          go_wp2_with fail
                          refine wp_region_below (by kernel_rfl) (by kernel_rfl) ?_
                          repeat (go_big_quiet_step (first | (go_at_call 12; exact Calls.below_of (H12.out _ (BW.below _))) | (go_at_call 13; exact Calls.below_of (H13.out _ (BW.below _)))))
                          refine wpQuiet_nil ?_
                          intro i
                          have HBI : Hid (Below wn.heap.size wn i.v) := HBK.out.trans (i.below.mono hszk)
                          clear t0 t1 t2 t3 r0 r3 H11 H12 H13
                          generalize i.v = w40 at *
                          go_wp2
                          go_roundw
                          case rel => exact ⟨kk + 1, by omega, by go_num, HBI.out⟩
                          case measure => simp [intOf]; omega
                        | true =>
                          have hzn := HSM.out hb1 (by simpa using hb3)
                          have H11 : Hid (∀ w', Below wr.heap.size wr w' → Calls Try.prog 11 #[.slice z.a z.n.leans.length z.cap, .slice y2.a y2.n.leans.length y2.cap] w' fun e w'' => e = .returned (.bool true) ∧ Below w'.heap.size w' w'') := fun w' hb => by
                            have h5 := HX.out.below hb (Nat.le_refl _)
                            rw [hzn] at h5 ⊢
                            exact texts_same y2.n.leans HYOK.out.leans _ _ _ _ w' h5 (HYW.out w' hb)
                          clear hzn
                          go_wp2_with fail
                          refine wp_region_below (by kernel_rfl) (by kernel_rfl) ?_
                          repeat (go_big_quiet_step (first | (go_at_call 12; exact Calls.below_of (H12.out _ (BW.below _))) | (go_at_call 13; exact Calls.below_of (H13.out _ (BW.below _))) | (go_at_call 11; exact Calls.below_of (H11.out _ (BW.below _)))))
                          refine wpQuiet_nil ?_
                          intro i
                          have HBI : Hid (Below wn.heap.size wn i.v) := HBK.out.trans (i.below.mono hszk)
                          clear t0 t1 t2 t3 r0 r3 H11 H12 H13
                          generalize i.v = w40 at *
                          go_wp2
                          go_roundw
                          case rel => exact ⟨kk + 1, by omega, by go_num, HBI.out⟩
                          case measure => simp [intOf]; omega
                  · have hkd : ¬ (kk : Int) < L.length := by omega
                    clear hbk
                    go_wp2
                    go_roundw
                    case rel => exact ⟨q + 1, by omega, by go_num, HBK.out⟩
                    case measure => simp [intOf]; omega
              · have hqd : ¬ (q : Int) < T2.length := by omega
                clear hbq
                go_wp2
                go_ret
                refine ⟨rfl, ?_⟩
                exact HEND.out _ (HN0n.out.trans (HBQ.out.mono HN0n.out.size))
          · have x3 : ((cl : Int) != (T0.length : Int)) = false := by rw [bne_eq_false_iff_eq]; omega
            clear h0 h1 hn0 HCL
            go_wp2_with fail
            refine HLS.out.mono ?_
            rintro e w' ⟨rfl, hw'⟩
            have hw2 := hw'.symm
            clear hw'
            subst hw2
            go_wp2_with fail
            refine HLC.out.mono ?_
            rintro e w' ⟨rfl, hw'⟩
            have hw2 := hw'.symm
            clear hw'
            subst hw2
            go_wp2_with fail
            go_loopw [16] (fun i wq => ∃ (q : Nat), q ≤ T2.length ∧ i = .int .i64 q ∧ Below wn.heap.size wn wq) (fun i _ => T2.length - (intOf i).toNat)
            case atStart => exact ⟨0, Nat.zero_le _, rfl, Below.refl _ _⟩
            case round =>
              obtain ⟨q, hq, rfl, hbq⟩ := hrel
              have HBQ := hidIt hbq
              have hszq := hbq.size
              by_cases hlq : q < T2.length
              · obtain ⟨g2, rfl, hC2⟩ := row_cellsN HT2.out hlq
                have hq0 : q < T0.length := by have := HNE.out; omega
                obtain ⟨g0, rfl, hC0⟩ := row_cellsN HT0.out hq0
                have hsame : (T0.getD q ne0).n = (T2.getD q ne0).n := same_at (HM2.out.trans HM0.out.symm) hlq
                have HMS := hidIt (mem_notes HS.out HM2.out hlq)
                have HY2 := hidIt (StrsAt.of_row (HLE2.out _ (mem_getD1 hlq)))
                have HY0 := hidIt (StrsAt.of_row (HLE0.out _ (mem_getD1 hq0)))
                have hg2 : g2 < wn.heap.size := World.block_lt_of_cell? wn _ hC2.1
                have hg0 : g0 < wa.heap.size := World.block_lt_of_cell? wa _ hC0.1
                have HAR : Hid (Below wa.heap.size wa wr) := HAN.out.trans (hbq.mono HAN.out.size)
                obtain ⟨d0, d1, d2, d3⟩ := hC2.below hbq hg2
                obtain ⟨f0, f1, f2, f3⟩ := hC0.below HAR.out hg0
                rw [hsame] at f0 f1 f2 f3 HY0
                have HYOK := hidIt ((HS.out.inn _ HMS.out).1)
                generalize T2.getD q ne0 = y2 at *
                generalize (T0.getD q ne0).a = u0 at *
                generalize (T0.getD q ne0).cap = v0 at *
                have hqi : (q : Int) < T2.length := by omega
                have hqi0 : (q : Int) < T0.length := by omega
                have hq00 : (0 : Int) ≤ (q : Int) := by omega
                have hg2r : g2 < wr.heap.size := by omega
                have hg0r : g0 < wr.heap.size := Nat.lt_of_lt_of_le hg0 HAR.out.size
                have HTX : Hid (∀ w', Below wr.heap.size wr w' → Calls Try.prog 11 #[.slice y2.a y2.n.leans.length y2.cap, .slice u0 y2.n.leans.length v0] w' fun e w'' => e = .returned (.bool true) ∧ Below w'.heap.size w' w'') := fun w' hb => texts_same y2.n.leans HYOK.out.leans _ _ _ _ w' (HY2.out.below (HBQ.out.trans (hb.mono hszq)) (Nat.le_refl _)) (HY0.out.below (HAR.out.trans (hb.mono HAR.out.size)) (Nat.le_refl _))
                have r0 : ∀ i : BW wr, i.v.cell? ⟨g2, q * 4, none⟩ = some (.string ⟨y2.n.name.toArray⟩) := fun i => (i.cell hg2r).trans d0
                have r1 : ∀ i : BW wr, i.v.cell? ⟨g2, q * 4 + 1, none⟩ = some (.int .i64 y2.n.words) := fun i => (i.cell hg2r).trans d1
                have r2 : ∀ i : BW wr, i.v.cell? ⟨g2, q * 4 + 2, none⟩ = some (.int .u32 y2.n.sum) := fun i => (i.cell hg2r).trans d2
                have r3 : ∀ i : BW wr, i.v.cell? ⟨g2, q * 4 + 3, none⟩ = some (.slice y2.a y2.n.leans.length y2.cap) := fun i => (i.cell hg2r).trans d3
                have s0 : ∀ i : BW wr, i.v.cell? ⟨g0, q * 4, none⟩ = some (.string ⟨y2.n.name.toArray⟩) := fun i => (i.cell hg0r).trans f0
                have s1 : ∀ i : BW wr, i.v.cell? ⟨g0, q * 4 + 1, none⟩ = some (.int .i64 y2.n.words) := fun i => (i.cell hg0r).trans f1
                have s2 : ∀ i : BW wr, i.v.cell? ⟨g0, q * 4 + 2, none⟩ = some (.int .u32 y2.n.sum) := fun i => (i.cell hg0r).trans f2
                have s3 : ∀ i : BW wr, i.v.cell? ⟨g0, q * 4 + 3, none⟩ = some (.slice u0 y2.n.leans.length v0) := fun i => (i.cell hg0r).trans f3
                have HCY : Hid (∀ w', Below wn.heap.size wn w' → w'.cell? ⟨g2, q * 4, none⟩ = some (.string ⟨y2.n.name.toArray⟩) ∧ w'.cell? ⟨g2, q * 4 + 3, none⟩ = some (.slice y2.a y2.n.leans.length y2.cap)) := fun w' hb => ⟨(hC2.below hb hg2).1, (hC2.below hb hg2).2.2.2⟩
                clear d0 d1 d2 d3 f0 f1 f2 f3 hC2 hC0 hbq hsame
                go_wp2_with fail
                refine wp_region_below (by kernel_rfl) (by kernel_rfl) ?_
                repeat (go_big_quiet_step ((go_at_call 11; exact Calls.below_of (HTX.out _ (BW.below _)))))
                refine wpQuiet_nil ?_
                intro i
                have HBI : Hid (Below wn.heap.size wn i.v) := HBQ.out.trans (i.below.mono hszq)
                clear r0 r1 r2 r3 s0 s1 s2 s3 HTX
                generalize i.v = w35 at *
                go_wp2_with fail
                go_loopw [17] (fun i wv => ∃ (kk : Nat), kk ≤ L.length ∧ i = .int .i64 kk ∧ Below wn.heap.size wn wv) (fun i _ => L.length - (intOf i).toNat)
                case atStart => exact ⟨0, Nat.zero_le _, rfl, HBI.out⟩
                case round =>
                  clear HBI HBQ HAR
                  obtain ⟨kk, hkk, rfl, hbk⟩ := hrel
                  have HBK := hidIt hbk
                  have hszk := hbk.size
                  by_cases hlk : kk < L.length
                  · have HB0K : Hid (Below w0.heap.size w0 wr) := HN0n.out.trans (hbk.mono HN0n.out.size)
                    have hNL := HL.out wr HB0K.out
                    have hok := hNL.2.2 _ (mem_getD1 hlk)
                    rcases hNL.1 with ⟨h0, _⟩ | ⟨g, off, cap', hsl, hg, hcl⟩
                    · rw [h0] at hlk; exact absurd hlk (by simp)
                    cases hsl
                    obtain ⟨d0, d1, d2, d3⟩ := hcl kk hlk
                    obtain ⟨r0', r3'⟩ := HCY.out wr hbk
                    have hki : (kk : Int) < L.length := by omega
                    have hk00 : (0 : Int) ≤ (kk : Int) := by omega
                    have hg2k : g2 < wr.heap.size := by omega
                    have HSM : Hid (((L.getD kk ne0).n.name == y2.n.name) = true → firstI L (L.getD kk ne0).n.name = kk → (L.getD kk ne0).n = y2.n) := fun h1 h3 => HTR.out.same HMS.out h1 h3
                    have H12 : Hid (∀ w', Below wr.heap.size wr w' → Calls Try.prog 12 #[.agg #[.string ⟨(L.getD kk ne0).n.name.toArray⟩, .int .i64 (L.getD kk ne0).n.words, .int .u32 (L.getD kk ne0).n.sum, .slice (L.getD kk ne0).a (L.getD kk ne0).n.leans.length (L.getD kk ne0).cap]] w' fun e w2 => e = .returned (.int .i64 (rightI (L.getD kk ne0).n)) ∧ Below w'.heap.size w' w2) := fun w' hb => refRight_any (L.getD kk ne0).n hok.ok _ _ hok.le hok.max w' (hok.at_.below hb (Nat.le_refl _))
                    have H13 : Hid (∀ w', Below wr.heap.size wr w' → Calls Try.prog 13 #[.slice (some ⟨g, off, none⟩) L.length cap, .string ⟨(L.getD kk ne0).n.name.toArray⟩] w' fun e w2 => e = .returned (.int .i64 (firstI L (L.getD kk ne0).n.name)) ∧ Below w'.heap.size w' w2) := fun w' hb => first_any L _ _ _ w' (hNL.below hb (Nat.le_refl _))
                    have HX := hidIt hok.at_
                    have HYW : Hid (∀ w', Below wr.heap.size wr w' → StrsAt w' (.slice y2.a y2.n.leans.length y2.cap) y2.n.leans) := fun w' hb => HY2.out.below (HBK.out.trans (hb.mono hszk)) (Nat.le_refl _)
                    clear hcl hNL hok hbk
                    generalize firstI L (L.getD kk ne0).n.name = fi at *
                    generalize L.getD kk ne0 = z at *
                    generalize rightI z.n = ri at *
                    have r0 : ∀ i : BW wr, i.v.cell? ⟨g2, q * 4, none⟩ = some (.string ⟨y2.n.name.toArray⟩) := fun i => (i.cell hg2k).trans r0'
                    have r3 : ∀ i : BW wr, i.v.cell? ⟨g2, q * 4 + 3, none⟩ = some (.slice y2.a y2.n.leans.length y2.cap) := fun i => (i.cell hg2k).trans r3'
                    clear r0' r3'
                    have t0 : ∀ i : BW wr, i.v.cell? ⟨g, off + kk * 4, none⟩ = some (.string ⟨z.n.name.toArray⟩) := fun i => (i.cell hg).trans d0
                    have t1 : ∀ i : BW wr, i.v.cell? ⟨g, off + kk * 4 + 1, none⟩ = some (.int .i64 z.n.words) := fun i => (i.cell hg).trans d1
                    have t2 : ∀ i : BW wr, i.v.cell? ⟨g, off + kk * 4 + 2, none⟩ = some (.int .u32 z.n.sum) := fun i => (i.cell hg).trans d2
                    have t3 : ∀ i : BW wr, i.v.cell? ⟨g, off + kk * 4 + 3, none⟩ = some (.slice z.a z.n.leans.length z.cap) := fun i => (i.cell hg).trans d3
                    clear d0 d1 d2 d3
                    cases hb1 : (z.n.name == y2.n.name) with
                    | false =>
                      have H11 : Hid True := trivial
                      go_wp2_with fail
                      refine wp_region_below (by kernel_rfl) (by kernel_rfl) ?_
                      repeat (go_big_quiet_step (fail))
                      refine wpQuiet_nil ?_
                      intro i
                      have HBI : Hid (Below wn.heap.size wn i.v) := HBK.out.trans (i.below.mono hszk)
                      clear t0 t1 t2 t3 r0 r3 H11 H12 H13
                      generalize i.v = w40 at *
                      go_wp2
                      go_roundw
                      case rel => exact ⟨kk + 1, by omega, by go_num, HBI.out⟩
                      case measure => simp [intOf]; omega
                    | true =>
                      cases hb2 : (ri == 0) with
                      | false =>
                        have H11 : Hid True := trivial
                        go_wp2_with fail
                        refine wp_region_below (by kernel_rfl) (by kernel_rfl) ?_
                        repeat (go_big_quiet_step (first | (go_at_call 12; exact Calls.below_of (H12.out _ (BW.below _)))))
                        refine wpQuiet_nil ?_
                        intro i
                        have HBI : Hid (Below wn.heap.size wn i.v) := HBK.out.trans (i.below.mono hszk)
                        clear t0 t1 t2 t3 r0 r3 H11 H12 H13
                        generalize i.v = w40 at *
                        go_wp2
                        go_roundw
                        case rel => exact ⟨kk + 1, by omega, by go_num, HBI.out⟩
                        case measure => simp [intOf]; omega
                      | true =>
                        cases hb3 : (fi == (kk : Int)) with
                        | false =>
                          have H11 : Hid True := trivial
                          go_wp2_with fail
                          refine wp_region_below (by kernel_rfl) (by kernel_rfl) ?_
                          repeat (go_big_quiet_step (first | (go_at_call 12; exact Calls.below_of (H12.out _ (BW.below _))) | (go_at_call 13; exact Calls.below_of (H13.out _ (BW.below _)))))
                          refine wpQuiet_nil ?_
                          intro i
                          have HBI : Hid (Below wn.heap.size wn i.v) := HBK.out.trans (i.below.mono hszk)
                          clear t0 t1 t2 t3 r0 r3 H11 H12 H13
                          generalize i.v = w40 at *
                          go_wp2
                          go_roundw
                          case rel => exact ⟨kk + 1, by omega, by go_num, HBI.out⟩
                          case measure => simp [intOf]; omega
                        | true =>
                          have hzn := HSM.out hb1 (by simpa using hb3)
                          have H11 : Hid (∀ w', Below wr.heap.size wr w' → Calls Try.prog 11 #[.slice z.a z.n.leans.length z.cap, .slice y2.a y2.n.leans.length y2.cap] w' fun e w'' => e = .returned (.bool true) ∧ Below w'.heap.size w' w'') := fun w' hb => by
                            have h5 := HX.out.below hb (Nat.le_refl _)
                            rw [hzn] at h5 ⊢
                            exact texts_same y2.n.leans HYOK.out.leans _ _ _ _ w' h5 (HYW.out w' hb)
                          clear hzn
                          go_wp2_with fail
                          refine wp_region_below (by kernel_rfl) (by kernel_rfl) ?_
                          repeat (go_big_quiet_step (first | (go_at_call 12; exact Calls.below_of (H12.out _ (BW.below _))) | (go_at_call 13; exact Calls.below_of (H13.out _ (BW.below _))) | (go_at_call 11; exact Calls.below_of (H11.out _ (BW.below _)))))
                          refine wpQuiet_nil ?_
                          intro i
                          have HBI : Hid (Below wn.heap.size wn i.v) := HBK.out.trans (i.below.mono hszk)
                          clear t0 t1 t2 t3 r0 r3 H11 H12 H13
                          generalize i.v = w40 at *
                          go_wp2
                          go_roundw
                          case rel => exact ⟨kk + 1, by omega, by go_num, HBI.out⟩
                          case measure => simp [intOf]; omega
                  · have hkd : ¬ (kk : Int) < L.length := by omega
                    clear hbk
                    go_wp2
                    go_roundw
                    case rel => exact ⟨q + 1, by omega, by go_num, HBK.out⟩
                    case measure => simp [intOf]; omega
              · have hqd : ¬ (q : Int) < T2.length := by omega
                clear hbq
                go_wp2
                go_ret
                refine ⟨rfl, ?_⟩
                exact HEND.out _ (HN0n.out.trans (HBQ.out.mono HN0n.out.size))
end Go.Proofs.Ytnjjpahpaeblfab
