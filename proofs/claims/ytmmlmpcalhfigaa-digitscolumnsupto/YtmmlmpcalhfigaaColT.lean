/- The walk of DigitsColumns. -/
import Derived.Test.YtmmlmpcalhfigaaRefC
import Derived.Test.YtmmlmpcalhfigaaCpy
import Derived.Test.YtmmlmpcalhfigaaLive
namespace Go.Proofs.Ytmmlmpcalhfigaa
open Go.RowKit Go.Maps Go.Sort
set_option linter.unusedVariables false
theorem Try.info37 : (Try.prog.info? 37).map (fun i => (i.zero, i.size, i.bytes)) = some (some (.slice none 0 0), 1, 24) := by kernel_rfl
theorem Try.info4 : (Try.prog.info? 4).map (fun i => (i.zero, i.size, i.bytes)) = some (some (.bool false), 1, 1) := by kernel_rfl
theorem take_same {L M : List Rw} {r : Rw} (hs : SameRows M (L.take M.length)) (hlt : M.length < L.length) (hr : r.ss = (L.getD M.length rw0).ss) : SameRows (M ++ [r]) (L.take (M ++ [r]).length) := by
  unfold SameRows at *
  rw [List.map_append, hs, show (M ++ [r]).length = M.length + 1 by simp, List.take_add_one, List.map_append, List.getElem?_eq_getElem hlt]
  congr 1
  simp only [List.map_cons, List.map_nil, Option.toList_some, List.cons.injEq, and_true]
  rw [hr, List.getD, List.getElem?_eq_getElem hlt]
  rfl
theorem lines_ok {L : List Rw} (hs : SmallRows L) (rs : List Bool) : StrsOk (linesS L rs) := by
  refine ⟨by rw [linesS_len]; have := hs.rows; omega, fun x hx => ?_⟩
  unfold linesS at hx
  obtain ⟨i, hi, rfl⟩ := List.mem_map.1 hx
  have hi' := List.mem_range.1 hi
  have h1 := hs.cells _ (mem_getDR hi')
  have h2 := lineTo_len (hs.texts _ (mem_getDR hi')) (ws := wsTo L L.length) (rs := rs) _ (Nat.le_refl _)
  unfold lineOf maxLen
  omega
/-- Two rows of one's own that hold the same lines are the same texts. -/
theorem same_two {L M : List Rw} {rs : List Bool} {b1 b2 : Nat} {a4 a5 : Option Addr} {c4 c5 : Nat} {w : World} (hok : StrsOk (linesS L rs)) (hls : linesS M rs = linesS L rs) (hln : (linesS L rs).length = L.length) (hml : M.length = L.length)
    (h1 : w.ownsRow b1 9 1 (.slice a4 M.length c4) M.length ((linesS M rs).map encStr)) (h2 : w.ownsRow b2 9 1 (.slice a5 L.length c5) L.length ((linesS L rs).map encStr)) :
    Calls Try.prog 16 #[.slice a4 M.length c4, .slice a5 L.length c5] w fun e w' => e = .returned (.bool true) ∧ Below w.heap.size w w' := by
  rw [hls, hml, ← hln] at h1
  rw [← hln] at h2
  rw [hml, ← hln]
  have h := sameTexts_any (linesS L rs) (linesS L rs) hok hok a4 a5 c4 c5 w (strs_row h1) (strs_row h2)
  simpa using h
set_option maxRecDepth 100000 in
set_option maxHeartbeats 2000000 in
theorem columnsLaw_any (L : List Rw) (rs : List Bool) (s : List UInt8) (width : Int) (hs : SmallRows L) (hrm : rs.length ≤ 1048576) (hsl : s.length ≤ 1048576) (a ar : Option Addr) (cap cr : Nat) (w : World) (hR : RowsAt w (.slice a L.length cap) L) (hRs : CellsOf w (.slice ar rs.length cr) rs.length (boolAt rs)) (hna : ar = none → cr = 0) :
    Calls Try.prog 4 #[.slice a L.length cap, .slice ar rs.length cr, .string ⟨s.toArray⟩, .int .i64 width] w fun e w' => e = .returned (.bool true) ∧ Below w.heap.size w w' := by
  have hl := hs.rows
  obtain ⟨i9, hi9, hy0, hy1, hy2⟩ := info_parts Try.info9
  obtain ⟨i7, hi7, hx0, hx1, hx2⟩ := info_parts Try.info37
  obtain ⟨i4, hi4, hb0, hb1, hb2⟩ := info_parts Try.info4
  have HS := hidD hs
  have HR : Hid (∀ w', Below w.heap.size w w' → RowsAt w' (.slice a L.length cap) L) := fun w' hb => hR.below hb (Nat.le_refl _)
  have HRS : Hid (∀ w', Below w.heap.size w w' → CellsOf w' (.slice ar rs.length cr) rs.length (boolAt rs)) := fun w' hb => hRs.below hb (Nat.le_refl _)
  have HNA := hidD hna
  clear hR hRs hs hna
  go_enter Try.func4, Try.ntmps4
  go_wp2_with fail
  go_loopw [9, 10] (fun oo ii wr => ∃ M : List Rw, M.length ≤ L.length ∧ ii = .int .i64 M.length ∧ SameRows M (L.take M.length) ∧ OwnRows w.heap.size wr oo M ∧ Below w.heap.size w wr) (fun _ ii _ => L.length - (intOf ii).toNat)
  case atStart => exact ⟨[], Nat.zero_le _, rfl, rfl, ⟨World.ownsRow_nil _ _ _ _, fun r hr => by cases hr⟩, Below.refl _ _⟩
  case round =>
    obtain ⟨M, hn, rfl, hsame, hown, hnx⟩ := hrel
    have HSA := hidD hsame
    have HOW := hidD hown
    have HNX := hidD hnx
    have hsn := hnx.size
    obtain ⟨a9, c9, rfl⟩ := row_shape hown.row
    clear hsame
    by_cases hlt : M.length < L.length
    · have hRw := HR.out wr hnx
      have HST := hidD (hRw.2 _ (mem_getDR hlt))
      rcases hRw.1 with ⟨h0, _⟩ | ⟨g, off, cap', hsl', hg, hcl⟩
      · rw [h0] at hlt; exact absurd hlt (by simp)
      cases hsl'
      have HC : Hid (∀ o, (wr.alloc o).cell? ⟨g, off + M.length, none⟩ = some (.slice (L.getD M.length rw0).a (L.getD M.length rw0).ss.length (L.getD M.length rw0).cap)) := fun o => (((Below.refl wr.heap.size wr).alloc (Nat.le_refl _) o).cell (p := ⟨g, off + M.length, none⟩) hg).trans (hcl _ hlt)
      have hcA : (wr.alloc (.cells #[] 9)).cell? ⟨g, off + M.length, none⟩ = some (.slice (L.getD M.length rw0).a (L.getD M.length rw0).ss.length (L.getD M.length rw0).cap) := HC.out _
      have hni : (M.length : Int) < L.length := by omega
      have hrl := HS.out.cells _ (mem_getDR hlt)
      have HTK := hidD (fun (r : Rw) (h : r.ss = (L.getD M.length rw0).ss) => take_same (r := r) HSA.out hlt h)
      have HSRC : Hid (SrcOf (wr.alloc (.cells #[] 9)) (.slice (L.getD M.length rw0).a (L.getD M.length rw0).ss.length (L.getD M.length rw0).cap) ((L.getD M.length rw0).ss.map encStr)) := src_strs HST.out ((Below.refl wr.heap.size wr).alloc (Nat.le_refl _) _)
      have HMD : Hid ((wr.alloc (.cells #[] 9)).ownsRow w.heap.size 9 1 (.slice (some ⟨wr.heap.size, 0, none⟩) 0 0) 0 []) := World.ownsRow_made (base := w.heap.size) (e := 9) (size := 1) wr #[] 0 hsn (by decide) rfl
      clear hcl hRw hnx hown HC HST
      generalize L.getD M.length rw0 = q at *
      go_wp2_with (first
        | (at_builtin; first
          | (refine wpList_append_vals rfl _ _ 37 rfl w.heap.size 9 i9 (.string ⟨#[]⟩) 16 Try.underlying37 hi9 hy0 hy1 hy2 rfl wr.heap.size (q.ss.map encStr) (by rw [List.length_map]; omega) (by decide) (strs_oneCell _) rfl HMD.out _ rfl HSRC.out (by simp; omega) ?_; rw [List.length_map]; intro a' c' w3 hown3 hg3; have HB3 : Hid (Below wr.heap.size wr w3) := ((Below.refl wr.heap.size wr).alloc (Nat.le_refl _) _).grown hg3 (by simp) (fun k hk => by cases hk; exact Nat.le_refl _); have HO3 := hidD hown3; have hs3 := HB3.out.size; clear hown3 hg3)
          | (refine wpList_append_own _ rfl _ _ 35 rfl w.heap.size 37 i7 (.slice none 0 0) 1 24 Try.underlying35 hi7 hx0 hx1 hx2 rfl (by decide) (.slice a9 M.length c9) M.length (M.map rwV) rfl ((row_below HOW.out.row HB3.out).alloc _) ⟨w3.heap.size, 0, none⟩ 1 1 [.slice a' q.ss.length c'] rfl rfl (new_cell1 w3 _ _) (by simp [Value.oneCell']) (by unfold maxLen; omega) (by omega) (by simp; omega) ?_; intro v4 w4 hown4 hg4 hnil4))
        | go_in)
      have HBW3 := hidD (HNX.out.trans (HB3.out.mono hsn))
      have HOW4 : Hid (OwnRows w.heap.size w4 v4 (M ++ [⟨a', c', q.ss⟩])) := OwnRows.more (r := ⟨a', c', q.ss⟩) HOW.out HB3.out HO3.out _ hown4 hg4
      have HB4 : Hid (Below w.heap.size w w4) := (HBW3.out.alloc (by omega) _).grown hg4 (by simp; omega) (fun k hk => by
        rcases HOW.out.row.2 with ⟨h0, _⟩ | ⟨g0, c0, cur, h0, hb0, _⟩
        · rw [h0] at hk; simp [Value.ownBlock] at hk
        · rw [h0] at hk; simp [Value.ownBlock] at hk; omega)
      have HSM := hidD (HTK.out ⟨a', c', q.ss⟩ rfl)
      clear hown4 hg4 hnil4 HTK HSRC HMD
      go_wp2
      go_roundw
      case rel => exact ⟨M ++ [⟨a', c', q.ss⟩], by simp; omega, by simp, HSM.out, HOW4.out, HB4.out⟩
      case measure => simp [intOf]; omega
    · have hML : M.length = L.length := by omega
      have hsm : SameRows M L := by have := HSA.out; rw [hML, List.take_length] at this; exact this
      have HSM := hidD hsm
      have HOR := hidD HOW.out.rows
      have HSRC : Hid (SrcOf (wr.alloc (.cells #[] 4)) (.slice ar rs.length cr) (boolsC rs)) := src_bools (HRS.out wr hnx) HNA.out ((Below.refl wr.heap.size wr).alloc (Nat.le_refl _) _)
      have HMD : Hid ((wr.alloc (.cells #[] 4)).ownsRow w.heap.size 4 1 (.slice (some ⟨wr.heap.size, 0, none⟩) 0 0) 0 []) := World.ownsRow_made (base := w.heap.size) (e := 4) (size := 1) wr #[] 0 hsn (by decide) rfl
      have hbl : (boolsC rs).length = rs.length := by simp [boolsC]
      have HBL := hidD hbl
      have HLS := hidD (linesS_same hsm rs)
      have HLN := hidD (linesS_len L rs)
      have HLO := hidD (lines_ok HS.out rs)
      have HML := hidD hML
      have hni : ¬ ((M.length : Int) < L.length) := by omega
      have HW1 := hidD (fun (w' : World) => width_any ⟨s.toArray⟩ (by rw [ba_size]; unfold maxLen; omega) w')
      have HW2 := hidD (fun (w' : World) => refWidth_any ⟨s.toArray⟩ (by rw [ba_size]; unfold maxLen; omega) w')
      have HL1 := hidD (fun (w' : World) => left_any s (by omega) width w')
      have HL2 := hidD (fun (w' : World) => refLeft_any s (by omega) width w')
      have HR1 := hidD (fun (w' : World) => right_any s (by omega) width w')
      have HR2 := hidD (fun (w' : World) => refRight_any s (by omega) width w')
      have n1 : ∀ x : Int, (x == x) = true := fun x => by simp
      have n2 : ∀ x : List UInt8, (x == x) = true := fun x => by simp
      generalize widS ⟨s.toArray⟩ 0 = wd at *
      generalize leftS s width = Lf at *
      generalize rightS s width = Ri at *
      clear hnx hown hsm hML hbl
      go_wp2_with (first
        | (at_builtin; refine wpList_append_vals rfl _ _ 36 rfl w.heap.size 4 i4 (.bool false) 1 Try.underlying36 hi4 hb0 hb1 hb2 rfl wr.heap.size (boolsC rs) (by rw [HBL.out]; omega) (by decide) (bools_oneCell _) rfl HMD.out _ rfl HSRC.out (by simp; omega) ?_; rw [HBL.out]; intro a' c' w3 hown3 hg3; have HB3 : Hid (Below wr.heap.size wr w3) := ((Below.refl wr.heap.size wr).alloc (Nat.le_refl _) _).grown hg3 (by simp) (fun k hk => by cases hk; exact Nat.le_refl _); have HO3 := hidD hown3; have hs3 := HB3.out.size; have HBW3 := hidD (HNX.out.trans (HB3.out.mono hsn)); clear hown3 hg3)
        | (go_at_call 14; refine (columns_any M rs (HSM.out.small HS.out) hrm a9 a' c9 c' w3 (HOR.out.below HB3.out (Nat.le_refl _)) (cells_bools HO3.out)).mono ?_; rintro e w4 ⟨v4, rfl, hown4, hb4⟩; obtain ⟨a4, c4, rfl⟩ := row_shape hown4; have HO4 := hidD hown4; have HBW4 := hidD (HBW3.out.trans (hb4.mono HBW3.out.size)); clear hown4 hb4)
        | (go_at_call 15; refine (refCol_any L rs HS.out hrm a ar cap cr w4 (HR.out _ HBW4.out) (HRS.out _ HBW4.out)).mono ?_; rintro e w5 ⟨v5, rfl, hown5, hb5⟩; obtain ⟨a5, c5, rfl⟩ := row_shape hown5; have HO5 := hidD hown5; have HBW5 := hidD (HBW4.out.trans (hb5.mono HBW4.out.size)); have HO45 := hidD (row_below HO4.out hb5); clear hown5 hb5)
        | (go_at_call 16; refine (same_two HLO.out HLS.out HLN.out HML.out HO45.out HO5.out).mono ?_; rintro e w6 ⟨rfl, hb6⟩; have HBW6 := hidD (HBW5.out.trans (hb6.mono HBW5.out.size)); clear hb6)
        | (go_at_call 17; refine (HW1.out _).mono ?_; rintro e w7 ⟨rfl, hb7⟩; have HBW7 := hidD (HBW6.out.trans (hb7.mono HBW6.out.size)); clear hb7)
        | (go_at_call 18; refine (HW2.out _).mono ?_; rintro e w8 ⟨rfl, hb8⟩; have HBW8 := hidD (HBW7.out.trans (hb8.mono HBW7.out.size)); clear hb8)
        | (go_at_call 19; refine (HL1.out _).mono ?_; rintro e w9 ⟨rfl, hb9⟩; have HBW9 := hidD (HBW8.out.trans (hb9.mono HBW8.out.size)); clear hb9)
        | (go_at_call 20; refine (HL2.out _).mono ?_; rintro e w10 ⟨rfl, hb10⟩; have HBW10 := hidD (HBW9.out.trans (hb10.mono HBW9.out.size)); clear hb10)
        | (go_at_call 21; refine (HR1.out _).mono ?_; rintro e w11 ⟨rfl, hb11⟩; have HBW11 := hidD (HBW10.out.trans (hb11.mono HBW10.out.size)); clear hb11)
        | (go_at_call 22; refine (HR2.out _).mono ?_; rintro e w12 ⟨rfl, hb12⟩; have HBW12 := hidD (HBW11.out.trans (hb12.mono HBW11.out.size)); clear hb12)
        | (go_at_call 9; refine (live_any _).mono ?_; rintro e w13 ⟨rfl, hb13⟩; have HBW13 := hidD (HBW12.out.trans (hb13.mono HBW12.out.size)); clear hb13)
        | go_in)
      go_ret
      exact ⟨rfl, HBW13.out⟩
end Go.Proofs.Ytmmlmpcalhfigaa
