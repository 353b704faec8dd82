/- What line of the program answers: a row's cells behind each other. -/
import Derived.Test.YtmmlmpcalhfigaaLnS
namespace Go.Proofs.Ytmmlmpcalhfigaa
open Go.RowKit Go.Maps Go.Sort
set_option linter.unusedVariables false

set_option maxRecDepth 100000 in
set_option maxHeartbeats 2000000 in
theorem line_any (r : Rw) (ws : List Nat) (rs : List Bool) (hrl : r.ss.length ≤ 1048576) (hrt : ∀ x ∈ r.ss, x.length ≤ 1048576) (hwl : r.ss.length ≤ ws.length) (hwm : ws.length ≤ 1048576) (hrm : rs.length ≤ 1048576) (aw ar : Option Addr) (cw cr : Nat) (w : World)
    (hS : StrsAt w (.slice r.a r.ss.length r.cap) r.ss) (hWs : CellsOf w (.slice aw ws.length cw) ws.length (intAt ws)) (hRs : CellsOf w (.slice ar rs.length cr) rs.length (boolAt rs)) :
    Calls Try.prog 32 #[.slice r.a r.ss.length r.cap, .slice aw ws.length cw, .slice ar rs.length cr] w fun e w' => e = .returned (.string ⟨(lineTo r.ss ws rs r.ss.length).toArray⟩) ∧ Below w.heap.size w w' := by
  have HST : Hid (∀ w', Below w.heap.size w w' → StrsAt w' (.slice r.a r.ss.length r.cap) r.ss) := fun w' hb => hS.below hb (Nat.le_refl _)
  have HWS : Hid (∀ w', Below w.heap.size w w' → CellsOf w' (.slice aw ws.length cw) ws.length (intAt ws)) := fun w' hb => hWs.below hb (Nat.le_refl _)
  have HRS : Hid (∀ w', Below w.heap.size w w' → CellsOf w' (.slice ar rs.length cr) rs.length (boolAt rs)) := fun w' hb => hRs.below hb (Nat.le_refl _)
  have HRT := hidD hrt
  have HB0 := hidD (bld_new w (5 : TypeId))
  have HN0 : Hid (Below w.heap.size w (w.alloc (.cells #[.pointer none, .slice none 0 0] (64 : TypeId)))) := (Below.refl _ _).alloc (Nat.le_refl _) _
  clear hS hWs hRs hrt
  go_enter Try.func32, Try.ntmps32
  go_wp2_with fail
  go_loopw [12] (fun ii wr => ∃ k : Nat, k ≤ r.ss.length ∧ ii = .int .i64 k ∧ Lib.IsBuilder (64 : TypeId) (5 : TypeId) w.heap.size w.heap.size (Lib.byteCells (lineTo r.ss ws rs k)) wr ∧ Below w.heap.size w wr) (fun ii _ => r.ss.length - (intOf ii).toNat)
  case atStart => exact ⟨0, Nat.zero_le _, rfl, HB0.out, HN0.out⟩
  case round =>
    clear HB0 HN0
    obtain ⟨k, hk, rfl, hbd, hnx⟩ := hrel
    have HBD := hidD hbd
    have HNX := hidD hnx
    have hsn := hnx.size
    by_cases hlt : k < r.ss.length
    · rcases HST.out wr hnx with ⟨h0, _⟩ | ⟨g2, off2, cap2, hsl2, hg2, hcl2⟩
      · rw [h0] at hlt; exact absurd hlt (by simp)
      rw [Value.slice.injEq] at hsl2
      have e1 := hsl2.1
      clear hsl2
      rw [e1]
      have hcx : wr.cell? ⟨g2, off2 + k, none⟩ = some (.string ⟨(r.ss.getD k []).toArray⟩) := hcl2 k hlt
      obtain ⟨gw, offw, hew⟩ : ∃ gw offw, aw = some ⟨gw, offw, none⟩ := by
        rcases HWS.out wr hnx with ⟨h0, _⟩ | ⟨gw, offw, capw, hslw, _⟩
        · omega
        · cases hslw; exact ⟨gw, offw, rfl⟩
      subst hew
      have HCW : Hid (∀ w', Below w.heap.size w w' → w'.cell? ⟨gw, offw + k, none⟩ = some (.int .i64 ((ws.getD k 0 : Nat) : Int))) := fun w' hb => by
        rcases HWS.out w' hb with ⟨h0, _⟩ | ⟨g', o', c', hs', _, hc'⟩
        · omega
        · cases hs'; exact hc' k (by omega)
      have hki : (k : Int) < r.ss.length := by omega
      have hkw : (k : Int) < ws.length := by omega
      have hxl := HRT.out _ (mem_getDS hlt)
      have hXl := lineTo_len HRT.out (ws := ws) (rs := rs) k hk
      have HLT : Hid (lineTo r.ss ws rs (k + 1) = lineTo r.ss ws rs k ++ gapS k ++ cellS r.ss ws rs k) := rfl
      have HCR : Hid (k < rs.length → ∃ gr offr, ar = some ⟨gr, offr, none⟩ ∧ ∀ w', Below w.heap.size w w' → w'.cell? ⟨gr, offr + k, none⟩ = some (.bool (rs.getD k false))) := fun hr => by
        rcases HRS.out wr hnx with ⟨h0, _⟩ | ⟨gr, offr, capr, hslr, _⟩
        · omega
        · cases hslr
          refine ⟨gr, offr, rfl, fun w' hb => ?_⟩
          rcases HRS.out w' hb with ⟨h0, _⟩ | ⟨g', o', c', hs', _, hc'⟩
          · omega
          · cases hs'; exact hc' k hr
      have HCE : Hid (cellS r.ss ws rs k = if k < rs.length ∧ rs.getD k false = true then rightS (r.ss.getD k []) (ws.getD k 0 : Nat) else if k + 1 < r.ss.length then leftS (r.ss.getD k []) (ws.getD k 0 : Nat) else r.ss.getD k []) := rfl
      have HLf := hidD (fun (w' : World) => left_any (r.ss.getD k []) (by omega) (ws.getD k 0 : Nat) w')
      have HRi := hidD (fun (w' : World) => right_any (r.ss.getD k []) (by omega) (ws.getD k 0 : Nat) w')
      have hLl := left_len (r.ss.getD k []) (ws.getD k 0 : Nat)
      have hRl := right_len (r.ss.getD k []) (ws.getD k 0 : Nat)
      clear hcl2 hbd hnx HWS HRS HST HRT
      generalize lineTo r.ss ws rs k = X at *
      generalize cellS r.ss ws rs k = C at *
      generalize r.ss.getD k [] = x at *
      generalize ws.getD k 0 = wv at *
      generalize leftS x (wv : Int) = Lf at *
      generalize rightS x (wv : Int) = Ri at *
      have hX2 : X.length ≤ 1099780063233 := by omega
      clear hXl
      by_cases hgap : 0 < k
      ·
        have hgi : (0 : Int) < k := by omega
        have HGP : Hid (gapS k = [32, 32]) := by show _ = _; unfold gapS; rw [if_pos hgap]
        by_cases hr1 : k < rs.length
        · obtain ⟨gr, offr, rfl, hcc⟩ := HCR.out hr1
          have HCC := hidD hcc
          have hri : (k : Int) < rs.length := by omega
          clear hcc
          cases hrb : rs.getD k false with
          | true =>
            have HCF : Hid (C = Ri) := by show _ = _; rw [HCE.out, if_pos ⟨hr1, hrb⟩]
            rw [hrb] at HCC
            clear hrb
            clear HCE HCR
            go_wp2_with fail
            go_at_call 42
            refine (write_text w.heap.size w.heap.size X [32, 32] _ HBD.out (by simp; omega) hsn).mono ?_
            rintro e w1 ⟨⟨v1, rfl⟩, hbd1, hb1⟩
            have HNX1 := hidD (HNX.out.trans hb1)
            have HBD1 := hidD hbd1
            have hs1 := HNX1.out.size
            have hcw1 := HCW.out w1 HNX1.out
            have hcr1 := HCC.out w1 HNX1.out
            clear hbd1 hb1
            go_wp2_with fail
            go_at_call 21
            refine (HRi.out _).mono ?_
            rintro e w2 ⟨rfl, hb2⟩
            have HBD2 := hidD (bld_below HBD1.out hb2)
            have HNX2 := hidD (HNX1.out.trans (hb2.mono hs1))
            have hs2 := HNX2.out.size
            clear hb2
            go_wp2_with fail
            go_at_call 42
            refine (write_text w.heap.size w.heap.size (X ++ [32, 32]) Ri _ HBD2.out (by simp; omega) hs2).mono ?_
            rintro e w3 ⟨⟨v3, rfl⟩, hbd3, hb3⟩
            have HBD3 := hidD hbd3
            have HNX3 := hidD (HNX2.out.trans hb3)
            clear hbd3 hb3
            go_wp2
            go_roundw
            case rel => exact ⟨k + 1, by omega, by go_num, by rw [HLT.out, HGP.out, HCF.out]; exact HBD3.out, HNX3.out⟩
            case measure => simp [intOf]; omega
          | false =>
            rw [hrb] at HCC
            by_cases hlast : k + 1 < r.ss.length
            · have HCF : Hid (C = Lf) := by show _ = _; rw [HCE.out, if_neg (by simp only [hrb]; simp), if_pos hlast]
              have hli : (k : Int) < (r.ss.length : Int) - 1 := by omega
              clear hrb
              clear HCE HCR
              go_wp2_with fail
              go_at_call 42
              refine (write_text w.heap.size w.heap.size X [32, 32] _ HBD.out (by simp; omega) hsn).mono ?_
              rintro e w1 ⟨⟨v1, rfl⟩, hbd1, hb1⟩
              have HNX1 := hidD (HNX.out.trans hb1)
              have HBD1 := hidD hbd1
              have hs1 := HNX1.out.size
              have hcw1 := HCW.out w1 HNX1.out
              have hcr1 := HCC.out w1 HNX1.out
              clear hbd1 hb1
              go_wp2_with fail
              go_at_call 19
              refine (HLf.out _).mono ?_
              rintro e w2 ⟨rfl, hb2⟩
              have HBD2 := hidD (bld_below HBD1.out hb2)
              have HNX2 := hidD (HNX1.out.trans (hb2.mono hs1))
              have hs2 := HNX2.out.size
              clear hb2
              go_wp2_with fail
              go_at_call 42
              refine (write_text w.heap.size w.heap.size (X ++ [32, 32]) Lf _ HBD2.out (by simp; omega) hs2).mono ?_
              rintro e w3 ⟨⟨v3, rfl⟩, hbd3, hb3⟩
              have HBD3 := hidD hbd3
              have HNX3 := hidD (HNX2.out.trans hb3)
              clear hbd3 hb3
              go_wp2
              go_roundw
              case rel => exact ⟨k + 1, by omega, by go_num, by rw [HLT.out, HGP.out, HCF.out]; exact HBD3.out, HNX3.out⟩
              case measure => simp [intOf]; omega
            · have HCF : Hid (C = x) := by show _ = _; rw [HCE.out, if_neg (by simp only [hrb]; simp), if_neg hlast]
              have hli : ¬ ((k : Int) < (r.ss.length : Int) - 1) := by omega
              clear hrb
              clear HCE HCR
              go_wp2_with fail
              go_at_call 42
              refine (write_text w.heap.size w.heap.size X [32, 32] _ HBD.out (by simp; omega) hsn).mono ?_
              rintro e w1 ⟨⟨v1, rfl⟩, hbd1, hb1⟩
              have HNX1 := hidD (HNX.out.trans hb1)
              have HBD1 := hidD hbd1
              have hs1 := HNX1.out.size
              have hcw1 := HCW.out w1 HNX1.out
              have hcr1 := HCC.out w1 HNX1.out
              clear hbd1 hb1
              go_wp2_with fail
              go_at_call 42
              refine (write_text w.heap.size w.heap.size (X ++ [32, 32]) x _ HBD1.out (by simp; omega) hs1).mono ?_
              rintro e w3 ⟨⟨v3, rfl⟩, hbd3, hb3⟩
              have HBD3 := hidD hbd3
              have HNX3 := hidD (HNX1.out.trans hb3)
              clear hbd3 hb3
              go_wp2
              go_roundw
              case rel => exact ⟨k + 1, by omega, by go_num, by rw [HLT.out, HGP.out, HCF.out]; exact HBD3.out, HNX3.out⟩
              case measure => simp [intOf]; omega
        · have hri : ¬ ((k : Int) < rs.length) := by omega
          by_cases hlast : k + 1 < r.ss.length
          · have HCF : Hid (C = Lf) := by show _ = _; rw [HCE.out, if_neg (fun q => hr1 q.1), if_pos hlast]
            have hli : (k : Int) < (r.ss.length : Int) - 1 := by omega
            clear HCE HCR
            go_wp2_with fail
            go_at_call 42
            refine (write_text w.heap.size w.heap.size X [32, 32] _ HBD.out (by simp; omega) hsn).mono ?_
            rintro e w1 ⟨⟨v1, rfl⟩, hbd1, hb1⟩
            have HNX1 := hidD (HNX.out.trans hb1)
            have HBD1 := hidD hbd1
            have hs1 := HNX1.out.size
            have hcw1 := HCW.out w1 HNX1.out
            clear hbd1 hb1
            go_wp2_with fail
            go_at_call 19
            refine (HLf.out _).mono ?_
            rintro e w2 ⟨rfl, hb2⟩
            have HBD2 := hidD (bld_below HBD1.out hb2)
            have HNX2 := hidD (HNX1.out.trans (hb2.mono hs1))
            have hs2 := HNX2.out.size
            clear hb2
            go_wp2_with fail
            go_at_call 42
            refine (write_text w.heap.size w.heap.size (X ++ [32, 32]) Lf _ HBD2.out (by simp; omega) hs2).mono ?_
            rintro e w3 ⟨⟨v3, rfl⟩, hbd3, hb3⟩
            have HBD3 := hidD hbd3
            have HNX3 := hidD (HNX2.out.trans hb3)
            clear hbd3 hb3
            go_wp2
            go_roundw
            case rel => exact ⟨k + 1, by omega, by go_num, by rw [HLT.out, HGP.out, HCF.out]; exact HBD3.out, HNX3.out⟩
            case measure => simp [intOf]; omega
          · have HCF : Hid (C = x) := by show _ = _; rw [HCE.out, if_neg (fun q => hr1 q.1), if_neg hlast]
            have hli : ¬ ((k : Int) < (r.ss.length : Int) - 1) := by omega
            clear HCE HCR
            go_wp2_with fail
            go_at_call 42
            refine (write_text w.heap.size w.heap.size X [32, 32] _ HBD.out (by simp; omega) hsn).mono ?_
            rintro e w1 ⟨⟨v1, rfl⟩, hbd1, hb1⟩
            have HNX1 := hidD (HNX.out.trans hb1)
            have HBD1 := hidD hbd1
            have hs1 := HNX1.out.size
            have hcw1 := HCW.out w1 HNX1.out
            clear hbd1 hb1
            go_wp2_with fail
            go_at_call 42
            refine (write_text w.heap.size w.heap.size (X ++ [32, 32]) x _ HBD1.out (by simp; omega) hs1).mono ?_
            rintro e w3 ⟨⟨v3, rfl⟩, hbd3, hb3⟩
            have HBD3 := hidD hbd3
            have HNX3 := hidD (HNX1.out.trans hb3)
            clear hbd3 hb3
            go_wp2
            go_roundw
            case rel => exact ⟨k + 1, by omega, by go_num, by rw [HLT.out, HGP.out, HCF.out]; exact HBD3.out, HNX3.out⟩
            case measure => simp [intOf]; omega
      ·
        have hgi : ¬ ((0 : Int) < k) := by omega
        have HGP : Hid (gapS k = []) := by show _ = _; unfold gapS; rw [if_neg hgap]
        clear hgap
        by_cases hr1 : k < rs.length
        · obtain ⟨gr, offr, rfl, hcc⟩ := HCR.out hr1
          have HCC := hidD hcc
          have hri : (k : Int) < rs.length := by omega
          clear hcc
          cases hrb : rs.getD k false with
          | true =>
            have HCF : Hid (C = Ri) := by show _ = _; rw [HCE.out, if_pos ⟨hr1, hrb⟩]
            rw [hrb] at HCC
            clear hrb
            clear HCE HCR
            have hcw1 := HCW.out wr HNX.out
            have hcr1 := HCC.out wr HNX.out
            go_wp2_with fail
            go_at_call 21
            refine (HRi.out _).mono ?_
            rintro e w2 ⟨rfl, hb2⟩
            have HBD2 := hidD (bld_below HBD.out hb2)
            have HNX2 := hidD (HNX.out.trans (hb2.mono hsn))
            have hs2 := HNX2.out.size
            clear hb2
            go_wp2_with fail
            go_at_call 42
            refine (write_text w.heap.size w.heap.size X Ri _ HBD2.out (by omega) hs2).mono ?_
            rintro e w3 ⟨⟨v3, rfl⟩, hbd3, hb3⟩
            have HBD3 := hidD hbd3
            have HNX3 := hidD (HNX2.out.trans hb3)
            clear hbd3 hb3
            go_wp2
            go_roundw
            case rel => exact ⟨k + 1, by omega, by go_num, by rw [HLT.out, HGP.out, HCF.out, List.append_nil]; exact HBD3.out, HNX3.out⟩
            case measure => simp [intOf]; omega
          | false =>
            rw [hrb] at HCC
            by_cases hlast : k + 1 < r.ss.length
            · have HCF : Hid (C = Lf) := by show _ = _; rw [HCE.out, if_neg (by simp only [hrb]; simp), if_pos hlast]
              have hli : (k : Int) < (r.ss.length : Int) - 1 := by omega
              clear hrb
              clear HCE HCR
              have hcw1 := HCW.out wr HNX.out
              have hcr1 := HCC.out wr HNX.out
              go_wp2_with fail
              go_at_call 19
              refine (HLf.out _).mono ?_
              rintro e w2 ⟨rfl, hb2⟩
              have HBD2 := hidD (bld_below HBD.out hb2)
              have HNX2 := hidD (HNX.out.trans (hb2.mono hsn))
              have hs2 := HNX2.out.size
              clear hb2
              go_wp2_with fail
              go_at_call 42
              refine (write_text w.heap.size w.heap.size X Lf _ HBD2.out (by omega) hs2).mono ?_
              rintro e w3 ⟨⟨v3, rfl⟩, hbd3, hb3⟩
              have HBD3 := hidD hbd3
              have HNX3 := hidD (HNX2.out.trans hb3)
              clear hbd3 hb3
              go_wp2
              go_roundw
              case rel => exact ⟨k + 1, by omega, by go_num, by rw [HLT.out, HGP.out, HCF.out, List.append_nil]; exact HBD3.out, HNX3.out⟩
              case measure => simp [intOf]; omega
            · have HCF : Hid (C = x) := by show _ = _; rw [HCE.out, if_neg (by simp only [hrb]; simp), if_neg hlast]
              have hli : ¬ ((k : Int) < (r.ss.length : Int) - 1) := by omega
              clear hrb
              clear HCE HCR
              have hcw1 := HCW.out wr HNX.out
              have hcr1 := HCC.out wr HNX.out
              go_wp2_with fail
              go_at_call 42
              refine (write_text w.heap.size w.heap.size X x _ HBD.out (by omega) hsn).mono ?_
              rintro e w3 ⟨⟨v3, rfl⟩, hbd3, hb3⟩
              have HBD3 := hidD hbd3
              have HNX3 := hidD (HNX.out.trans hb3)
              clear hbd3 hb3
              go_wp2
              go_roundw
              case rel => exact ⟨k + 1, by omega, by go_num, by rw [HLT.out, HGP.out, HCF.out, List.append_nil]; exact HBD3.out, HNX3.out⟩
              case measure => simp [intOf]; omega
        · have hri : ¬ ((k : Int) < rs.length) := by omega
          by_cases hlast : k + 1 < r.ss.length
          · have HCF : Hid (C = Lf) := by show _ = _; rw [HCE.out, if_neg (fun q => hr1 q.1), if_pos hlast]
            have hli : (k : Int) < (r.ss.length : Int) - 1 := by omega
            clear HCE HCR
            have hcw1 := HCW.out wr HNX.out
            go_wp2_with fail
            go_at_call 19
            refine (HLf.out _).mono ?_
            rintro e w2 ⟨rfl, hb2⟩
            have HBD2 := hidD (bld_below HBD.out hb2)
            have HNX2 := hidD (HNX.out.trans (hb2.mono hsn))
            have hs2 := HNX2.out.size
            clear hb2
            go_wp2_with fail
            go_at_call 42
            refine (write_text w.heap.size w.heap.size X Lf _ HBD2.out (by omega) hs2).mono ?_
            rintro e w3 ⟨⟨v3, rfl⟩, hbd3, hb3⟩
            have HBD3 := hidD hbd3
            have HNX3 := hidD (HNX2.out.trans hb3)
            clear hbd3 hb3
            go_wp2
            go_roundw
            case rel => exact ⟨k + 1, by omega, by go_num, by rw [HLT.out, HGP.out, HCF.out, List.append_nil]; exact HBD3.out, HNX3.out⟩
            case measure => simp [intOf]; omega
          · have HCF : Hid (C = x) := by show _ = _; rw [HCE.out, if_neg (fun q => hr1 q.1), if_neg hlast]
            have hli : ¬ ((k : Int) < (r.ss.length : Int) - 1) := by omega
            clear HCE HCR
            have hcw1 := HCW.out wr HNX.out
            go_wp2_with fail
            go_at_call 42
            refine (write_text w.heap.size w.heap.size X x _ HBD.out (by omega) hsn).mono ?_
            rintro e w3 ⟨⟨v3, rfl⟩, hbd3, hb3⟩
            have HBD3 := hidD hbd3
            have HNX3 := hidD (HNX.out.trans hb3)
            clear hbd3 hb3
            go_wp2
            go_roundw
            case rel => exact ⟨k + 1, by omega, by go_num, by rw [HLT.out, HGP.out, HCF.out, List.append_nil]; exact HBD3.out, HNX3.out⟩
            case measure => simp [intOf]; omega
    · obtain rfl : k = r.ss.length := by omega
      clear hbd hnx
      go_wp2_with fail
      go_at_call 43
      refine (str_any w.heap.size w.heap.size _ _ HBD.out hsn).mono ?_
      rintro e w1 ⟨rfl, hb1⟩
      go_wp2
      go_ret
      exact ⟨rfl, HNX.out.trans hb1⟩
end Go.Proofs.Ytmmlmpcalhfigaa
