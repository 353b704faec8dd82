/- What Columns of the document answers. -/
import Derived.Test.YtmmlmpcalhfigaaCol
import Derived.Test.YtmmlmpcalhfigaaQuietB
namespace Go.Proofs.Ytmmlmpcalhfigaa
open Go.RowKit Go.Maps Go.Sort
set_option linter.unusedVariables false

def mostTo (L : List Rw) : Nat → Nat
  | 0 => 0
  | n + 1 => max (mostTo L n) (L.getD n rw0).ss.length
theorem mostTo_le {L : List Rw} (h : SmallRows L) : ∀ n, n ≤ L.length → mostTo L n ≤ 1048576
  | 0, _ => by simp [mostTo]
  | n + 1, hn => by
    have h1 := mostTo_le h n (by omega)
    have h2 := h.cells _ (mem_getDR (L := L) (k := n) (by omega))
    rw [mostTo]; omega
theorem mostTo_row (L : List Rw) : ∀ n m, m < n → (L.getD m rw0).ss.length ≤ mostTo L n
  | 0, m, h => by omega
  | n + 1, m, h => by
    rw [mostTo]
    by_cases hm : m = n
    · subst hm; omega
    · have := mostTo_row L n m (by omega); omega
def wsRTo (L : List Rw) (k : Nat) : List Nat := (List.range k).map (widestS L)
theorem wsRTo_len (L : List Rw) (k : Nat) : (wsRTo L k).length = k := by simp [wsRTo]
theorem wsRTo_next (L : List Rw) (k : Nat) : intsC (wsRTo L k) ++ [.int .i64 ((widestS L k : Nat) : Int)] = intsC (wsRTo L (k + 1)) := by
  simp [wsRTo, intsC, List.range_succ]
theorem wsRTo_at (L : List Rw) (n k : Nat) (h : k < n) : (wsRTo L n).getD k 0 = widestS L k := by
  unfold wsRTo
  rw [List.getD, List.getElem?_map, List.getElem?_range h]
  rfl
theorem miss_clamp (s : ByteArray) (m : Nat) : missS s ((min 255 m : Nat) : Int) = missS s (m : Int) := by
  unfold missS
  split
  · omega
  · rw [if_neg (by omega)]
    split
    · omega
    · split <;> omega
theorem left_clamp (x : List UInt8) (m : Nat) : leftS x ((min 255 m : Nat) : Int) = leftS x (m : Int) := by unfold leftS; rw [miss_clamp]
theorem right_clamp (x : List UInt8) (m : Nat) : rightS x ((min 255 m : Nat) : Int) = rightS x (m : Int) := by unfold rightS; rw [miss_clamp]
/-- The widths of the document and of the program make one and the same line. -/
theorem line_same (L : List Rw) (rs : List Bool) (i : Nat) (hi : i < L.length) : ∀ k, k ≤ (L.getD i rw0).ss.length → lineTo (L.getD i rw0).ss (wsRTo L (mostTo L L.length)) rs k = lineTo (L.getD i rw0).ss (wsTo L L.length) rs k
  | 0, _ => rfl
  | k + 1, hk => by
    have hm := mostTo_row L L.length i hi
    rw [lineTo, lineTo, line_same L rs i hi k (by omega)]
    congr 1
    unfold cellS
    rw [wsRTo_at L _ k (by omega), wsTo_at, widestS, left_clamp, right_clamp]

theorem row_base {w : World} {b1 b2 e size n : Nat} {v : Value} {xs : List Value} (h : w.ownsRow b1 e size v n xs) (hb : b2 ≤ b1) : w.ownsRow b2 e size v n xs := by
  refine ⟨h.1, ?_⟩
  rcases h.2 with h0 | ⟨g, cap, cur, h1, h2, h3⟩
  · exact .inl h0
  · exact .inr ⟨g, cap, cur, h1, by omega, h3⟩
def linesR (L : List Rw) (W : List Nat) (rs : List Bool) (n : Nat) : List (List UInt8) := (List.range n).map fun i => lineTo (L.getD i rw0).ss W rs (L.getD i rw0).ss.length
theorem linesR_len (L : List Rw) (W : List Nat) (rs : List Bool) (n : Nat) : (linesR L W rs n).length = n := by simp [linesR]
theorem linesR_next (L : List Rw) (W : List Nat) (rs : List Bool) (n : Nat) : (linesR L W rs n).map encStr ++ [.string ⟨(lineTo (L.getD n rw0).ss W rs (L.getD n rw0).ss.length).toArray⟩] = (linesR L W rs (n + 1)).map encStr := by
  unfold linesR
  rw [List.range_succ, List.map_append, List.map_append]
  rfl
theorem linesR_all (L : List Rw) (rs : List Bool) : linesR L (wsRTo L (mostTo L L.length)) rs L.length = linesS L rs := by
  unfold linesR linesS
  refine List.map_congr_left fun i hi => ?_
  rw [line_same L rs i (List.mem_range.1 hi) _ (Nat.le_refl _)]
  rfl
set_option maxRecDepth 100000 in
set_option maxHeartbeats 4000000 in
theorem refCol_any (L : List Rw) (rs : List Bool) (hs : SmallRows L) (hrm : rs.length ≤ 1048576) (a ar : Option Addr) (cap cr : Nat) (w : World) (hR : RowsAt w (.slice a L.length cap) L) (hRs : CellsOf w (.slice ar rs.length cr) rs.length (boolAt rs)) :
    Calls Try.prog 15 #[.slice a L.length cap, .slice ar rs.length cr] w fun e w' => ∃ v, e = .returned v ∧ w'.ownsRow w.heap.size 9 1 v L.length ((linesS L rs).map encStr) ∧ Below w.heap.size w w' := by
  have hl := hs.rows
  obtain ⟨i0, hi, hz0, hz1, hz2⟩ := info_parts Try.info3
  have HS := hidD hs
  have HR : Hid (∀ w', Below w.heap.size w w' → RowsAt w' (.slice a L.length cap) L) := fun w' hb => hR.below hb (Nat.le_refl _)
  have HRS : Hid (∀ w', Below w.heap.size w w' → CellsOf w' (.slice ar rs.length cr) rs.length (boolAt rs)) := fun w' hb => hRs.below hb (Nat.le_refl _)
  have HWI := hidD (fun (k : Nat) (hk : k ≤ 1048576) (w' : World) (hb : Below w.heap.size w w') => refWidest_any L hs k hk a cap w' (HR.out w' hb))
  clear hR hRs hs
  go_enter Try.func15, Try.ntmps15
  go_wp2_with fail
  go_loopw [5, 6] (fun mm ii wr => ∃ n : Nat, n ≤ L.length ∧ ii = .int .i64 n ∧ mm = .int .i64 (mostTo L n : Nat) ∧ wr = w) (fun _ ii _ => L.length - (intOf ii).toNat)
  case atStart => exact ⟨0, Nat.zero_le _, rfl, rfl, rfl⟩
  case round =>
    obtain ⟨n, hn, rfl, rfl, rfl⟩ := hrel
    have hml := mostTo_le HS.out n hn
    by_cases hlt : n < L.length
    · rcases (HR.out wr (Below.refl _ _)).1 with ⟨h0, _⟩ | ⟨g, off, cap', hsl, hg, hcl⟩
      · rw [h0] at hlt; exact absurd hlt (by simp)
      cases hsl
      have hc := hcl n hlt
      have hni : (n : Int) < L.length := by omega
      have hrl := HS.out.cells _ (mem_getDR hlt)
      have HM : Hid (mostTo L (n + 1) = max (mostTo L n) (L.getD n rw0).ss.length) := rfl
      clear hcl
      generalize L.getD n rw0 = r at *
      generalize mostTo L n = M at *
      by_cases hgt : (M : Int) < r.ss.length
      · go_wp2
        go_roundw
        case rel => exact ⟨n + 1, by omega, by go_num, by rw [HM.out]; congr 1; omega, by trivial⟩
        case measure => simp [intOf]; omega
      · go_wp2
        go_roundw
        case rel => exact ⟨n + 1, by omega, by go_num, by rw [HM.out]; congr 1; omega, by trivial⟩
        case measure => simp [intOf]; omega
    · obtain rfl : n = L.length := by omega
      have HMR := hidD (mostTo_row L L.length)
      have HLA := hidD (linesR_all L rs)
      generalize mostTo L L.length = M at *
      go_wp2_with fail
      go_loopw [7, 8] (fun ww ii wq => ∃ k : Nat, k ≤ M ∧ ii = .int .i64 k ∧ wq.ownsRow wr.heap.size 3 1 ww k (intsC (wsRTo L k)) ∧ Below wr.heap.size wr wq) (fun _ ii _ => M - (intOf ii).toNat)
      case atStart => exact ⟨0, Nat.zero_le _, rfl, World.ownsRow_nil _ _ _ _, Below.refl _ _⟩
      case round =>
        rename World => wq
        obtain ⟨k, hk, rfl, hown, hnx⟩ := hrel
        by_cases hkl : k < M
        · have hki : (k : Int) < M := by omega
          have HW := hidD (HWI.out k (by omega) _ hnx)
          have HNX := hidD hnx
          have HOWN := hidD hown
          have hsn := hnx.size
          obtain ⟨a3, c3, rfl⟩ := row_shape hown
          have HNE := hidD (wsRTo_next L k)
          have hws : widestS L k ≤ 255 := by unfold widestS; omega
          clear hown hnx
          generalize widestS L k = wv at *
          go_wp2_with fail
          go_at_call 33
          refine HW.out.mono ?_
          rintro e w1 ⟨rfl, hb1⟩
          have HOA : Hid (∀ o, (w1.alloc o).ownsRow wr.heap.size 3 1 (.slice a3 k c3) k (intsC (wsRTo L k))) := fun o => (row_below HOWN.out hb1).alloc o
          have HNX1 := hidD (HNX.out.trans (hb1.mono hsn))
          have hs1 := HNX1.out.size
          clear hb1
          go_wp2_with (first
            | (at_builtin; refine wpList_append_own _ rfl _ _ 52 rfl wr.heap.size 3 i0 (.int .i64 0) 1 8 Try.underlying52 hi hz0 hz1 hz2 rfl (by decide) (.slice a3 k c3) k (intsC (wsRTo L k)) rfl (HOA.out _) ⟨w1.heap.size, 0, none⟩ 1 1 [.int .i64 (wv : Int)] rfl rfl (new_cell1 w1 _ _) (by simp [Value.oneCell']) (by unfold maxLen; omega) (by omega) (by simp; omega) ?_; intro v' w3 hown' hg3 hnil3)
            | go_in)
          have hbx : Below wr.heap.size wr w3 := ((HNX1.out).alloc hs1 _).grown hg3 (by simp; omega) (fun j hj => by
            obtain ⟨g0, c0, e0, hb0⟩ : ∃ g0 c0, Value.slice a3 k c3 = .slice (some ⟨g0, 0, none⟩) k c0 ∧ wr.heap.size ≤ g0 := by
              rcases (HOA.out (.cells #[] 3)).2 with ⟨h0, _⟩ | ⟨g0, c0, cur, h0, hb0, _⟩
              · rw [h0] at hj; simp [Value.ownBlock] at hj
              · exact ⟨g0, c0, h0, hb0⟩
            rw [e0] at hj
            simp [Value.ownBlock] at hj
            omega)
          have HBX := hidD hbx
          have HOX := hidD hown'
          clear hbx hown' hg3 hnil3
          go_wp2
          go_roundw
          case rel => exact ⟨k + 1, by omega, by go_num, by rw [← HNE.out]; exact HOX.out, HBX.out⟩
          case measure => simp [intOf]; omega
        · obtain rfl : k = M := by omega
          have HBQ := hidD hnx
          have hsq := hnx.size
          have hown2 : wq.ownsRow wr.heap.size 3 1 u7 (wsRTo L k).length (intsC (wsRTo L k)) := by rw [wsRTo_len]; exact hown
          obtain ⟨aw, cw, ew, hcw⟩ := cells_row hown2
          rw [wsRTo_len] at ew
          subst ew
          rw [wsRTo_len] at hcw
          obtain ⟨i9, hi9, hy0, hy1, hy2⟩ := info_parts Try.info9
          have HCW : Hid (∀ w', Below wq.heap.size wq w' → CellsOf w' (.slice aw k cw) k (intAt (wsRTo L k))) := fun w' hb => hcw.below hb (Nat.le_refl _)
          clear hown hown2 hcw hnx HWI hi hz0 hz1 hz2
          generalize wsRTo L k = WR at *
          go_wp2_with fail
          go_loopw [9, 10] (fun oo ii wz => ∃ n : Nat, n ≤ L.length ∧ ii = .int .i64 n ∧ wz.ownsRow wq.heap.size 9 1 oo n ((linesR L WR rs n).map encStr) ∧ Below wq.heap.size wq wz) (fun _ ii _ => L.length - (intOf ii).toNat)
          case atStart => exact ⟨0, Nat.zero_le _, rfl, World.ownsRow_nil _ _ _ _, Below.refl _ _⟩
          case round =>
            rename World => wz
            obtain ⟨n, hn, rfl, hown, hnx⟩ := hrel
            have HNX := hidD hnx
            have HOWN := hidD hown
            have hsz := hnx.size
            have HNW := hidD (HBQ.out.trans (hnx.mono hsq))
            obtain ⟨a9, c9, rfl⟩ := row_shape hown
            by_cases hlt : n < L.length
            · have HST : Hid (∀ w', Below wz.heap.size wz w' → StrsAt w' (.slice (L.getD n rw0).a (L.getD n rw0).ss.length (L.getD n rw0).cap) (L.getD n rw0).ss) := fun w' hb => (HR.out w' (HNW.out.trans (hb.mono HNW.out.size))).2 _ (mem_getDR hlt)
              rcases (HR.out wz HNW.out).1 with ⟨h0, _⟩ | ⟨g, off, cap', hsl, hg, hcl⟩
              · rw [h0] at hlt; exact absurd hlt (by simp)
              cases hsl
              have HCR : Hid (∀ w', Below wz.heap.size wz w' → w'.cell? ⟨g, off + n, none⟩ = some (.slice (L.getD n rw0).a (L.getD n rw0).ss.length (L.getD n rw0).cap)) := fun w' hb => (hb.cell (p := ⟨g, off + n, none⟩) hg).trans (hcl n hlt)
              have hni : (n : Int) < L.length := by omega
              have hrl := HS.out.cells _ (mem_getDR hlt)
              have HTX := hidD (HS.out.texts _ (mem_getDR hlt))
              have hrk := HMR.out n hlt
              have HNE := hidD (linesR_next L WR rs n)
              have HCZ : Hid (∀ w', Below wz.heap.size wz w' → CellsOf w' (.slice aw k cw) k (intAt WR)) := fun w' hb => HCW.out w' (HNX.out.trans (hb.mono hsz))
              have HRZ : Hid (∀ w', Below wz.heap.size wz w' → CellsOf w' (.slice ar rs.length cr) rs.length (boolAt rs)) := fun w' hb => HRS.out w' (HNW.out.trans (hb.mono HNW.out.size))
              clear hcl hnx hown
              generalize L.getD n rw0 = r at *
              go_wp2_with fail
              go_loopw [11, 12] (fun tt ii wy => ∃ j : Nat, j ≤ r.ss.length ∧ ii = .int .i64 j ∧ tt = .string ⟨(lineTo r.ss WR rs j).toArray⟩ ∧ Below wz.heap.size wz wy) (fun _ ii _ => r.ss.length - (intOf ii).toNat)
              case atStart => exact ⟨0, Nat.zero_le _, rfl, rfl, Below.refl _ _⟩
              case round =>
                rename World => wy
                obtain ⟨j, hj, rfl, rfl, hny⟩ := hrel
                have HNY := hidD hny
                have hsy := hny.size
                have hcr := HCR.out wy hny
                by_cases hjl : j < r.ss.length
                · rcases HST.out wy hny with ⟨h0, _⟩ | ⟨g2, off2, cap2, hsl2, hg2, hcl2⟩
                  · rw [h0] at hjl; exact absurd hjl (by simp)
                  rw [Value.slice.injEq] at hsl2
                  have e1 := hsl2.1
                  clear hsl2
                  rw [e1] at hcr HCR
                  have hcx : wy.cell? ⟨g2, off2 + j, none⟩ = some (.string ⟨(r.ss.getD j []).toArray⟩) := hcl2 j hjl
                  have c2 : ∀ i : BW wy, i.v.cell? ⟨g2, off2 + j, none⟩ = some (.string ⟨(r.ss.getD j []).toArray⟩) := fun i => (i.cell hg2).trans hcx
                  have c1 : ∀ i : BW wy, i.v.cell? ⟨g, off + n, none⟩ = some (.slice (some ⟨g2, off2, none⟩) r.ss.length r.cap) := fun i => HCR.out i.v (hny.trans (i.below.mono hsy))
                  obtain ⟨gw, offw, hew, hgw⟩ : ∃ gw offw, aw = some ⟨gw, offw, none⟩ ∧ ∀ w', Below wz.heap.size wz w' → w'.cell? ⟨gw, offw + j, none⟩ = some (.int .i64 ((WR.getD j 0 : Nat) : Int)) := by
                    rcases HCZ.out wy hny with ⟨h0, _⟩ | ⟨gw, offw, capw, hslw, _⟩
                    · omega
                    · cases hslw
                      refine ⟨gw, offw, rfl, fun w' hb => ?_⟩
                      rcases HCZ.out w' hb with ⟨h0, _⟩ | ⟨g', o', c', hs', _, hc'⟩
                      · omega
                      · cases hs'; exact hc' j (by omega)
                  subst hew
                  have c3 : ∀ i : BW wy, i.v.cell? ⟨gw, offw + j, none⟩ = some (.int .i64 ((WR.getD j 0 : Nat) : Int)) := fun i => hgw i.v (hny.trans (i.below.mono hsy))
                  have hji : (j : Int) < r.ss.length := by omega
                  have hjk : (j : Int) < k := by omega
                  have hxl := HTX.out _ (mem_getDS hjl)
                  have hXl := lineTo_len HTX.out (ws := WR) (rs := rs) j hj
                  have HLT : Hid (lineTo r.ss WR rs (j + 1) = lineTo r.ss WR rs j ++ gapS j ++ cellS r.ss WR rs j) := rfl
                  have HCE : Hid (cellS r.ss WR rs j = if j < rs.length ∧ rs.getD j false = true then rightS (r.ss.getD j []) (WR.getD j 0 : Nat) else if j + 1 < r.ss.length then leftS (r.ss.getD j []) (WR.getD j 0 : Nat) else r.ss.getD j []) := rfl
                  have HCB : Hid (j < rs.length → ∃ gr offr, ar = some ⟨gr, offr, none⟩ ∧ wy.cell? ⟨gr, offr + j, none⟩ = some (.bool (rs.getD j false))) := fun hr => by
                    rcases HRZ.out wy hny with ⟨h0, _⟩ | ⟨gr, offr, capr, hslr, _, hc'⟩
                    · omega
                    · cases hslr; exact ⟨gr, offr, rfl, hc' j hr⟩
                  have HLf := hidD (fun (w' : World) => refLeft_any (r.ss.getD j []) (by omega) (WR.getD j 0 : Nat) w')
                  have HRi := hidD (fun (w' : World) => refRight_any (r.ss.getD j []) (by omega) (WR.getD j 0 : Nat) w')
                  have hLl := left_len (r.ss.getD j []) (WR.getD j 0 : Nat)
                  have hRl := right_len (r.ss.getD j []) (WR.getD j 0 : Nat)
                  clear hcl2 hny hgw HRZ HCZ HST HCR HTX
                  generalize lineTo r.ss WR rs j = X at *
                  generalize cellS r.ss WR rs j = C at *
                  generalize r.ss.getD j [] = x at *
                  generalize WR.getD j 0 = wv at *
                  generalize leftS x (wv : Int) = Lf at *
                  generalize rightS x (wv : Int) = Ri at *
                  have hX2 : X.length ≤ 1099780063233 := by omega
                  clear hXl
                  by_cases hgap : 0 < j
                  · have hgi : (0 : Int) < j := by omega
                    have HGP : Hid (gapS j = [32, 32]) := by show _ = _; unfold gapS; rw [if_pos hgap]
                    by_cases hr1 : j < rs.length
                    · obtain ⟨gr, offr, rfl, hcc⟩ := HCB.out hr1
                      have hri : (j : Int) < rs.length := by omega
                      cases hrb : rs.getD j false with
                      | true =>
                        have HCF : Hid (C = Ri) := by show _ = _; rw [HCE.out, if_pos ⟨hr1, hrb⟩]
                        rw [hrb] at hcc
                        clear hrb HCE HCB
                        go_wp2_with fail
                        refine wp_region_below (by kernel_rfl) (by kernel_rfl) ?_
                        repeat (go_big_quiet_step ((go_at_call 22; exact Calls.below_of (HRi.out _))))
                        refine wpQuiet_nil ?_
                        intro i
                        have HBQ2 := hidD (HNY.out.trans (i.below.mono hsy))
                        clear c1 c2 c3
                        generalize i.v = w5 at *
                        go_wp2
                        go_roundw
                        case rel => exact ⟨j + 1, by omega, by go_num, by rw [HLT.out, HGP.out, HCF.out]; exact str_eq ((congrArg (· ++ _) (ba_append X [32, 32])).trans (ba_append _ Ri)), HBQ2.out⟩
                        case measure => simp [intOf]; omega
                      | false =>
                        rw [hrb] at hcc
                        by_cases hlast : j + 1 < r.ss.length
                        · have HCF : Hid (C = Lf) := by show _ = _; rw [HCE.out, if_neg (by simp only [hrb]; simp), if_pos hlast]
                          have hli : ¬ ((j : Int) = (r.ss.length : Int) - 1) := by omega
                          have hlb : ((j : Int) == (r.ss.length : Int) - 1) = false := by simp; omega
                          clear hrb HCE HCB
                          go_wp2_with fail
                          refine wp_region_below (by kernel_rfl) (by kernel_rfl) ?_
                          repeat (go_big_quiet_step ((go_at_call 20; exact Calls.below_of (HLf.out _))))
                          refine wpQuiet_nil ?_
                          intro i
                          have HBQ2 := hidD (HNY.out.trans (i.below.mono hsy))
                          clear c1 c2 c3
                          generalize i.v = w5 at *
                          go_wp2
                          go_roundw
                          case rel => exact ⟨j + 1, by omega, by go_num, by rw [HLT.out, HGP.out, HCF.out]; exact str_eq ((congrArg (· ++ _) (ba_append X [32, 32])).trans (ba_append _ Lf)), HBQ2.out⟩
                          case measure => simp [intOf]; omega
                        · have HCF : Hid (C = x) := by show _ = _; rw [HCE.out, if_neg (by simp only [hrb]; simp), if_neg hlast]
                          have hlb : ((j : Int) == (r.ss.length : Int) - 1) = true := by simp; omega
                          clear hrb HCE HCB
                          clear c1 c2 c3
                          go_wp2
                          go_roundw
                          case rel => exact ⟨j + 1, by omega, by go_num, by rw [HLT.out, HGP.out, HCF.out]; exact str_eq ((congrArg (· ++ _) (ba_append X [32, 32])).trans (ba_append _ x)), HNY.out⟩
                          case measure => simp [intOf]; omega
                    · have hri : ¬ ((j : Int) < rs.length) := by omega
                      by_cases hlast : j + 1 < r.ss.length
                      · have HCF : Hid (C = Lf) := by show _ = _; rw [HCE.out, if_neg (fun q => hr1 q.1), if_pos hlast]
                        have hli : ¬ ((j : Int) = (r.ss.length : Int) - 1) := by omega
                        have hlb : ((j : Int) == (r.ss.length : Int) - 1) = false := by simp; omega
                        clear HCE HCB
                        go_wp2_with fail
                        refine wp_region_below (by kernel_rfl) (by kernel_rfl) ?_
                        repeat (go_big_quiet_step ((go_at_call 20; exact Calls.below_of (HLf.out _))))
                        refine wpQuiet_nil ?_
                        intro i
                        have HBQ2 := hidD (HNY.out.trans (i.below.mono hsy))
                        clear c1 c2 c3
                        generalize i.v = w5 at *
                        go_wp2
                        go_roundw
                        case rel => exact ⟨j + 1, by omega, by go_num, by rw [HLT.out, HGP.out, HCF.out]; exact str_eq ((congrArg (· ++ _) (ba_append X [32, 32])).trans (ba_append _ Lf)), HBQ2.out⟩
                        case measure => simp [intOf]; omega
                      · have HCF : Hid (C = x) := by show _ = _; rw [HCE.out, if_neg (fun q => hr1 q.1), if_neg hlast]
                        have hlb : ((j : Int) == (r.ss.length : Int) - 1) = true := by simp; omega
                        clear HCE HCB
                        clear c1 c2 c3
                        go_wp2
                        go_roundw
                        case rel => exact ⟨j + 1, by omega, by go_num, by rw [HLT.out, HGP.out, HCF.out]; exact str_eq ((congrArg (· ++ _) (ba_append X [32, 32])).trans (ba_append _ x)), HNY.out⟩
                        case measure => simp [intOf]; omega
                  · have hgi : ¬ ((0 : Int) < j) := by omega
                    have HGP : Hid (gapS j = []) := by show _ = _; unfold gapS; rw [if_neg hgap]
                    clear hgap
                    by_cases hr1 : j < rs.length
                    · obtain ⟨gr, offr, rfl, hcc⟩ := HCB.out hr1
                      have hri : (j : Int) < rs.length := by omega
                      cases hrb : rs.getD j false with
                      | true =>
                        have HCF : Hid (C = Ri) := by show _ = _; rw [HCE.out, if_pos ⟨hr1, hrb⟩]
                        rw [hrb] at hcc
                        clear hrb HCE HCB
                        go_wp2_with fail
                        refine wp_region_below (by kernel_rfl) (by kernel_rfl) ?_
                        repeat (go_big_quiet_step ((go_at_call 22; exact Calls.below_of (HRi.out _))))
                        refine wpQuiet_nil ?_
                        intro i
                        have HBQ2 := hidD (HNY.out.trans (i.below.mono hsy))
                        clear c1 c2 c3
                        generalize i.v = w5 at *
                        go_wp2
                        go_roundw
                        case rel => exact ⟨j + 1, by omega, by go_num, by rw [HLT.out, HGP.out, HCF.out, List.append_nil]; exact str_eq (ba_append X Ri), HBQ2.out⟩
                        case measure => simp [intOf]; omega
                      | false =>
                        rw [hrb] at hcc
                        by_cases hlast : j + 1 < r.ss.length
                        · have HCF : Hid (C = Lf) := by show _ = _; rw [HCE.out, if_neg (by simp only [hrb]; simp), if_pos hlast]
                          have hli : ¬ ((j : Int) = (r.ss.length : Int) - 1) := by omega
                          have hlb : ((j : Int) == (r.ss.length : Int) - 1) = false := by simp; omega
                          clear hrb HCE HCB
                          go_wp2_with fail
                          refine wp_region_below (by kernel_rfl) (by kernel_rfl) ?_
                          repeat (go_big_quiet_step ((go_at_call 20; exact Calls.below_of (HLf.out _))))
                          refine wpQuiet_nil ?_
                          intro i
                          have HBQ2 := hidD (HNY.out.trans (i.below.mono hsy))
                          clear c1 c2 c3
                          generalize i.v = w5 at *
                          go_wp2
                          go_roundw
                          case rel => exact ⟨j + 1, by omega, by go_num, by rw [HLT.out, HGP.out, HCF.out, List.append_nil]; exact str_eq (ba_append X Lf), HBQ2.out⟩
                          case measure => simp [intOf]; omega
                        · have HCF : Hid (C = x) := by show _ = _; rw [HCE.out, if_neg (by simp only [hrb]; simp), if_neg hlast]
                          have hlb : ((j : Int) == (r.ss.length : Int) - 1) = true := by simp; omega
                          clear hrb HCE HCB
                          clear c1 c2 c3
                          go_wp2
                          go_roundw
                          case rel => exact ⟨j + 1, by omega, by go_num, by rw [HLT.out, HGP.out, HCF.out, List.append_nil]; exact str_eq (ba_append X x), HNY.out⟩
                          case measure => simp [intOf]; omega
                    · have hri : ¬ ((j : Int) < rs.length) := by omega
                      by_cases hlast : j + 1 < r.ss.length
                      · have HCF : Hid (C = Lf) := by show _ = _; rw [HCE.out, if_neg (fun q => hr1 q.1), if_pos hlast]
                        have hli : ¬ ((j : Int) = (r.ss.length : Int) - 1) := by omega
                        have hlb : ((j : Int) == (r.ss.length : Int) - 1) = false := by simp; omega
                        clear HCE HCB
                        go_wp2_with fail
                        refine wp_region_below (by kernel_rfl) (by kernel_rfl) ?_
                        repeat (go_big_quiet_step ((go_at_call 20; exact Calls.below_of (HLf.out _))))
                        refine wpQuiet_nil ?_
                        intro i
                        have HBQ2 := hidD (HNY.out.trans (i.below.mono hsy))
                        clear c1 c2 c3
                        generalize i.v = w5 at *
                        go_wp2
                        go_roundw
                        case rel => exact ⟨j + 1, by omega, by go_num, by rw [HLT.out, HGP.out, HCF.out, List.append_nil]; exact str_eq (ba_append X Lf), HBQ2.out⟩
                        case measure => simp [intOf]; omega
                      · have HCF : Hid (C = x) := by show _ = _; rw [HCE.out, if_neg (fun q => hr1 q.1), if_neg hlast]
                        have hlb : ((j : Int) == (r.ss.length : Int) - 1) = true := by simp; omega
                        clear HCE HCB
                        clear c1 c2 c3
                        go_wp2
                        go_roundw
                        case rel => exact ⟨j + 1, by omega, by go_num, by rw [HLT.out, HGP.out, HCF.out, List.append_nil]; exact str_eq (ba_append X x), HNY.out⟩
                        case measure => simp [intOf]; omega
                · obtain rfl : j = r.ss.length := by omega
                  have HOA : Hid (∀ o, (wy.alloc o).ownsRow wq.heap.size 9 1 (.slice a9 n c9) n ((linesR L WR rs n).map encStr)) := fun o => (row_below HOWN.out hny).alloc o
                  have HNX1 := hidD (HNX.out.trans (hny.mono hsz))
                  have hs1 := HNX1.out.size
                  clear hny
                  generalize lineTo r.ss WR rs r.ss.length = X at *
                  go_wp2_with (first
                    | (at_builtin; refine wpList_append_own _ rfl _ _ 37 rfl wq.heap.size 9 i9 (.string ⟨#[]⟩) 1 16 Try.underlying37 hi9 hy0 hy1 hy2 rfl (by decide) (.slice a9 n c9) n ((linesR L WR rs n).map encStr) rfl (HOA.out _) ⟨wy.heap.size, 0, none⟩ 1 1 [.string ⟨X.toArray⟩] rfl rfl (new_cell1 wy _ _) (by simp [Value.oneCell']) (by unfold maxLen; omega) (by omega) (by simp; omega) ?_; intro v' w3 hown' hg3 hnil3)
                    | go_in)
                  have hbx : Below wq.heap.size wq w3 := ((HNX1.out).alloc hs1 _).grown hg3 (by simp; omega) (fun q hq => by
                    obtain ⟨g0, c0, e0, hb0⟩ : ∃ g0 c0, Value.slice a9 n c9 = .slice (some ⟨g0, 0, none⟩) n c0 ∧ wq.heap.size ≤ g0 := by
                      rcases (HOA.out (.cells #[] 3)).2 with ⟨h0, _⟩ | ⟨g0, c0, cur, h0, hb0, _⟩
                      · rw [h0] at hq; simp [Value.ownBlock] at hq
                      · exact ⟨g0, c0, h0, hb0⟩
                    rw [e0] at hq
                    simp [Value.ownBlock] at hq
                    omega)
                  have HBX := hidD hbx
                  have HOX := hidD hown'
                  clear hbx hown' hg3 hnil3
                  go_wp2
                  go_roundw
                  case rel => exact ⟨n + 1, by omega, by go_num, by rw [← HNE.out]; exact HOX.out, HBX.out⟩
                  case measure => simp [intOf]; omega
            · obtain rfl : n = L.length := by omega
              clear hnx hown
              go_wp2
              go_ret
              exact ⟨_, rfl, by rw [← HLA.out]; exact row_base HOWN.out hsq, HNW.out⟩
end Go.Proofs.Ytmmlmpcalhfigaa
