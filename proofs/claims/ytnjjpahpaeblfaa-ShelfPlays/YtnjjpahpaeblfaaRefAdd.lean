/- What Add of the document's shelf answers and leaves. -/
import Derived.Test.YtnjjpahpaeblfaaRefU
namespace Go.Proofs.Ytnjjpahpaeblfaa
open Go.RowKit Go.Maps Go.Sort
set_option linter.unusedVariables false

theorem NotesAt.of_row {w : World} {base : Nat} {v : Value} {T : List Ne} (h : w.ownsRow base 29 4 v T.length (allCells T)) (hok : ∀ e ∈ T, NeOk w e) (hl : T.length ≤ 8796093022208) : NotesAt w v T := by
  refine ⟨?_, hl, hok⟩
  rcases h.2 with ⟨rfl, h0⟩ | ⟨g, cap', cur, rfl, _, hb, _⟩
  · exact .inl ⟨List.eq_nil_of_length_eq_zero h0, none, 0, rfl⟩
  · refine .inr ⟨g, 0, cap', rfl, (Array.getElem?_eq_some_iff.1 hb).1, fun i hi => ?_⟩
    obtain ⟨g2, hg2, hc⟩ := row_cells4 h hi
    cases hg2
    rw [Nat.zero_add]
    exact hc

theorem allCells_split (T : List Ne) (k : Nat) : allCells (T.take k) ++ allCells (T.drop k) = allCells T := by
  rw [allCells, allCells, ← List.flatMap_append, List.take_append_drop]; rfl
theorem all_oneCell (T : List Ne) : ∀ u ∈ allCells T, u.oneCell' = true := fun u hu => by
  obtain ⟨e, _, he⟩ := List.mem_flatMap.1 hu
  exact ne_oneCell e u he
theorem take_src {T : List Ne} {W : World} {g k : Nat} (h : ∀ j u, (allCells T)[j]? = some u → W.cell? ⟨g, j, none⟩ = some u) : ∀ j u, (allCells (T.take k))[j]? = some u → W.cell? ((⟨g, 0, none⟩ : Addr).add j) = some u := fun j u hu => by
  rw [show (⟨g, 0, none⟩ : Addr).add j = ⟨g, 0 + j, none⟩ from Addr.add_lit .., Nat.zero_add]
  refine h j u ?_
  rw [← allCells_split T k, List.getElem?_append_left (List.getElem?_eq_some_iff.1 hu).1]
  exact hu
theorem drop_src {T : List Ne} {W : World} {g k : Nat} (hk : k ≤ T.length) (h : ∀ j u, (allCells T)[j]? = some u → W.cell? ⟨g, j, none⟩ = some u) : ∀ j u, (allCells (T.drop k))[j]? = some u → W.cell? ((⟨g, k * 4, none⟩ : Addr).add j) = some u := fun j u hu => by
  rw [show (⟨g, k * 4, none⟩ : Addr).add j = ⟨g, k * 4 + j, none⟩ from Addr.add_lit ..]
  refine h _ u ?_
  have hl : (allCells (T.take k)).length = k * 4 := by rw [allCells_length, List.length_take]; omega
  rw [← allCells_split T k, List.getElem?_append_right (by omega), hl, Nat.add_sub_cancel_left]
  exact hu

theorem none_src {T : List Ne} {W : World} {ad : Addr} {k : Nat} (hk : T.length ≤ k) : ∀ j u, (allCells (T.drop k))[j]? = some u → W.cell? (ad.add j) = some u := fun j u hu => by
  rw [List.drop_eq_nil_of_le hk] at hu
  simp [allCells] at hu
theorem join_row {w : World} {base b2 k c : Nat} {a : Option Addr} {T : List Ne} {e : Ne} (hk : k ≤ T.length) (hb : b2 ≤ base) (h : w.ownsRow base 29 4 (.slice a (k + 1 + (T.length - k)) c) (k + 1 + (T.length - k)) (allCells (T.take k) ++ neCells e ++ allCells (T.drop k))) :
    w.ownsRow b2 29 4 (.slice a (k + 1 + (T.length - k)) c) (T.length + 1) (allCells (T.take k ++ e :: T.drop k)) := by
  have hl : k + 1 + (T.length - k) = T.length + 1 := by omega
  have hc : allCells (T.take k ++ e :: T.drop k) = allCells (T.take k) ++ neCells e ++ allCells (T.drop k) := by simp [allCells]
  rw [hc]
  have h2 := row_mono h hb
  rw [hl] at h2 ⊢
  exact h2
theorem leans_row {w3 w7 : World} {b c : Nat} {u : Value} {a : Option Addr} {ls : List (List UInt8)} (h : w3.ownsRow (b + 1) 9 1 (.slice a ls.length c) ls.length (ls.map encStr)) (hx : Below w3.heap.size (w3.setCell ⟨b, 3, none⟩ u) w7) : w7.ownsRow b 9 1 (.slice a ls.length c) ls.length (ls.map encStr) := by
  have h1 := row_setCell h (a := ⟨b, 3, none⟩) (by simp) u
  have h2 := h1.kept (row := none) (w' := w7) ⟨hx.os, hx.tape, hx.output, hx.size, fun k hk _ => hx.block k (by simpa using hk)⟩ (by cases hq : (Value.slice a ls.length c).ownBlock <;> simp)
  exact row_mono h2 (by omega)
theorem nil_row {w : World} {b b2 c : Nat} {a : Option Addr} {e : Ne} (h : w.ownsRow b 29 4 (.slice a 1 c) 1 (neCells e)) (hb : b2 ≤ b) : w.ownsRow b2 29 4 (.slice a 1 c) (([] : List Ne).length + 1) (allCells (([] : List Ne).take 0 ++ e :: ([] : List Ne).drop 0)) := by
  have := row_mono h hb
  simpa [allCells] using this
theorem made_set (w3 : World) (a : Addr) (u : Value) : ((w3.setCell a u).alloc (.cells #[] 29)).ownsRow w3.heap.size 29 4 (.slice (some ⟨w3.heap.size, 0, none⟩) 0 0) 0 [] := by
  have h9 := World.ownsRow_made (base := w3.heap.size) (e := 29) (size := 4) (w3.setCell a u) #[] 0 (by simp) (by decide) rfl
  have h8 : (w3.setCell a u).heap.size = w3.heap.size := by simp
  rw [h8] at h9
  exact h9

set_option maxRecDepth 100000 in
set_option maxHeartbeats 4000000 in
theorem refAdd_any (n : Nt) (hn : NtOk n) (a : Option Addr) (cap : Nat) (hcap : n.leans.length ≤ cap) (hcm : cap ≤ maxLen) (w : World) (hs : StrsAt w (.slice a n.leans.length cap) n.leans) (r base : Nat) (v : Value) (T : List Ne) (S : List Nt)
    (hcell : w.cell? ⟨r, 0, none⟩ = some v) (hfr : w.frozen? ⟨r, 0, none⟩ = false) (hrow : w.ownsRow base 29 4 v T.length (allCells T)) (hok : ∀ e ∈ T, NeOk w e) (h64 : T.length ≤ 64) (hS : Same S T) :
    Calls Try.prog 17 #[.pointer (some ⟨r, 0, none⟩), .agg #[.string ⟨n.name.toArray⟩, .int .i64 n.words, .int .u32 n.sum, .slice a n.leans.length cap]] w fun e w' => e = .returned (.int .i64 (addI S n)) ∧
      ((addI S n ≠ 0 ∧ Below w.heap.size w w') ∨ (addI S n = 0 ∧ ∃ W k v' a' c', FindAt T n.name k ∧ w' = W.setCell ⟨r, 0, none⟩ v' ∧ Below w.heap.size w W ∧ W.ownsRow w.heap.size 29 4 v' (T.length + 1) (allCells (T.take k ++ ⟨n, a', c'⟩ :: T.drop k)) ∧
        W.ownsRow w.heap.size 9 1 (.slice a' n.leans.length c') n.leans.length (n.leans.map encStr))) := by
  have hN := NotesAt.of_row hrow hok (by omega)
  obtain ⟨av, cv, rfl⟩ := row_shape hrow
  have HRS : Hid (RS w r T) := ⟨av, cv, hcell, hN⟩
  have HROW := hidR hrow
  have HS := hidR hS
  have HST := hidR hs
  have hr : r < w.heap.size := World.block_lt_of_cell? w _ hcell
  have HRT : Hid (∀ w', Below w.heap.size w w' → Calls Try.prog 14 #[.agg #[.string ⟨n.name.toArray⟩, .int .i64 n.words, .int .u32 n.sum, .slice a n.leans.length cap]] w' fun e w2 => e = .returned (.int .i64 (rightI n)) ∧ Below w'.heap.size w' w2) := fun w' hb => refRight_any n hn a cap hcap hcm w' (hs.below hb (Nat.le_refl _))
  have HFI : Hid (∀ w', Below w.heap.size w w' → Calls Try.prog 33 #[.pointer (some ⟨r, 0, none⟩), .string ⟨n.name.toArray⟩] w' fun e w2 => ∃ k, FindAt T n.name k ∧ e = .returned (.tuple #[.int .i64 k, .bool (foundB T n.name k)]) ∧ Below w'.heap.size w' w2) := fun w' hb => find_any n.name w' r T (HRS.out.below hb (Nat.le_refl _))
  have HA1 : Hid (rightI n ≠ 0 → addI S n = rightI n) := fun h => by simp [addI, h]
  have HA2 : Hid (rightI n = 0 → (S.map Nt.name).contains n.name = true → addI S n = 10) := fun h h2 => by unfold addI; rw [if_neg (by simp [h]), if_pos h2]
  have HA3 : Hid (rightI n = 0 → (S.map Nt.name).contains n.name = false → 64 ≤ T.length → addI S n = 3) := fun h h2 h3 => by unfold addI; rw [if_neg (by simp [h]), h2, if_neg (by simp), if_pos (by rw [← HS.out.len]; exact h3)]
  have HA4 : Hid (rightI n = 0 → (S.map Nt.name).contains n.name = false → ¬ 64 ≤ T.length → addI S n = 0) := fun h h2 h3 => by unfold addI; rw [if_neg (by simp [h]), h2, if_neg (by simp), if_neg (by rw [← HS.out.len]; exact h3)]
  have hl6 := hn.leans.1
  have HC : Hid (∀ w', Below w.heap.size w w' → w'.cell? ⟨r, 0, none⟩ = some (.slice av T.length cv)) := fun w' hb => (hb.cell (p := ⟨r, 0, none⟩) hr).trans hcell
  have HBA : Hid (∀ o, Below w.heap.size w (w.alloc o)) := fun o => (Below.refl w.heap.size w).alloc (Nat.le_refl _) o
  have HN := hidR hN
  have HOK := hidR hok
  have HFR := hidR hfr
  clear hN hrow hok hS hs hfr
  generalize rightI n = ri at *
  generalize addI S n = ai at *
  obtain ⟨nm, wd, sm, ls⟩ := n
  simp only at *
  go_enter Try.func17, Try.ntmps17
  go_wp2_with fail
  refine (HRT.out _ (HBA.out _)).mono ?_
  rintro e w1 ⟨rfl, hb1⟩
  have HB1 : Hid (Below w.heap.size w w1) := (HBA.out _).trans (hb1.mono (by simp))
  have hsz1 := hb1.size
  simp at hsz1
  have HX1 := hidR hb1
  by_cases hri : ri = 0
  · have hrb : (ri != 0) = false := by simp [hri]
    have hw0 : w1.cell? ⟨w.heap.size, 0, none⟩ = some (.string ⟨nm.toArray⟩) := ((bcell hb1).1 _ 0 (by simp)).trans (by simp)
    have hw1 : w1.cell? ⟨w.heap.size, 1, none⟩ = some (.int .i64 wd) := ((bcell hb1).1 _ 1 (by simp)).trans (by simp)
    have hw2 : w1.cell? ⟨w.heap.size, 2, none⟩ = some (.int .u32 sm) := ((bcell hb1).1 _ 2 (by simp)).trans (by simp)
    have hw3 : w1.cell? ⟨w.heap.size, 3, none⟩ = some (.slice a ls.length cap) := ((bcell hb1).1 _ 3 (by simp)).trans (by simp)
    have hwf : w1.frozen? ⟨w.heap.size, 3, none⟩ = false := ((bcell hb1).2 _ 3 (by simp)).trans (by simp)
    clear hb1 HX1 HRT
    go_wp2_with fail
    refine (HFI.out _ HB1.out).mono ?_
    rintro e w2 ⟨kf, hkf, rfl, hb2⟩
    have HB2 : Hid (Below w.heap.size w w2) := HB1.out.trans (hb2.mono (by omega))
    have hsz2 := hb2.size
    have HKF := hidR hkf
    have HFB := hidR (HS.out.found hkf)
    have hkl := hkf.le
    have hx0 : w2.cell? ⟨w.heap.size, 0, none⟩ = some (.string ⟨nm.toArray⟩) := ((bcell hb2).1 _ 0 (by omega)).trans hw0
    have hx1 : w2.cell? ⟨w.heap.size, 1, none⟩ = some (.int .i64 wd) := ((bcell hb2).1 _ 1 (by omega)).trans hw1
    have hx2 : w2.cell? ⟨w.heap.size, 2, none⟩ = some (.int .u32 sm) := ((bcell hb2).1 _ 2 (by omega)).trans hw2
    have hx3 : w2.cell? ⟨w.heap.size, 3, none⟩ = some (.slice a ls.length cap) := ((bcell hb2).1 _ 3 (by omega)).trans hw3
    have hxf : w2.frozen? ⟨w.heap.size, 3, none⟩ = false := ((bcell hb2).2 _ 3 (by omega)).trans hwf
    have hcr2 := HC.out w2 HB2.out
    clear hw0 hw1 hw2 hw3 hwf hb2 hkf HFI
    generalize foundB T nm kf = fb at *
    cases fb with
    | true =>
      have HE := hidR (HA2.out hri HFB.out.symm)
      go_wp2
      go_ret
      exact ⟨by rw [HE.out]; rfl, .inl ⟨by rw [HE.out]; decide, HB2.out⟩⟩
    | false =>
      by_cases h6 : 64 ≤ T.length
      · have HE := hidR (HA3.out hri HFB.out.symm h6)
        go_wp2
        go_ret
        exact ⟨by rw [HE.out]; rfl, .inl ⟨by rw [HE.out]; decide, HB2.out⟩⟩
      · have HE := hidR (HA4.out hri HFB.out.symm h6)
        have hTi : ¬ (64 : Int) ≤ T.length := by omega
        have HR : Hid ((w2.alloc (.cells #[] 9)).ownsRow (w.heap.size + 1) 9 1 (.slice (some ⟨w2.heap.size, 0, none⟩) 0 0) 0 []) :=
          World.ownsRow_made (base := w.heap.size + 1) (e := 9) (size := 1) w2 #[] 0 (by omega) (by decide) rfl
        have HSA : Hid (∀ o, StrsAt (w2.alloc o) (.slice a ls.length cap) ls) := fun o => HST.out.below (HB2.out.alloc (by omega) o) (Nat.le_refl _)
        have hxa : ∀ o, (w2.alloc o).cell? ⟨w.heap.size, 3, none⟩ = some (.slice a ls.length cap) := fun o => ((bcell ((Below.refl w2.heap.size w2).alloc (Nat.le_refl _) o)).1 _ 3 (by omega)).trans hx3
        clear HA1 HA2 HA3 HA4 hrb
        obtain ⟨i29, hj, hy0', hy1', hy2'⟩ := info_parts Try.info29
        rcases HROW.out.2 with ⟨hv, h0⟩ | ⟨g, cap', cur, hv, hbase, hbk, hnc, hcx, _⟩
        · rw [Value.slice.injEq] at hv
          obtain ⟨rfl, hq1, rfl⟩ := hv
          obtain rfl : T = [] := List.eq_nil_of_length_eq_zero h0
          obtain rfl : kf = 0 := by simpa using hkl
          clear hq1 h0
          go_wp2_with (first
            | (at_builtin; refine wpList_append_strs rfl _ _ rfl (w.heap.size + 1) w2.heap.size ls (by omega) rfl HR.out _ rfl (HSA.out _) (by simp; omega) ?_; intro a3 c3 w3 hown3 hg3; have HR3 := hidR hown3; have HG3 := hidR hg3; have hb3 : Below w2.heap.size w2 w3 := ((Below.refl w2.heap.size w2).alloc (Nat.le_refl _) _).grown hg3 (by simp) (fun j hj => by simp at hj; omega); have hy0 : w3.cell? ⟨w.heap.size, 0, none⟩ = some (.string ⟨nm.toArray⟩) := ((bcell hb3).1 _ 0 (by omega)).trans hx0; have hy1 : w3.cell? ⟨w.heap.size, 1, none⟩ = some (.int .i64 wd) := ((bcell hb3).1 _ 1 (by omega)).trans hx1; have hy2 : w3.cell? ⟨w.heap.size, 2, none⟩ = some (.int .u32 sm) := ((bcell hb3).1 _ 2 (by omega)).trans hx2; have hy3 : w3.cell? ⟨w.heap.size, 3, none⟩ = some (.slice a ls.length cap) := ((bcell hb3).1 _ 3 (by omega)).trans hx3; have hyf : w3.frozen? ⟨w.heap.size, 3, none⟩ = false := ((bcell hb3).2 _ 3 (by omega)).trans hxf; have HB3 : Hid (Below w.heap.size w w3) := HB2.out.trans (hb3.mono (by omega)); have hsz3 := hb3.size; have HB4 : Hid (∀ u o, Below w.heap.size w ((w3.setCell ⟨w.heap.size, 3, none⟩ u).alloc o)) := fun u o => (HB3.out.setCell (Nat.le_refl _) u).alloc (by simp; omega) o; have hcr4 : ∀ u o, ((w3.setCell ⟨w.heap.size, 3, none⟩ u).alloc o).cell? ⟨r, 0, none⟩ = some (.slice none 0 0) := fun u o => HC.out _ (HB4.out u o); have HRN : Hid (∀ u, ((w3.setCell ⟨w.heap.size, 3, none⟩ u).alloc (.cells #[] 29)).ownsRow w3.heap.size 29 4 (.slice (some ⟨w3.heap.size, 0, none⟩) 0 0) 0 []) := (fun u => made_set w3 _ u); clear hown3 hg3 hb3 hx0 hx1 hx2 hx3 hxf hcr2 hxa)
            | (at_builtin; refine wpList_append_own_none rfl _ _ 36 rfl w3.heap.size 29 i29 4 Try.underlying36 hj (.slice (some ⟨w3.heap.size, 0, none⟩) 0 0) 0 [] rfl (HRN.out _) rfl ?_; have HR5 := hidR (HRN.out (.slice a3 ls.length c3)); have HX5 := hidR ((Below.refl w3.heap.size (w3.setCell ⟨w.heap.size, 3, none⟩ (.slice a3 ls.length c3))).alloc (by simp) (.cells #[] 29)); generalize (w3.setCell ⟨w.heap.size, 3, none⟩ (.slice a3 ls.length c3)).alloc (.cells #[] 29) = w5 at *; have hz0 : w5.cell? ⟨w.heap.size, 0, none⟩ = some (.string ⟨nm.toArray⟩) := ((bcell HX5.out).1 _ 0 (by omega)).trans (by simp [go_sem, hy0]); have hz1 : w5.cell? ⟨w.heap.size, 1, none⟩ = some (.int .i64 wd) := ((bcell HX5.out).1 _ 1 (by omega)).trans (by simp [go_sem, hy1]); have hz2' : w5.cell? ⟨w.heap.size, 2, none⟩ = some (.int .u32 sm) := ((bcell HX5.out).1 _ 2 (by omega)).trans (by simp [go_sem, hy2]); have hz3 : w5.cell? ⟨w.heap.size, 3, none⟩ = some (.slice a3 ls.length c3) := ((bcell HX5.out).1 _ 3 (by omega)).trans (by simp [go_sem, hy3]); have hsz5 : w3.heap.size ≤ w5.heap.size := (by have h9 := HX5.out.size; simpa using h9); clear hy0 hy1 hy2 hy3 hyf hcr4 HRN)
            | (at_builtin; refine wpList_append_own _ rfl _ _ 36 rfl w3.heap.size 29 i29 _ 4 56 Try.underlying36 hj hy0' hy1' hy2' rfl (by decide) (.slice (some ⟨w3.heap.size, 0, none⟩) 0 0) 0 [] rfl (HR5.out.alloc _) ⟨w5.heap.size, 0, none⟩ 1 1 (neCells ⟨⟨nm, wd, sm, ls⟩, a3, c3⟩) rfl rfl (cells4_new _ _ _ _ _ _) (ne_oneCell _) (by unfold maxLen; omega) (by omega) (by simp; omega) ?_; intro v6 w6 hown6 hg6 _; obtain ⟨a6, c6, rfl⟩ := row_shape hown6; have hr6 : w6.ownsRow w3.heap.size 29 4 (.slice a6 1 c6) 1 (neCells ⟨⟨nm, wd, sm, ls⟩, a3, c3⟩) := (by simpa using hown6); have HR6 := hidR hr6; have HX6 := hidR ((HX5.out.alloc hsz5 _).grown hg6 (by simp; omega) (fun j hj => (HR5.out.lt j hj).1)); have HB6 : Hid (Below w.heap.size w w6) := ((HB3.out.setCell (Nat.le_refl _) _).trans (HX6.out.mono (by omega))); have hcr6 : w6.cell? ⟨r, 0, none⟩ = some (.slice none 0 0) := HC.out _ HB6.out; have hsz6 : w3.heap.size ≤ w6.heap.size := (by have h9 := HX6.out.size; simpa using h9); have hfr6 : w6.frozen? ⟨r, 0, none⟩ = false := ((bcell HB6.out).2 r 0 hr).trans HFR.out; clear hr6 hg6 hown6 hz0 hz1 hz2' hz3)
            | (at_builtin; refine wpList_append_own_none rfl _ _ 36 rfl w3.heap.size 29 i29 4 Try.underlying36 hj (.slice a6 1 c6) 1 _ rfl HR6.out rfl ?_; have HR7 : Hid (w6.ownsRow w.heap.size 29 4 (.slice a6 1 c6) (([] : List Ne).length + 1) (allCells (([] : List Ne).take 0 ++ ⟨⟨nm, wd, sm, ls⟩, a3, c3⟩ :: ([] : List Ne).drop 0))) := nil_row HR6.out (by omega); have HL7 := hidR (leans_row HR3.out HX6.out))
            | go_in)
          go_ret
          exact ⟨by rw [HE.out]; rfl, .inr ⟨HE.out, w6, 0, _, a3, c3, HKF.out, rfl, HB6.out, HR7.out, HL7.out⟩⟩
        · rw [Value.slice.injEq] at hv
          obtain ⟨rfl, hq1, rfl⟩ := hv
          have hgw : g < w.heap.size := (Array.getElem?_eq_some_iff.1 hbk).1
          clear hbk hq1
          have HCW : Hid (∀ W, Below w.heap.size w W → ∀ j u, (allCells T)[j]? = some u → W.cell? ⟨g, j, none⟩ = some u) := fun W hb j u hu => by
            have := HROW.out.cells (g := g) rfl j u hu
            rw [show (⟨g, 0, none⟩ : Addr).add j = ⟨g, 0 + j, none⟩ from Addr.add_lit .., Nat.zero_add] at this
            exact (hb.cell (p := ⟨g, j, none⟩) hgw).trans this
          have hkT : (T.take kf).length = kf := by rw [List.length_take]; omega
          by_cases hck : cv = kf
          all_goals
            go_wp2_with (first
              | (at_builtin; refine wpList_append_strs rfl _ _ rfl (w.heap.size + 1) w2.heap.size ls (by omega) rfl HR.out _ rfl (HSA.out _) (by simp; omega) ?_; intro a3 c3 w3 hown3 hg3; have HR3 := hidR hown3; have HG3 := hidR hg3; have hb3 : Below w2.heap.size w2 w3 := ((Below.refl w2.heap.size w2).alloc (Nat.le_refl _) _).grown hg3 (by simp) (fun j hj => by simp at hj; omega); have hy0 : w3.cell? ⟨w.heap.size, 0, none⟩ = some (.string ⟨nm.toArray⟩) := ((bcell hb3).1 _ 0 (by omega)).trans hx0; have hy1 : w3.cell? ⟨w.heap.size, 1, none⟩ = some (.int .i64 wd) := ((bcell hb3).1 _ 1 (by omega)).trans hx1; have hy2 : w3.cell? ⟨w.heap.size, 2, none⟩ = some (.int .u32 sm) := ((bcell hb3).1 _ 2 (by omega)).trans hx2; have hy3 : w3.cell? ⟨w.heap.size, 3, none⟩ = some (.slice a ls.length cap) := ((bcell hb3).1 _ 3 (by omega)).trans hx3; have hyf : w3.frozen? ⟨w.heap.size, 3, none⟩ = false := ((bcell hb3).2 _ 3 (by omega)).trans hxf; have HB3 : Hid (Below w.heap.size w w3) := HB2.out.trans (hb3.mono (by omega)); have hsz3 := hb3.size; have HB4 : Hid (∀ u o, Below w.heap.size w ((w3.setCell ⟨w.heap.size, 3, none⟩ u).alloc o)) := fun u o => (HB3.out.setCell (Nat.le_refl _) u).alloc (by simp; omega) o; have hcr4 : ∀ u o, ((w3.setCell ⟨w.heap.size, 3, none⟩ u).alloc o).cell? ⟨r, 0, none⟩ = some (.slice (some ⟨g, 0, none⟩) T.length cv) := fun u o => HC.out _ (HB4.out u o); have HRN : Hid (∀ u, ((w3.setCell ⟨w.heap.size, 3, none⟩ u).alloc (.cells #[] 29)).ownsRow w3.heap.size 29 4 (.slice (some ⟨w3.heap.size, 0, none⟩) 0 0) 0 []) := (fun u => made_set w3 _ u); clear hown3 hg3 hb3 hx0 hx1 hx2 hx3 hxf hcr2 hxa)
              | (at_builtin; refine wpList_append_own _ rfl _ _ 36 rfl w3.heap.size 29 i29 _ 4 56 Try.underlying36 hj hy0' hy1' hy2' rfl (by decide) (.slice (some ⟨w3.heap.size, 0, none⟩) 0 0) 0 [] rfl (HRN.out _) ⟨g, 0, none⟩ kf _ (allCells (T.take kf)) rfl (by rw [allCells_length, hkT]) (take_src (HCW.out _ (HB4.out _ _))) (all_oneCell _) (by unfold maxLen; omega) (by omega) (by simp) ?_; intro v5 w5 hown5 hg5 _; obtain ⟨a5, c5, rfl⟩ := row_shape hown5; have hr5 : w5.ownsRow w3.heap.size 29 4 (.slice a5 kf c5) kf (allCells (T.take kf)) := (by simpa using hown5); have HR5 := hidR hr5; have HX5 := hidR (((Below.refl w3.heap.size (w3.setCell ⟨w.heap.size, 3, none⟩ (.slice a3 ls.length c3))).alloc (by simp) _).grown hg5 (by simp) (fun j hj => by simp [Value.ownBlock] at hj; omega)); have hz0 : w5.cell? ⟨w.heap.size, 0, none⟩ = some (.string ⟨nm.toArray⟩) := ((bcell HX5.out).1 _ 0 (by omega)).trans (by simp [go_sem, hy0]); have hz1 : w5.cell? ⟨w.heap.size, 1, none⟩ = some (.int .i64 wd) := ((bcell HX5.out).1 _ 1 (by omega)).trans (by simp [go_sem, hy1]); have hz2' : w5.cell? ⟨w.heap.size, 2, none⟩ = some (.int .u32 sm) := ((bcell HX5.out).1 _ 2 (by omega)).trans (by simp [go_sem, hy2]); have hz3 : w5.cell? ⟨w.heap.size, 3, none⟩ = some (.slice a3 ls.length c3) := ((bcell HX5.out).1 _ 3 (by omega)).trans (by simp [go_sem, hy3]); have hsz5 : w3.heap.size ≤ w5.heap.size := (by have h9 := HX5.out.size; simpa using h9); clear hr5 hown5 hg5 hy0 hy1 hy2 hy3 hyf hcr4 HRN)
              | (at_builtin; refine wpList_append_own _ rfl _ _ 36 rfl w3.heap.size 29 i29 _ 4 56 Try.underlying36 hj hy0' hy1' hy2' rfl (by decide) (.slice a5 kf c5) kf (allCells (T.take kf)) rfl (HR5.out.alloc _) ⟨w5.heap.size, 0, none⟩ 1 1 (neCells ⟨⟨nm, wd, sm, ls⟩, a3, c3⟩) rfl rfl (cells4_new _ _ _ _ _ _) (ne_oneCell _) (by unfold maxLen; omega) (by omega) (by simp; omega) ?_; intro v6 w6 hown6 hg6 _; obtain ⟨a6, c6, rfl⟩ := row_shape hown6; have HR6 := hidR hown6; have HX6 := hidR ((HX5.out.alloc hsz5 _).grown hg6 (by simp; omega) (fun j hj => (HR5.out.lt j hj).1)); have HB6 : Hid (Below w.heap.size w w6) := ((HB3.out.setCell (Nat.le_refl _) _).trans (HX6.out.mono (by omega))); have hcr6 := HC.out _ HB6.out; have hsz6 : w3.heap.size ≤ w6.heap.size := (by have h9 := HX6.out.size; simpa using h9); have hfr6 : w6.frozen? ⟨r, 0, none⟩ = false := ((bcell HB6.out).2 r 0 hr).trans HFR.out; clear hg6 hown6 hz0 hz1 hz2' hz3)
              | (at_builtin; refine wpList_append_own _ rfl _ _ 36 rfl w3.heap.size 29 i29 _ 4 56 Try.underlying36 hj hy0' hy1' hy2' rfl (by decide) (.slice a6 (kf + 1) c6) (kf + 1) _ rfl HR6.out ⟨g, kf * 4, none⟩ (T.length - kf) _ (allCells (T.drop kf)) rfl (by rw [allCells_length, List.length_drop]) (drop_src hkl (HCW.out _ HB6.out)) (all_oneCell _) (by unfold maxLen; omega) (by omega) (by omega) ?_; intro v7 w7 hown7 hg7 _; obtain ⟨a7, c7, rfl⟩ := row_shape hown7; have HR7 := hidR (join_row (b2 := w.heap.size) hkl (by omega) hown7); have HX7 := hidR (HX6.out.grown hg7 hsz6 (fun j hj => (HR6.out.lt j hj).1)); have HB7 : Hid (Below w.heap.size w w7) := ((HB3.out.setCell (Nat.le_refl _) _).trans (HX7.out.mono (by omega))); have hcr7 := HC.out _ HB7.out; have hfr7 : w7.frozen? ⟨r, 0, none⟩ = false := ((bcell HB7.out).2 r 0 hr).trans HFR.out; have HL7 := hidR (leans_row HR3.out HX7.out); clear hg7 hown7 hcr6 hfr6)
              | (at_builtin; refine wpList_append_own _ rfl _ _ 36 rfl w3.heap.size 29 i29 _ 4 56 Try.underlying36 hj hy0' hy1' hy2' rfl (by decide) (.slice a6 (kf + 1) c6) (kf + 1) _ rfl HR6.out ⟨g, 0, none⟩ (T.length - kf) _ (allCells (T.drop kf)) rfl (by rw [allCells_length, List.length_drop]) (none_src (by omega)) (all_oneCell _) (by unfold maxLen; omega) (by omega) (by omega) ?_; intro v7 w7 hown7 hg7 _; obtain ⟨a7, c7, rfl⟩ := row_shape hown7; have HR7 := hidR (join_row (b2 := w.heap.size) hkl (by omega) hown7); have HX7 := hidR (HX6.out.grown hg7 hsz6 (fun j hj => (HR6.out.lt j hj).1)); have HB7 : Hid (Below w.heap.size w w7) := ((HB3.out.setCell (Nat.le_refl _) _).trans (HX7.out.mono (by omega))); have hcr7 := HC.out _ HB7.out; have hfr7 : w7.frozen? ⟨r, 0, none⟩ = false := ((bcell HB7.out).2 r 0 hr).trans HFR.out; have HL7 := hidR (leans_row HR3.out HX7.out); clear hg7 hown7 hcr6 hfr6)
              | go_in)
            go_ret
            exact ⟨by rw [HE.out]; rfl, .inr ⟨HE.out, w7, kf, _, a3, c3, HKF.out, rfl, HB7.out, HR7.out, HL7.out⟩⟩
  · have hrb : (ri != 0) = true := by simp [hri]
    go_wp2
    go_ret
    exact ⟨by rw [HA1.out hri]; rfl, .inl ⟨by rw [HA1.out hri]; exact hri, HB1.out⟩⟩
end Go.Proofs.Ytnjjpahpaeblfaa
