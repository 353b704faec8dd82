/- What Sorted of the document answers: the list in order. -/
import Derived.Test.YtnjjpahpaeblfaaSortP
import Derived.Test.YtnjjpahpaeblfaaOwnN
namespace Go.Proofs.Ytnjjpahpaeblfaa
open Go.RowKit Go.Maps Go.Sort
set_option linter.unusedVariables false

theorem row_drewN {w : World} {base e size n : Nat} {v : Value} {xs : List Value} (h : w.ownsRow base e size v n xs) (k : Nat) : (w.drewN k).ownsRow base e size v n xs := h

set_option maxRecDepth 100000 in
set_option maxHeartbeats 4000000 in
theorem sorted_some (l : List (List UInt8)) (hl : l.length ≤ 100000) (ad : Addr) (cap : Nat) (w : World) (hc : ∀ (w' : World) (B : Nat), Below B w w' → w.heap.size ≤ B → ∀ j u, (l.map encStr)[j]? = some u → w'.cell? (ad.add j) = some u) :
    Calls Try.prog 45 #[.slice (some ad) l.length cap] w fun e w' => ∃ a' cap', e = .returned (.slice a' l.length cap') ∧ w'.ownsRow w.heap.size 9 1 (.slice a' l.length cap') l.length ((l.mergeSort leB).map encStr) ∧ Below w.heap.size w w' := by
  obtain ⟨i0, hi, hz0, hz1, hz2⟩ := info_parts Try.info9
  have HC := hidR (fun o1 => hc (w.alloc o1) w.heap.size ((Below.refl w.heap.size w).alloc (Nat.le_refl _) o1) (Nat.le_refl _))
  have HR : Hid ((w.alloc (.cells #[] 9)).ownsRow w.heap.size 9 1 (.slice (some ⟨w.heap.size, 0, none⟩) 0 0) 0 []) :=
    World.ownsRow_made (base := w.heap.size) (e := 9) (size := 1) w #[] 0 (Nat.le_refl _) (by decide) rfl
  clear hc
  go_enter Try.func45, Try.ntmps45
  go_wp2_with (first
    | (at_builtin; refine wpList_append_own _ rfl _ _ 27 rfl w.heap.size 9 i0 (.string ⟨#[]⟩) 1 16 Try.underlying27 hi hz0 hz1 hz2 rfl (by decide) (.slice (some ⟨w.heap.size, 0, none⟩) 0 0) 0 [] rfl HR.out ad l.length _ (l.map encStr) rfl (by simp) (HC.out _) (strs_oneCell l) (by unfold maxLen; omega) (by omega) (by simp) ?_; intro v' w3 hown' hg3 hnil3; obtain ⟨a', cap', rfl⟩ := row_shape hown'; have HB3 : Hid (Below w.heap.size w w3) := ((Below.refl w.heap.size w).alloc (Nat.le_refl _) _).grown hg3 (by simp) (fun j hj => by simp [Value.ownBlock] at hj; omega); clear hg3 hnil3)
    | go_in)
  have hr3 : w3.ownsRow w.heap.size 9 1 (.slice a' l.length cap') l.length (l.map encStr) := by simpa using hown'
  have HR3 := hidR hr3
  clear hr3 hown' HR HC
  go_loopw [4] (fun i wr => ∃ (k : Nat) (R : List (List UInt8)), 1 ≤ k ∧ (k ≤ l.length ∨ k = 1) ∧ i = .int .i64 k ∧ (1 ≤ l.length → OutTo R l k) ∧ R.Perm l ∧ wr.ownsRow w.heap.size 9 1 (.slice a' l.length cap') l.length (R.map encStr) ∧ Below w.heap.size w wr) (fun i _ => l.length - (intOf i).toNat)
  case atStart => exact ⟨1, l, Nat.le_refl _, .inr rfl, rfl, OutTo.start, List.Perm.refl _, HR3.out, HB3.out⟩
  case round =>
    obtain ⟨k, R, hk1, hk2, rfl, hout, hperm, hrow, hbl⟩ := hrel
    have HOUT := hidR hout
    have HP := hidR hperm
    have HROW := hidR hrow
    have HBL := hidR hbl
    have hRl : R.length = l.length := hperm.length_eq
    clear hout hperm hrow hbl
    by_cases hlt : k < l.length
    · have hlti : (k : Int) < l.length := by omega
      have HI : Hid (InsTo R l k k) := (HOUT.out (by omega)).ins (by omega)
      obtain ⟨g, rfl⟩ : ∃ g, a' = some ⟨g, 0, none⟩ := by
        rcases HROW.out.2 with ⟨_, h0⟩ | ⟨g, cap2, cur, hv, _⟩
        · omega
        · cases hv; exact ⟨g, rfl⟩
      go_wp2_with fail
      go_loopw [5] (fun i wq => ∃ (q : Nat) (R : List (List UInt8)), q ≤ k ∧ i = .int .i64 q ∧ InsTo R l k q ∧ wq.ownsRow w.heap.size 9 1 (.slice (some ⟨g, 0, none⟩) l.length cap') l.length (R.map encStr) ∧ Below w.heap.size w wq) (fun i _ => (intOf i).toNat)
      case atStart => exact ⟨k, R, Nat.le_refl _, rfl, HI.out, HROW.out, HBL.out⟩
      case round =>
        clear HOUT HP HROW HBL hRl HI
        obtain ⟨q, R, hq, rfl, hins, hrow, hbl⟩ := hrel
        have HI := hidR hins
        have HROW := hidR hrow
        have HBL := hidR hbl
        have hRl : R.length = l.length := hins.len
        have HPM : Hid (R.Perm l) := by obtain ⟨_, _, _, _, _, _, _, _, _, hp⟩ := hins; exact hp
        have HRN : Hid (∀ n, (wr.drewN n).ownsRow w.heap.size 9 1 (.slice (some ⟨g, 0, none⟩) l.length cap') l.length (R.map encStr)) := fun n => row_drewN HROW.out n
        have HG : Hid (w.heap.size ≤ g) := by
          rcases hrow.2 with ⟨h0, _⟩ | ⟨g2, cap2, cur, hv, hg, _⟩
          · cases h0
          · cases hv; exact hg
        by_cases hq0 : 0 < q
        · obtain ⟨q, rfl⟩ : ∃ q', q = q' + 1 := ⟨q - 1, by omega⟩
          have hcell : ∀ j, j < l.length → wr.cell? ⟨g, j, none⟩ = some (.string ⟨(R.getD j []).toArray⟩) := fun j hj => by
            rw [hrow.cellAt j (by omega), List.getElem?_map, List.getD, List.getElem?_eq_getElem (by omega)]
            rfl
          have hx := hcell (q + 1) (by omega)
          have hy := hcell q (by omega)
          have hfx := hrow.frozenAt (q + 1)
          have hfy := hrow.frozenAt q
          have hsz : g < wr.heap.size := World.block_lt_of_cell? wr _ hx
          have HST : Hid (Op.bytesLess (R.getD (q + 1) []) (R.getD q []) = true → InsTo ((R.set (q + 1) (R.getD q [])).set q (R.getD (q + 1) [])) l k q) := fun hb => by simpa using HI.out.step (by omega) (by simpa using hb)
          have HDN : Hid (Op.bytesLess (R.getD (q + 1) []) (R.getD q []) = false → OutTo R l (k + 1)) := fun hb => HI.out.done (.inr (by simpa using hb))
          have hq1 : ((q : Int) + 1) < l.length := by omega
          have hq2 : (q : Int) < l.length := by omega
          clear hcell hrow hbl hins
          generalize hxe : R.getD (q + 1) [] = x at *
          generalize hye : R.getD q [] = y at *
          cases hb : Op.bytesLess x y with
          | true =>
            have HS := hidR (HST.out hb)
            clear HST HDN
            go_wp2_with fail
            go_quiet (fail)
            go_wp2_with fail
            go_region
            go_wp2
            go_roundw
            case rel =>
              refine ⟨q, _, by omega, by go_num, HS.out, ?_, ?_⟩
              · have h1 := ((HRN.out (nq + 1)).stored (q + 1) (.string ⟨y.toArray⟩)).1
                have h2 := (h1.stored q (.string ⟨x.toArray⟩)).1
                simpa [List.map_set, encStr] using h2
              · exact ((below_drewN HBL.out _).setCell HG.out _).setCell HG.out _
            case measure => simp [intOf]
          | false =>
            have HS := hidR (HDN.out hb)
            clear HST HDN
            go_wp2_with fail
            go_quiet (fail)
            go_wp2
            go_roundw
            case rel => exact ⟨k + 1, R, by omega, .inl (by omega), by go_num, fun _ => HS.out, HPM.out, HRN.out _, below_drewN HBL.out _⟩
            case measure => simp [intOf]; omega
        · obtain rfl : q = 0 := by omega
          have HS := hidR (HI.out.done (.inl rfl))
          clear hrow hbl hins
          go_wp2_with fail
          go_quiet (fail)
          go_wp2
          go_roundw
          case rel => exact ⟨k + 1, R, by omega, .inl (by omega), by go_num, fun _ => HS.out, HPM.out, HRN.out _, below_drewN HBL.out _⟩
          case measure => simp [intOf]; omega
    · go_wp2
      go_ret
      have hRe : R = l.mergeSort leB := by
        by_cases h1 : 1 ≤ l.length
        · exact (HOUT.out h1).done (by omega)
        · have h0 : l = [] := List.eq_nil_of_length_eq_zero (by omega)
          subst h0
          have := List.eq_nil_of_length_eq_zero hRl
          subst this
          simp
      rw [← hRe]
      exact ⟨_, _, rfl, HROW.out, HBL.out⟩

set_option maxRecDepth 100000 in
set_option maxHeartbeats 4000000 in
theorem sorted_none (w : World) :
    Calls Try.prog 45 #[.slice none 0 0] w fun e w' => ∃ a' cap', e = .returned (.slice a' 0 cap') ∧ w'.ownsRow w.heap.size 9 1 (.slice a' 0 cap') 0 [] ∧ Below w.heap.size w w' := by
  obtain ⟨i0, hi, hz0, hz1, hz2⟩ := info_parts Try.info9
  have HR : Hid ((w.alloc (.cells #[] 9)).ownsRow w.heap.size 9 1 (.slice (some ⟨w.heap.size, 0, none⟩) 0 0) 0 []) :=
    World.ownsRow_made (base := w.heap.size) (e := 9) (size := 1) w #[] 0 (Nat.le_refl _) (by decide) rfl
  have HB : Hid (∀ o, Below w.heap.size w (w.alloc o)) := fun o => (Below.refl w.heap.size w).alloc (Nat.le_refl _) o
  go_enter Try.func45, Try.ntmps45
  go_wp2_with (first
    | (at_builtin; refine wpList_append_own_none rfl _ _ 27 rfl w.heap.size 9 i0 1 Try.underlying27 hi (.slice (some ⟨w.heap.size, 0, none⟩) 0 0) 0 [] rfl HR.out rfl ?_)
    | go_in)
  go_loop [4] (fun i => i = .int .i64 1) (fun i => 0)
  case atStart => rfl
  case round =>
    subst hrel
    go_wp2
    go_ret
    exact ⟨_, _, rfl, HR.out, HB.out _⟩

theorem sorted_any (l : List (List UInt8)) (hl : l.length ≤ 100000) (a : Option Addr) (cap : Nat) (w : World) (hs : StrsAt w (.slice a l.length cap) l) :
    Calls Try.prog 45 #[.slice a l.length cap] w fun e w' => ∃ a' cap', e = .returned (.slice a' l.length cap') ∧ w'.ownsRow w.heap.size 9 1 (.slice a' l.length cap') l.length ((l.mergeSort leB).map encStr) ∧ Below w.heap.size w w' := by
  rcases hs.source with ⟨h1, h2⟩ | ⟨ad, cap', h1, hc⟩
  · simp only [Value.slice.injEq] at h1
    obtain ⟨rfl, _, rfl⟩ := h1
    subst h2
    simpa using sorted_none w
  · simp only [Value.slice.injEq] at h1
    obtain ⟨rfl, _, rfl⟩ := h1
    exact sorted_some l hl ad cap w hc
end Go.Proofs.Ytnjjpahpaeblfaa
