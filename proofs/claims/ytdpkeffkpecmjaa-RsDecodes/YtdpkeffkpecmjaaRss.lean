/- What the statements' same and ints answer. -/
import Derived.Test.YtdpkeffkpecmjaaRrr
namespace Go.Proofs.Ytdpkeffkpecmjaa
open Go.RowKit
set_option linter.unusedVariables false

theorem ba_list (x : List UInt8) : (⟨x.toArray⟩ : ByteArray).toList = x := by
  rw [ByteArray.toList_eq]
theorem by_shape {w : World} {v : Value} {l : List UInt8} (h : ByAt w v l) : ∃ a c, v = .slice a l.length c := by
  rcases h with ⟨rfl, a, c, rfl, _⟩ | ⟨g, o, c, rfl, _⟩
  · exact ⟨a, c, rfl⟩
  · exact ⟨_, c, rfl⟩
set_option maxRecDepth 100000 in
theorem same_any (x y : List UInt8) (u v : Value) (w : World) (hu : ByAt w u x) (hv : ByAt w v y) : Calls Try.prog 16 #[u, v] w fun e w' => e = .returned (.bool (decide (x = y))) ∧ Below w.heap.size w w' := by
  have h1 := conv_by hu
  have h2 := conv_by hv
  have HW : Hid (Below w.heap.size w w) := Below.refl _ _
  obtain ⟨a1, c1, rfl⟩ := by_shape hu
  obtain ⟨a2, c2, rfl⟩ := by_shape hv
  have h3 : ((⟨x.toArray⟩ : ByteArray).toList == (⟨y.toArray⟩ : ByteArray).toList) = decide (x = y) := by
    rw [ba_list, ba_list]
    by_cases h : x = y
    · subst h; simp
    · rw [decide_eq_false h]; simpa using h
  have H3 := hidD h3
  clear h3
  generalize (⟨x.toArray⟩ : ByteArray) = X at *
  generalize (⟨y.toArray⟩ : ByteArray) = Y at *
  generalize x.length = n at *
  generalize y.length = m at *
  go_enter Try.func16, Try.ntmps16
  go_wp2_with fail
  go_ret
  refine ⟨?_, HW.out⟩
  show Ending.returned (Value.bool (X.toList == Y.toList)) = _
  rw [H3.out]
theorem int_ext {x y : List Int} (hl : x.length = y.length) (h : ∀ j, j < x.length → x.getD j 0 = y.getD j 0) : x = y :=
  List.ext_getElem hl fun i h1 h2 => by
    have := h i h1
    rwa [List.getD_eq_getElem?_getD, List.getD_eq_getElem?_getD, List.getElem?_eq_getElem h1, List.getElem?_eq_getElem h2] at this
set_option maxRecDepth 100000 in
set_option maxHeartbeats 1600000 in
theorem ints_any (x y : List Int) (hx : x.length ≤ 9223372036854775806) (u v : Value) (w : World) (hu : IlAt w u x) (hv : IlAt w v y) : Calls Try.prog 25 #[u, v] w fun e w' => e = .returned (.bool (decide (x = y))) ∧ Below w.heap.size w w' := by
  obtain ⟨a1, c1, rfl, hc11, hc12, hcell1⟩ := hu
  obtain ⟨a2, c2, rfl, hc21, hc22, hcell2⟩ := hv
  have HW : Hid (Below w.heap.size w w) := Below.refl _ _
  by_cases hn : x.length = y.length
  · have HC1 := hidD hcell1
    have HC2 := hidD hcell2
    have HX := hidD (fun h => int_ext (x := x) (y := y) hn h)
    clear hcell1 hcell2
    rw [← hn] at *
    generalize x.length = n at *
    have hbn : ((n : Int) == (n : Int)) = true := beq_self_eq_true _
    clear hn
    go_enter Try.func25, Try.ntmps25
    go_wp2_with fail
    go_loopw [5] (fun i wr => ∃ k : Nat, k ≤ n ∧ i = .int .i64 k ∧ (∀ j, j < k → x.getD j 0 = y.getD j 0) ∧ Below w.heap.size w wr) (fun i _ => n - (intOf i).toNat)
    case atStart => exact ⟨0, Nat.zero_le _, rfl, fun j hj => absurd hj (by omega), HW.out⟩
    case round =>
      obtain ⟨k, hk, rfl, hok, hbel⟩ := hrel
      have HOK := hidD hok
      have HBW := hidD hbel
      clear hok
      by_cases hlt : k < n
      · have hlti : (k : Int) < n := by omega
        obtain ⟨g1, o1, rfl, hg1, hcl1⟩ := HC1.out k hlt
        obtain ⟨g2, o2, rfl, hg2, hcl2⟩ := HC2.out k hlt
        have f1 : wr.cell? ⟨g1, o1 + k, none⟩ = some (.int .i64 (x.getD k 0)) := (hbel.cell (p := ⟨g1, _, none⟩) hg1).trans hcl1
        have f2 : wr.cell? ⟨g2, o2 + k, none⟩ = some (.int .i64 (y.getD k 0)) := (hbel.cell (p := ⟨g2, _, none⟩) hg2).trans hcl2
        clear hcl1 hcl2 hbel
        by_cases he : x.getD k 0 = y.getD k 0
        · have HE := hidD he
          rw [he] at f1
          have hbb : (y.getD k 0 == y.getD k 0) = true := beq_self_eq_true _
          clear he
          generalize hyy : y.getD k 0 = z at *
          have HYY := hidD hyy
          clear hyy
          go_wp2_with fail
          go_quiet (fail)
          go_wp2_with fail
          go_roundw
          case rel => exact ⟨k + 1, by omega, by go_num, fun i hi => by
            by_cases he : i = k
            · rw [he]; exact HE.out.trans HYY.out.symm
            · exact HOK.out i (by omega), below_drewN HBW.out _⟩
          case measure => simp [intOf]; omega
        · have HA : Hid (decide (x = y) = false) := decide_eq_false fun h => he (by rw [h])
          have hbb : (x.getD k 0 == y.getD k 0) = false := beq_eq_false_iff_ne.2 he
          generalize x.getD k 0 = p at *
          generalize y.getD k 0 = q at *
          go_wp2_with fail
          go_quiet (fail)
          go_wp2_with fail
          go_ret
          exact ⟨by rw [HA.out]; rfl, below_drewN HBW.out _⟩
      · obtain rfl : k = n := by omega
        have HA : Hid (decide (x = y) = true) := decide_eq_true (HX.out HOK.out)
        clear hbel
        go_wp2_with fail
        go_ret
        exact ⟨by rw [HA.out]; rfl, HBW.out⟩
  · have HA : Hid (decide (x = y) = false) := decide_eq_false fun h => hn (by rw [h])
    clear hcell1 hcell2
    have hne : (x.length : Int) ≠ (y.length : Int) := by omega
    have hbn : ((x.length : Int) == (y.length : Int)) = false := beq_eq_false_iff_ne.2 hne
    generalize x.length = n at *
    generalize y.length = m at *
    go_enter Try.func25, Try.ntmps25
    go_wp2_with fail
    go_ret
    exact ⟨by rw [HA.out]; rfl, HW.out⟩
end Go.Proofs.Ytdpkeffkpecmjaa
