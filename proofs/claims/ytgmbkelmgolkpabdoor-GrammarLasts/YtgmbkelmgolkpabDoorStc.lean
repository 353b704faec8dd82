/- Sets of symbols: list, upTo; numbers held against numbers. -/
import Derived.Test.YtgmbkelmgolkpabDoorStb
import Derived.Deep.WholeRow
namespace Go.Proofs.YtgmbkelmgolkpabDoor
open Go.RowKit
set_option linter.unusedVariables false

/-- A set's elements below k, rising. -/
def liTo (M : Nat) : Nat → List Int
  | 0 => []
  | k + 1 => if M.testBit k then liTo M k ++ [(k : Int)] else liTo M k
theorem liTo_len (M : Nat) : ∀ k, (liTo M k).length ≤ k
  | 0 => Nat.le_refl _
  | k + 1 => by
    have := liTo_len M k
    rw [liTo]; split
    · rw [List.length_append, List.length_singleton]; omega
    · omega
set_option maxRecDepth 100000 in
set_option maxHeartbeats 1600000 in
theorem setList_any (M : Nat) (hM : M < Top) (w : World) : Calls Tryd.prog 38 #[setV M] w fun e w' => ∃ u, e = .returned u ∧ IlAt w' u (liTo M 128) ∧ Below w.heap.size w w' := by
  have HH := hidD (fun s hs w' => setHas_any M hM s hs w')
  have HLN := hidD (liTo_len M)
  have HLX : Hid (∀ k, liTo M (k + 1) = if M.testBit k then liTo M k ++ [(k : Int)] else liTo M k) := fun k => rfl
  have HAL : Hid (∀ (w' : World) o, Below w'.heap.size w' (w'.alloc o)) := fun w' o => (Below.refl _ _).alloc (Nat.le_refl _) o
  have HB0 : Hid (Below w.heap.size w (w.alloc (.cells #[.int .u64 (lw M : Int), .int .u64 (hw M : Int)] (61 : TypeId)))) := HAL.out _ _
  have HC0 : Hid (CsAt (w.alloc (.cells #[.int .u64 (lw M : Int), .int .u64 (hw M : Int)] (61 : TypeId))) w.heap.size #[.int .u64 (lw M : Int), .int .u64 (hw M : Int)] 61) := heap_alloc_last _ _
  unfold setV at HH ⊢
  generalize lw M = a at *
  generalize hw M = b at *
  go_enter Tryd.func38, Tryd.ntmps38
  go_wp2_with fail
  generalize hW1 : (w.alloc (.cells #[.int .u64 (a : Int), .int .u64 (b : Int)] (61 : TypeId))) = w1 at *
  clear hW1
  have HG := hidD HC0.out.lt
  go_loopw [3, 5] (fun o i wr => ∃ k : Nat, k ≤ 128 ∧ i = .int .i64 k ∧ wr.ownsRow w1.heap.size 3 1 o (liTo M k).length ((liTo M k).map encI) ∧ Below w1.heap.size w1 wr) (fun _ i _ => 128 - (intOf i).toNat)
  case atStart => exact ⟨0, by omega, rfl, World.ownsRow_nil _ _ _ _, Below.refl _ _⟩
  case round =>
    obtain ⟨k, hk, rfl, hown, hbel⟩ := hrel
    have HOW := hidD hown
    have HBW := hidD hbel
    by_cases hlt : k < 128
    · have hlti : (k : Int) < 128 := by omega
      have f0 : wr.cell? ⟨w.heap.size, 0, none⟩ = some (.int .u64 (a : Int)) := (hbel.cell (p := ⟨w.heap.size, 0, none⟩) HG.out).trans (by rw [HC0.out.cell]; rfl)
      have f1 : wr.cell? ⟨w.heap.size, 1, none⟩ = some (.int .u64 (b : Int)) := (hbel.cell (p := ⟨w.heap.size, 1, none⟩) HG.out).trans (by rw [HC0.out.cell]; rfl)
      have HHK := hidD (fun w' => HH.out k hlt w')
      have HNX := hidD (HLX.out k)
      have hln := HLN.out k
      clear hown hbel
      generalize hLL : liTo M k = LL at *
      clear hLL
      generalize hll : LL.length = ll at *
      have HLL := hidD hll
      clear hll
      obtain ⟨a5, c5, h5⟩ := row_shape HOW.out
      subst h5
      cases hb : M.testBit k with
      | true =>
        rw [hb] at HHK HNX
        rw [if_pos rfl] at HNX
        clear hb
        go_wp2_with (first
          | (go_at_call 34; refine (HHK.out _).mono ?_; rintro e w5 ⟨rfl, hb5⟩; have HO5 := hidD (row_below HOW.out hb5); have HB5 := hidD (Below.next HBW.out hb5); clear hb5)
          | (at_builtin; refine wpList_append_int rfl _ _ rfl w1.heap.size (.slice a5 ll c5) ll (LL.map encI) rfl (HO5.out.alloc _) w5.heap.size (k : Int) rfl (new_cell1 w5 (.int .i64 (k : Int)) 3 0 _ rfl) (by omega) (by have := HB5.out.size; simp; omega) ?_; intro v8 w8 hown8 hg8; have HO8 := hidD hown8; have HB8 := hidD (row_grown (HO5.out.alloc _) (Below.next HB5.out (HAL.out _ _)) hg8 (by have := HB5.out.size; simp; omega)); clear hown8 hg8))
        go_roundw
        case rel => exact ⟨k + 1, by omega, by go_num, by rw [HNX.out, List.length_append, List.map_append, HLL.out]; exact HO8.out, HB8.out⟩
        case measure => simp [intOf]; omega
      | false =>
        rw [hb] at HHK HNX
        rw [if_neg (by decide)] at HNX
        clear hb
        go_wp2_with (go_at_call 34; refine (HHK.out _).mono ?_; rintro e w5 ⟨rfl, hb5⟩; have HO5 := hidD (row_below HOW.out hb5); have HB5 := hidD (Below.next HBW.out hb5); clear hb5)
        go_roundw
        case rel => exact ⟨k + 1, by omega, by go_num, by rw [HNX.out, HLL.out]; exact HO5.out, HB5.out⟩
        case measure => simp [intOf]; omega
    · obtain rfl : k = 128 := by omega
      have HIL : Hid (IlAt wr u3 (liTo M 128)) := il_of_own hown
      obtain ⟨a5, c5, h5⟩ := row_shape hown
      subst h5
      clear hown hbel
      go_wp2_with fail
      go_ret
      exact ⟨_, rfl, HIL.out, Below.next HB0.out HBW.out⟩
theorem int_ext {x y : List Int} (hl : x.length = y.length) (h : ∀ j, j < x.length → x.getD j 0 = y.getD j 0) : x = y :=
  List.ext_getElem hl fun i h1 h2 => by
    have := h i h1
    rwa [List.getD_eq_getElem?_getD, List.getD_eq_getElem?_getD, List.getElem?_eq_getElem h1, List.getElem?_eq_getElem h2] at this
set_option maxRecDepth 100000 in
set_option maxHeartbeats 1600000 in
theorem ints_any (x y : List Int) (hx : x.length ≤ 9223372036854775806) (u v : Value) (w : World) (hu : IlAt w u x) (hv : IlAt w v y) : Calls Tryd.prog 23 #[u, v] w fun e w' => e = .returned (.bool (decide (x = y))) ∧ Below w.heap.size w w' := by
  obtain ⟨a1, c1, rfl, hc11, hc12, hcell1⟩ := hu
  obtain ⟨a2, c2, rfl, hc21, hc22, hcell2⟩ := hv
  have HW : Hid (Below w.heap.size w w) := Below.refl _ _
  by_cases hn : x.length = y.length
  · have HC1 := hidD hcell1
    have HC2 := hidD hcell2
    have HX := hidD (fun h => int_ext (x := x) (y := y) hn h)
    clear hcell1 hcell2
    rw [← hn] at *
    generalize x.length = n at *
    have hbn : ((n : Int) == (n : Int)) = true := beq_self_eq_true _
    clear hn
    go_enter Tryd.func23, Tryd.ntmps23
    go_wp2_with fail
    go_loopw [5] (fun i wr => ∃ k : Nat, k ≤ n ∧ i = .int .i64 k ∧ (∀ j, j < k → x.getD j 0 = y.getD j 0) ∧ Below w.heap.size w wr) (fun i _ => n - (intOf i).toNat)
    case atStart => exact ⟨0, Nat.zero_le _, rfl, fun j hj => absurd hj (by omega), HW.out⟩
    case round =>
      obtain ⟨k, hk, rfl, hok, hbel⟩ := hrel
      have HOK := hidD hok
      have HBW := hidD hbel
      clear hok
      by_cases hlt : k < n
      · have hlti : (k : Int) < n := by omega
        obtain ⟨g1, o1, rfl, hg1, hcl1⟩ := HC1.out k hlt
        obtain ⟨g2, o2, rfl, hg2, hcl2⟩ := HC2.out k hlt
        have f1 : wr.cell? ⟨g1, o1 + k, none⟩ = some (.int .i64 (x.getD k 0)) := (hbel.cell (p := ⟨g1, _, none⟩) hg1).trans hcl1
        have f2 : wr.cell? ⟨g2, o2 + k, none⟩ = some (.int .i64 (y.getD k 0)) := (hbel.cell (p := ⟨g2, _, none⟩) hg2).trans hcl2
        clear hcl1 hcl2 hbel
        by_cases he : x.getD k 0 = y.getD k 0
        · have HE := hidD he
          rw [he] at f1
          have hbb : (y.getD k 0 == y.getD k 0) = true := beq_self_eq_true _
          clear he
          generalize hyy : y.getD k 0 = z at *
          have HYY := hidD hyy
          clear hyy
          go_wp2_with fail
          go_quiet (fail)
          go_wp2_with fail
          go_roundw
          case rel => exact ⟨k + 1, by omega, by go_num, fun i hi => by
            by_cases he : i = k
            · rw [he]; exact HE.out.trans HYY.out.symm
            · exact HOK.out i (by omega), below_drewN HBW.out _⟩
          case measure => simp [intOf]; omega
        · have HA : Hid (decide (x = y) = false) := decide_eq_false fun h => he (by rw [h])
          have hbb : (x.getD k 0 == y.getD k 0) = false := beq_eq_false_iff_ne.2 he
          generalize x.getD k 0 = p at *
          generalize y.getD k 0 = q at *
          go_wp2_with fail
          go_quiet (fail)
          go_wp2_with fail
          go_ret
          exact ⟨by rw [HA.out]; rfl, below_drewN HBW.out _⟩
      · obtain rfl : k = n := by omega
        have HA : Hid (decide (x = y) = true) := decide_eq_true (HX.out HOK.out)
        clear hbel
        go_wp2_with fail
        go_ret
        exact ⟨by rw [HA.out]; rfl, HBW.out⟩
  · have HA : Hid (decide (x = y) = false) := decide_eq_false fun h => hn (by rw [h])
    clear hcell1 hcell2
    have hne : (x.length : Int) ≠ (y.length : Int) := by omega
    have hbn : ((x.length : Int) == (y.length : Int)) = false := beq_eq_false_iff_ne.2 hne
    generalize x.length = n at *
    generalize y.length = m at *
    go_enter Tryd.func23, Tryd.ntmps23
    go_wp2_with fail
    go_ret
    exact ⟨by rw [HA.out]; rfl, HW.out⟩
end Go.Proofs.YtgmbkelmgolkpabDoor
