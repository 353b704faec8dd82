/- Texts of one proof, one behind the other. -/
import Derived.Test.YtgmbkelmgolkpaaDoorRha
import Derived.Deep.OwnRows
/- Marks in rows of ints; the document's all, right and marked. -/
namespace Go.Proofs.YtgmbkelmgolkpaaDoor
open Go.RowKit Go.Maps
set_option linter.unusedVariables false

/-- A mark: is the number in the set? -/
def mkV (M i : Nat) : Value := .int .i64 (if M.testBit i then 1 else 0)
/-- A row of marks. -/
def mkC (n M : Nat) : Array Value := ((List.range n).map (mkV M)).toArray
theorem mk_size (n M : Nat) : (mkC n M).size = n := by unfold mkC; simp
theorem mk_get {n M i : Nat} (h : i < n) : (mkC n M)[i]? = some (mkV M i) := by
  unfold mkC
  rw [List.getElem?_toArray, List.getElem?_map, List.getElem?_range h]; rfl
theorem mk_none {n M i : Nat} (h : n ≤ i) : (mkC n M)[i]? = none := by
  rw [Array.getElem?_eq_none]; rw [mk_size]; exact h
theorem mkV_zero (i : Nat) : mkV 0 i = .int .i64 0 := by unfold mkV; simp
theorem mk_made (n : Nat) : madeCells #[Value.int .i64 0] n = mkC n 0 := by
  apply Array.ext_getElem?
  intro i
  by_cases h : i < n
  · rw [mk_get h, mkV_zero]
    simp [madeCells, h, Nat.mod_one]
  · rw [mk_none (by omega)]
    simp [madeCells, h]
theorem mk_put {n M i : Nat} (h : i < n) : (mkC n M).setIfInBounds i (.int .i64 1) = mkC n (M ||| 2 ^ i) := by
  apply Array.ext_getElem?
  intro j
  rw [Array.getElem?_setIfInBounds]
  by_cases hj : j < n
  · rw [mk_get hj, mk_get hj]
    by_cases e : i = j
    · subst e
      rw [if_pos rfl, if_pos (by rw [mk_size]; exact h)]
      unfold mkV
      rw [Nat.testBit_or, Nat.testBit_two_pow, decide_eq_true rfl, Bool.or_true]; rfl
    · rw [if_neg e]
      unfold mkV
      rw [Nat.testBit_or, Nat.testBit_two_pow, decide_eq_false e, Bool.or_false]
  · rw [mk_none (by omega), mk_none (by omega)]
    split
    · rename_i e; rw [if_neg (by rw [mk_size]; omega)]
    · rfl
theorem mk_same {n M i : Nat} (h : M.testBit i = true) : M ||| 2 ^ i = M := by
  apply Nat.eq_of_testBit_eq
  intro j
  rw [Nat.testBit_or, Nat.testBit_two_pow]
  by_cases e : i = j
  · subst e; rw [h]; rfl
  · rw [decide_eq_false e, Bool.or_false]
theorem Tryd.info3d : (Tryd.prog.info? 3).map (fun i => (i.zero, i.size, i.bytes)) = some (some (.int .i64 0), 1, 8) := by kernel_rfl
theorem Tryd.under43d : Tryd.prog.underlying 43 = some (.slice 3) := by kernel_rfl
theorem make_marks (n : Nat) (hn : n ≤ 1048576) (w : World) : (Instr.makeSlice 43 (.int .i64 (n : Int)) (.int .i64 (n : Int))).run Tryd.prog w = .ok (.slice (some ⟨w.heap.size, 0, none⟩) n n) (w.alloc (.cells (mkC n 0) (3 : TypeId))) := by
  rw [run_make_row' 43 3 (.int .i64 0) 8 Tryd.under43d Tryd.info3d rfl .i64 .i64 n (by omega) (by omega) w, mk_made]
/-- The numbers of a list are symbols. -/
def SymL (n : Nat) (l : List Int) : Prop := ∀ j, j < l.length → ∃ s : Nat, l.getD j 0 = (s : Int) ∧ s < n
theorem allP_true {l : List Int} {p : Int → Bool} (h : ∀ q, q < l.length → p (l.getD q 0) = true) : l.all p = true := all_true h
set_option maxRecDepth 100000 in
set_option maxHeartbeats 1600000 in
theorem refAll_big (n M g : Nat) (hn : n ≤ 1048576) (l : List Int) (hll : l.length ≤ 9223372036854775806) (hs : SymL n l) (v : Value) (w : World) (hg : CsAt w g (mkC n M) 3) (h : IlAt w v l) : Calls Tryd.prog 66 #[.slice (some ⟨g, 0, none⟩) n n, v] w fun e w' => e = .returned (.bool (l.all fun x => M.testBit x.toNat)) ∧ w' = w := by
  obtain ⟨a, cap, rfl, hc1, hc2, hc3⟩ := h
  have HC := hidD hc3
  have HS : Hid (∀ j, j < l.length → ∃ s : Nat, l.getD j 0 = (s : Int) ∧ s < n) := hs
  have HY : Hid ((∀ q, q < l.length → M.testBit (l.getD q 0).toNat = true) → (l.all fun x => M.testBit x.toNat) = true) := fun h => all_true h
  have HN : Hid (∀ q, q < l.length → M.testBit (l.getD q 0).toNat = false → (l.all fun x => M.testBit x.toNat) = false) := fun q hq h => all_false hq h
  have HG := hidD hg
  clear hc3 hs hg
  generalize (l.all fun x => M.testBit x.toNat) = r at *
  generalize hm : l.length = m at *
  clear hm
  go_enter Tryd.func66, Tryd.ntmps66
  go_wp2_with fail
  go_loop [5] (fun i => ∃ k : Nat, k ≤ m ∧ i = .int .i64 (k : Int) ∧ ∀ q, q < k → M.testBit (l.getD q 0).toNat = true) (fun i => m - (intOf i).toNat)
  case atStart => exact ⟨0, Nat.zero_le _, rfl, fun q hq => absurd hq (by omega)⟩
  case round =>
    obtain ⟨k, hk, rfl, hall⟩ := hrel
    have HA := hidD hall
    clear hall
    by_cases hlt : k < m
    · have hlti : (k : Int) < (m : Int) := by omega
      obtain ⟨gl, ol, rfl, hgl, f0⟩ := HC.out k hlt
      obtain ⟨s, e1, hsn⟩ := HS.out k hlt
      have HNK := hidD (HN.out k hlt)
      have HST : Hid (M.testBit s = true → ∀ q, q < k + 1 → M.testBit (l.getD q 0).toNat = true) := fun h q hq => by
        by_cases e : q = k
        · rw [e, e1, Int.toNat_natCast]; exact h
        · exact HA.out q (by omega)
      have HK2 : Hid (M.testBit s = false → r = false) := fun h => HNK.out (by rw [e1, Int.toNat_natCast]; exact h)
      have f1 : w.cell? ⟨g, s, none⟩ = some (mkV M s) := (HG.out.cell s).trans (mk_get hsn)
      rw [e1] at f0
      clear HNK e1
      unfold mkV at f1
      have hsi : (s : Int) < (n : Int) := by omega
      cases hb : M.testBit s with
      | true =>
        rw [hb, if_pos rfl] at f1
        have HN2 := hidD (HST.out hb)
        clear hb
        go_wp2_with fail
        go_round
        case rel => exact ⟨k + 1, by omega, by go_num, HN2.out⟩
        case measure => simp [intOf]; omega
      | false =>
        rw [hb, if_neg (by decide)] at f1
        have HR := hidD (HK2.out hb)
        clear hb
        go_wp2_with fail
        go_ret
        exact ⟨ret_bool HR.out.symm, rfl⟩
    · obtain rfl : k = m := by omega
      have HR := hidD (HY.out HA.out)
      go_wp2_with fail
      go_ret
      exact ⟨ret_bool HR.out.symm, rfl⟩
theorem refAll_any (n M g : Nat) (hn : n ≤ 1048576) (l : List Int) (hll : l.length ≤ 1048576) (hs : SymL n l) (v : Value) (w : World) (hg : CsAt w g (mkC n M) 3) (h : IlAt w v l) : Calls Tryd.prog 66 #[.slice (some ⟨g, 0, none⟩) n n, v] w fun e w' => e = .returned (.bool (l.all fun x => M.testBit x.toNat)) ∧ w' = w :=
  refAll_big n M g hn l (Nat.le_trans hll (by decide)) hs v w hg h
set_option maxRecDepth 100000 in
set_option maxHeartbeats 1600000 in
theorem refMarked_any (n M g : Nat) (hn : n ≤ 1048576) (w : World) (hg : CsAt w g (mkC n M) 3) : Calls Tryd.prog 72 #[.slice (some ⟨g, 0, none⟩) n n] w fun e w' => ∃ u, e = .returned u ∧ w'.ownsRow w.heap.size 3 1 u (liTo M n).length ((liTo M n).map encI) ∧ Below w.heap.size w w' := by
  have HG := hidD hg
  have HLN : Hid (∀ k, (liTo M k).length ≤ k) := fun k => liTo_len M k
  have HNX : Hid (∀ k, liTo M (k + 1) = if M.testBit k then liTo M k ++ [(k : Int)] else liTo M k) := fun k => rfl
  have hgl := hg.lt
  clear hg
  go_enter Tryd.func72, Tryd.ntmps72
  go_wp2_with fail
  go_loopw [3, 4] (fun o i wr => ∃ k : Nat, k ≤ n ∧ i = .int .i64 (k : Int) ∧ wr.ownsRow w.heap.size 3 1 o (liTo M k).length ((liTo M k).map encI) ∧ Below w.heap.size w wr) (fun _ i _ => n - (intOf i).toNat)
  case atStart => exact ⟨0, Nat.zero_le _, rfl, World.ownsRow_nil _ _ _ _, Below.refl _ _⟩
  case round =>
    obtain ⟨k, hk, rfl, hown, hbel⟩ := hrel
    have HOW := hidD hown
    have HBW := hidD hbel
    by_cases hlt : k < n
    · have hlti : (k : Int) < (n : Int) := by omega
      have f1 : wr.cell? ⟨g, k, none⟩ = some (mkV M k) := (hbel.cell (p := ⟨g, k, none⟩) hgl).trans ((HG.out.cell k).trans (mk_get hlt))
      unfold mkV at f1
      have HN := hidD (HNX.out k)
      have hln := HLN.out k
      clear hown hbel
      generalize hLL : liTo M k = LL at *
      clear hLL
      generalize hll : LL.length = ll at *
      have HLL := hidD hll
      clear hll
      obtain ⟨a5, c5, h5⟩ := row_shape HOW.out
      subst h5
      have hkl : ll ≤ 1048576 := by omega
      cases hb : M.testBit k with
      | true =>
        rw [hb, if_pos rfl] at f1 HN
        clear hb
        have HBA := hidD (fun o' => HBW.out.alloc (show w.heap.size ≤ wr.heap.size from HBW.out.size) o')
        go_wp2_with (at_builtin; refine wpList_append_int rfl _ _ rfl w.heap.size (.slice a5 ll c5) ll (LL.map encI) rfl (HOW.out.alloc _) wr.heap.size (k : Int) rfl (by simp) (by omega) (by have := HBW.out.size; simp; omega) ?_; intro v8 w8 hown8 hg8; have HO8 := hidD hown8; have HB8 := hidD (row_grown (HOW.out.alloc _) (HBA.out _) hg8 (by have := HBW.out.size; simp; omega)); clear hown8 hg8)
        go_roundw
        case rel => exact ⟨k + 1, by omega, by go_num, by rw [HN.out, List.length_append, List.map_append, HLL.out]; exact HO8.out, HB8.out⟩
        case measure => simp [intOf]; omega
      | false =>
        rw [hb, if_neg (by decide)] at f1 HN
        clear hb
        go_wp2_with fail
        go_roundw
        case rel => exact ⟨k + 1, by omega, by go_num, by rw [HN.out, HLL.out]; exact HOW.out, HBW.out⟩
        case measure => simp [intOf]; omega
    · obtain rfl : k = n := by omega
      obtain ⟨a5, c5, h5⟩ := row_shape hown
      subst h5
      clear hown hbel
      generalize hLL : liTo M k = LL at *
      generalize hll : LL.length = ll at *
      go_wp2_with fail
      refine bodyPost_ret (v := .slice a5 ll c5) (by simp [results, Tryd.results72, go_sem]) rfl ?_
      exact ⟨_, rfl, by rw [hLL, hll]; exact HOW.out, HBW.out⟩
end Go.Proofs.YtgmbkelmgolkpaaDoor
/- The document's nulls and makes. -/
namespace Go.Proofs.YtgmbkelmgolkpaaDoor
open Go.RowKit Go.Maps
set_option linter.unusedVariables false

/-- The set that a row of marks tells. -/
def mrd (w : World) (g : Nat) : Nat → Nat
  | 0 => 0
  | k + 1 => match w.cell? ⟨g, k, none⟩ with
    | some (.int _ 1) => mrd w g k ||| 2 ^ k
    | _ => mrd w g k
theorem mrd_bit {w : World} {g n M : Nat} (h : CsAt w g (mkC n M) 3) : ∀ k, k ≤ n → ∀ i, (mrd w g k).testBit i = (decide (i < k) && M.testBit i)
  | 0, _, i => by simp [mrd]
  | k + 1, hk, i => by
    have ih := mrd_bit h k (by omega) i
    have hc : w.cell? ⟨g, k, none⟩ = some (mkV M k) := (h.cell k).trans (mk_get (by omega))
    rw [mrd, hc]
    unfold mkV
    cases hb : M.testBit k with
    | true =>
      show (mrd w g k ||| 2 ^ k).testBit i = _
      rw [Nat.testBit_or, ih, Nat.testBit_two_pow]
      by_cases e : k = i
      · subst e; simp [hb]
      · rw [decide_eq_false e, Bool.or_false]
        congr 1
        exact decide_eq_decide.2 (by omega)
    | false =>
      show (mrd w g k).testBit i = _
      rw [ih]
      by_cases e : k = i
      · subst e; simp [hb]
      · congr 1
        exact decide_eq_decide.2 (by omega)
theorem mrd_is {w : World} {g n M : Nat} (h : CsAt w g (mkC n M) 3) (hM : M < 2 ^ n) : mrd w g n = M := by
  apply Nat.eq_of_testBit_eq
  intro i
  rw [mrd_bit h n (Nat.le_refl _)]
  by_cases hi : i < n
  · rw [decide_eq_true hi, Bool.true_and]
  · rw [decide_eq_false hi, Bool.false_and, Nat.testBit_lt_two_pow (Nat.lt_of_lt_of_le hM (Nat.pow_le_pow_right (by omega) (by omega)))]
theorem or_new {M i : Nat} (h : M.testBit i = false) : M < M ||| 2 ^ i := by
  rcases Nat.lt_or_ge M (M ||| 2 ^ i) with h1 | h1
  · exact h1
  · have e : M = M ||| 2 ^ i := Nat.le_antisymm Nat.left_le_or h1
    have : (M ||| 2 ^ i).testBit i = true := by rw [Nat.testBit_or, Nat.testBit_two_pow, decide_eq_true rfl, Bool.or_true]
    rw [← e, h] at this; cases this
theorem or_pow {M n i : Nat} (h : M < 2 ^ n) (hi : i < n) : M ||| 2 ^ i < 2 ^ n := Nat.or_lt_two_pow h (Nat.pow_lt_pow_right (by decide) hi)
theorem gpo_pow {R : Rus} {n : Nat} (hR : RuOk R n) {M : Nat} (hM : M < 2 ^ n) : ∀ k, k ≤ R.length → gpTo R M k < 2 ^ n
  | 0, _ => hM
  | k + 1, hk => by
    have := gpo_pow hR hM k (by omega)
    rw [gpTo]; split
    · exact or_pow this (hR k (by omega)).1
    · exact this
theorem gpoIt_pow {R : Rus} {n : Nat} (hR : RuOk R n) {M : Nat} (hM : M < 2 ^ n) : ∀ j, gpIt R M j < 2 ^ n
  | 0 => hM
  | j + 1 => gpo_pow hR (gpoIt_pow hR hM j) _ (Nat.le_refl _)
theorem cs_alloc {w : World} {n : Nat} : CsAt (w.alloc (.cells (mkC n 0) (3 : TypeId))) w.heap.size (mkC n 0) 3 := heap_alloc_new _ _
theorem cs_mark {w : World} {g n M i : Nat} (h : CsAt w g (mkC n M) 3) (hi : i < n) : CsAt (w.setCell ⟨g, i, none⟩ (.int .i64 1)) g (mkC n (M ||| 2 ^ i)) 3 := by
  have := h.put i (.int .i64 1)
  rwa [mk_put hi] at this
/-- How far a row is from full. -/
def mleft (mo : Value) (w : World) (g n : Nat) : Nat := match mo with
  | .bool true => 1 + (2 ^ n - mrd w g n)
  | _ => 0
theorem un_bool6 {b : Bool} {c : Prop} (h : some undef = some (Value.bool b)) : False := by simp [undef] at h
section
variable {w : World} {p : Nat} {a0 : Option Addr} {k0 : Nat} {a1 : Option Addr} {k1 gr og cr : Nat} {T O : List Tx} {R : Rus} {s : Int}
set_option maxRecDepth 100000 in
set_option maxHeartbeats 3200000 in
theorem refNulls_any (h : RgW w p a0 k0 a1 k1 gr og cr T O R s) (n : Nat) (hnn : (allN T O).length = n) (hn : n ≤ 128) (hR : RuOk R n) (hrl : R.length ≤ 128) : Calls Tryd.prog 67 #[.pointer (some ⟨p, 0, none⟩)] w fun e w' => ∃ g M, e = .returned (.slice (some ⟨g, 0, none⟩) n n) ∧ CsAt w' g (mkC n M) 3 ∧ GrIs R 0 M ∧ w.heap.size ≤ g ∧ Below w.heap.size w w' := by
  have HG := hidD h
  have HRO := hidD hR
  have HPW := hidD (fun j => gpoIt_pow hR (M := 0) (Nat.two_pow_pos n) j)
  have HPX := hidD (fun M (hM : M < 2 ^ n) k hk => gpo_pow hR hM k hk)
  have HNJ0 : Hid (∀ j, gpIt R 0 (j + 1) = gpS R (gpIt R 0 j)) := fun _ => rfl
  have HG0 : Hid (∀ M, gpTo R M 0 = M) := fun _ => rfl
  have HGN0 : Hid (∀ M k, gpTo R M (k + 1) = if (R.getD k (0, [])).2.all (fun x => (gpTo R M k).testBit x.toNat) then gpTo R M k ||| 2 ^ (R.getD k (0, [])).1 else gpTo R M k) := fun _ _ => rfl
  have hmk := make_marks n (by omega)
  have HSY := hidD (refSymbols_any h (by rw [allN_len] at hnn; omega))
  rw [hnn] at HSY
  clear h hR hnn
  generalize hrn : R.length = rn at *
  have HRN := hidD hrn
  clear hrn
  go_enter Tryd.func67, Tryd.ntmps67
  go_wp2_with (go_at_call 27; refine HSY.out.mono ?_; rintro e w1 ⟨rfl, hb1⟩; have HB1 := hidD hb1; clear hb1)
  have HC0 : Hid (CsAt (w1.alloc (.cells (mkC n 0) (3 : TypeId))) w1.heap.size (mkC n 0) 3) := cs_alloc
  have HB0 : Hid (Below w1.heap.size w1 (w1.alloc (.cells (mkC n 0) (3 : TypeId)))) := (Below.refl _ _).alloc (Nat.le_refl _) _
  have HWG : Hid (w.heap.size ≤ w1.heap.size) := HB1.out.size
  clear hmk
  obtain ⟨g, hg⟩ : ∃ g, g = w1.heap.size := ⟨_, rfl⟩
  rw [← hg] at HC0 HWG ⊢
  have HGB : Hid (w1.heap.size ≤ g) := Nat.le_of_eq hg.symm
  clear hg
  go_loopw [4, 5] (fun x _ wr => ∃ (j : Nat) (b : Bool), x = .bool b ∧ CsAt wr g (mkC n (gpIt R 0 j)) 3 ∧ (b = false → gpS R (gpIt R 0 j) = gpIt R 0 j) ∧ Below w1.heap.size w1 wr) (fun x _ wr => mleft x wr g n)
  case atStart => exact ⟨0, true, rfl, HC0.out, fun h => (by cases h), HB0.out⟩
  case round =>
    obtain ⟨j, b, rfl, hcs, hst, hbel⟩ := hrel
    have HST := hidD hst
    have HCS := hidD hcs
    have HBL := hidD hbel
    have HMJ := hidD (HPW.out j)
    have HNJ := hidD (HNJ0.out j)
    clear hcs hst hbel
    cases b with
    | false =>
      have HGI : Hid (GrIs R 0 (gpIt R 0 j)) := ⟨j, rfl, HST.out rfl⟩
      go_wp2_with fail
      refine bodyPost_ret (v := .slice (some ⟨g, 0, none⟩) n n) (by simp [results, Tryd.results67, go_sem]) rfl ?_
      exact ⟨g, rfl, _, HCS.out, HGI.out, HWG.out, Below.next HB1.out HBL.out⟩
    | true =>
      clear HST
      generalize hM0 : gpIt R 0 j = M0 at *
      clear hM0
      have HMR := hidD (mrd_is HCS.out HMJ.out)
      obtain ⟨wo, hwo⟩ : ∃ wo, wo = wr := ⟨_, rfl⟩
      subst hwo
      go_wp2_with fail
      go_loopw [4, 5] (fun x i wr => ∃ k : Nat, k ≤ rn ∧ i = .int .i64 (k : Int) ∧ x = .bool (!decide (gpTo R M0 k = M0)) ∧ CsAt wr g (mkC n (gpTo R M0 k)) 3 ∧ Below w1.heap.size w1 wr) (fun _ i _ => rn - (intOf i).toNat)
      case atStart => exact ⟨0, Nat.zero_le _, rfl, by rw [HG0.out, decide_eq_true rfl]; rfl, by rw [HG0.out]; exact HCS.out, HBL.out⟩
      case round =>
        obtain ⟨k, hk, rfl, rfl, hcs, hbel⟩ := hrel
        have HCR := hidD hcs
        have HBR := hidD hbel
        have HBW := hidD (Below.next HB1.out hbel)
        have f2 := HG.out.c2 wr HBW.out
        rw [HRN.out] at f2
        clear hcs hbel
        by_cases hlt : k < rn
        · have hlti : (k : Int) < (rn : Int) := by omega
          have f3 := HG.out.lf wr HBW.out k (by rw [HRN.out]; exact hlt)
          obtain ⟨ar, cr2, hrt⟩ := HG.out.rt k (by rw [HRN.out]; exact hlt)
          obtain ⟨f4, hil⟩ := hrt wr HBW.out
          obtain ⟨hlf, hrl, hrs⟩ := HRO.out k (by rw [HRN.out]; exact hlt)
          have HAL := hidD (refAll_any n (gpTo R M0 k) g (by omega) (R.getD k (0, [])).2 hrl hrs _ wr HCR.out hil)
          have HGN := hidD (HGN0.out M0 k)
          have HGE := hidD (gp_ge R M0 k)
          have HPK := hidD (fun h1 => (mk_same (n := n) h1 : gpTo R M0 k ||| 2 ^ (R.getD k (0, [])).1 = gpTo R M0 k))
          have f5 : wr.cell? ⟨g, (R.getD k (0, [])).1, none⟩ = some (mkV (gpTo R M0 k) (R.getD k (0, [])).1) := (HCR.out.cell _).trans (mk_get hlf)
          clear hrt hil hrs
          generalize hrr : (R.getD k (0, [])).2 = rr at *
          generalize hnr : rr.length = nr at *
          clear hnr hrr
          generalize hLf : (R.getD k (0, [])).1 = lf at *
          clear hLf
          generalize (rr.all fun x => (gpTo R M0 k).testBit x.toNat) = al at *
          generalize hMK : gpTo R M0 k = MK at *
          clear hMK
          have hlfi : (lf : Int) < (n : Int) := by omega
          unfold mkV at f5
          cases hb : MK.testBit lf with
          | true =>
            rw [hb, if_pos rfl] at f5
            have HNX : Hid (gpTo R M0 (k + 1) = MK) := by show _ = _; rw [HGN.out, HPK.out hb]; split <;> rfl
            clear hb
            go_wp2_with fail
            all_goals first | exact (un_bool6 (by assumption)).elim | skip
            go_roundw
            case rel => exact ⟨k + 1, by omega, by go_num, by rw [HNX.out], by rw [HNX.out]; exact HCR.out, HBR.out⟩
            case measure => simp [intOf]; omega
          | false =>
            rw [hb, if_neg (by decide)] at f5
            have HLT := hidD (or_new hb)
            clear hb
            cases al with
            | true =>
              rw [if_pos rfl] at HGN
              have HDD : Hid ((!decide (MK ||| 2 ^ lf = M0)) = true) := by show _ = _; rw [decide_eq_false (by have := HLT.out; have := HGE.out; omega)]; rfl
              have hfz : wr.frozen? ⟨g, lf, none⟩ = false := HCR.out.frz lf
              have HC2 := hidD (cs_mark HCR.out hlf)
              have HB2 := hidD (HBR.out.setCell (p := ⟨g, lf, none⟩) (show w1.heap.size ≤ g from HGB.out) (.int .i64 1))
              go_wp2_with (go_at_call 66; refine HAL.out.mono ?_; rintro e w9 ⟨rfl, hw9⟩; subst w9)
              all_goals first | exact (un_bool6 (by assumption)).elim | skip
              go_roundw
              case rel => exact ⟨k + 1, by omega, by go_num, by rw [HGN.out, HDD.out], by rw [HGN.out]; exact HC2.out, HB2.out⟩
              case measure => simp [intOf]; omega
            | false =>
              rw [if_neg (by decide)] at HGN
              go_wp2_with (go_at_call 66; refine HAL.out.mono ?_; rintro e w9 ⟨rfl, hw9⟩; subst w9)
              all_goals first | exact (un_bool6 (by assumption)).elim | skip
              go_roundw
              case rel => exact ⟨k + 1, by omega, by go_num, by rw [HGN.out], by rw [HGN.out]; exact HCR.out, HBR.out⟩
              case measure => simp [intOf]; omega
        · obtain rfl : k = rn := by omega
          have HGS : Hid (gpTo R M0 k = gpS R M0) := by show _ = _; unfold gpS; rw [HRN.out]
          have HMX := hidD (mrd_is HCR.out (HPX.out M0 HMJ.out k (Nat.le_refl _)))
          have HGE := hidD (gp_ge R M0 k)
          have HPL := hidD (HPX.out M0 HMJ.out k (Nat.le_refl _))
          go_wp2_with fail
          go_roundw
          case rel => exact ⟨j + 1, _, rfl, by rw [HNJ.out, ← HGS.out]; exact HCR.out, fun h => by
            have h1 : gpTo R M0 k = M0 := by
              cases hd : decide (gpTo R M0 k = M0) with
              | true => exact of_decide_eq_true hd
              | false => rw [hd] at h; cases h
            rw [HNJ.out, ← HGS.out, h1, ← HGS.out, h1], HBR.out⟩
          case measure =>
            rw [HGS.out] at HMX HGE HPL
            have := HMX.out
            have := HMR.out
            have := HGE.out
            have := HPL.out
            have h5 := HMJ.out
            by_cases hne : gpTo R M0 k = M0
            · rw [decide_eq_true hne]
              unfold mleft
              simp only [Bool.not_true]
              omega
            · rw [decide_eq_false hne]
              unfold mleft
              simp only [Bool.not_false]
              rw [HMX.out, HMR.out]
              rw [HGS.out] at hne
              omega
theorem ut_pow : ∀ {k n : Nat}, k ≤ n → utS k < 2 ^ n
  | 0, n, _ => Nat.two_pow_pos n
  | k + 1, n, h => by rw [utS]; exact or_pow (ut_pow (by omega)) (by omega)
set_option maxRecDepth 100000 in
set_option maxHeartbeats 3200000 in
theorem refMakes_any (h : RgW w p a0 k0 a1 k1 gr og cr T O R s) (n : Nat) (hnn : (allN T O).length = n) (hn : n ≤ 128) (hR : RuOk R n) (hrl : R.length ≤ 128) : Calls Tryd.prog 78 #[.pointer (some ⟨p, 0, none⟩)] w fun e w' => ∃ g M, e = .returned (.slice (some ⟨g, 0, none⟩) n n) ∧ CsAt w' g (mkC n M) 3 ∧ GrIs R (utS (T.length + 1)) M ∧ w.heap.size ≤ g ∧ Below w.heap.size w w' := by
  have hln : T.length + 1 ≤ n := by rw [allN_len] at hnn; omega
  have HG := hidD h
  have HRO := hidD hR
  have HPW := hidD (fun j => gpoIt_pow hR (M := (utS (T.length + 1))) (ut_pow hln) j)
  have HPX := hidD (fun M (hM : M < 2 ^ n) k hk => gpo_pow hR hM k hk)
  have HNJ0 : Hid (∀ j, gpIt R (utS (T.length + 1)) (j + 1) = gpS R (gpIt R (utS (T.length + 1)) j)) := fun _ => rfl
  have HG0 : Hid (∀ M, gpTo R M 0 = M) := fun _ => rfl
  have HGN0 : Hid (∀ M k, gpTo R M (k + 1) = if (R.getD k (0, [])).2.all (fun x => (gpTo R M k).testBit x.toNat) then gpTo R M k ||| 2 ^ (R.getD k (0, [])).1 else gpTo R M k) := fun _ _ => rfl
  have hmk := make_marks n (by omega)
  have HSY := hidD (refSymbols_any h (by rw [allN_len] at hnn; omega))
  rw [hnn] at HSY
  have HC0T := hidD (fun wr (hb : Below w.heap.size w wr) => h.c0 wr hb)
  have HUN : Hid (∀ k, utS (k + 1) = utS k ||| 2 ^ k) := fun _ => rfl
  have HU0 : Hid (utS 0 = 0) := rfl
  clear h hR hnn
  generalize hrn : R.length = rn at *
  have HRN := hidD hrn
  clear hrn
  generalize htn : T.length = tn at *
  clear htn
  go_enter Tryd.func78, Tryd.ntmps78
  go_wp2_with (go_at_call 27; refine HSY.out.mono ?_; rintro e w1 ⟨rfl, hb1⟩; have HB1 := hidD hb1; clear hb1)
  have HC0 : Hid (CsAt (w1.alloc (.cells (mkC n 0) (3 : TypeId))) w1.heap.size (mkC n 0) 3) := cs_alloc
  have HB0 : Hid (Below w1.heap.size w1 (w1.alloc (.cells (mkC n 0) (3 : TypeId)))) := (Below.refl _ _).alloc (Nat.le_refl _) _
  have HWG : Hid (w.heap.size ≤ w1.heap.size) := HB1.out.size
  clear hmk
  obtain ⟨g, hg⟩ : ∃ g, g = w1.heap.size := ⟨_, rfl⟩
  rw [← hg] at HC0 HWG ⊢
  have HGB : Hid (w1.heap.size ≤ g) := Nat.le_of_eq hg.symm
  clear hg
  go_loopw [4] (fun i wr => ∃ q : Nat, q ≤ tn + 1 ∧ i = .int .i64 (q : Int) ∧ CsAt wr g (mkC n (utS q)) 3 ∧ Below w1.heap.size w1 wr) (fun i _ => tn + 1 - (intOf i).toNat)
  case atStart => exact ⟨0, Nat.zero_le _, rfl, by rw [HU0.out]; exact HC0.out, HB0.out⟩
  case round =>
    obtain ⟨q, hq, rfl, hcs, hbel⟩ := hrel
    have HCR := hidD hcs
    have HBR := hidD hbel
    have f0 := HC0T.out wr (Below.next HB1.out hbel)
    clear hcs hbel
    by_cases hqt : q ≤ tn
    · have hqi : (q : Int) ≤ (tn : Int) := by omega
      have hqn : (q : Int) < (n : Int) := by omega
      have hfz : wr.frozen? ⟨g, q, none⟩ = false := HCR.out.frz q
      have fq : wr.cell? ⟨g, q, none⟩ = some (mkV (utS q) q) := (HCR.out.cell q).trans (mk_get (by omega))
      have HC2 := hidD (cs_mark HCR.out (show q < n by omega))
      rw [← HUN.out] at HC2
      have HB2 := hidD (HBR.out.setCell (p := ⟨g, q, none⟩) (show w1.heap.size ≤ g from HGB.out) (.int .i64 1))
      unfold mkV at fq
      go_wp2_with fail
      go_roundw
      case rel => exact ⟨q + 1, by omega, by go_num, HC2.out, HB2.out⟩
      case measure => simp [intOf]; omega
    · obtain rfl : q = tn + 1 := by omega
      have hqi : ¬ (((tn + 1 : Nat) : Int) ≤ (tn : Int)) := by omega
      have hqd : ¬ ((tn : Int) + 1 ≤ (tn : Int)) := by omega
      clear hqt
      go_wp2_with fail
      go_loopw [5, 6] (fun x _ wr => ∃ (j : Nat) (b : Bool), x = .bool b ∧ CsAt wr g (mkC n (gpIt R (utS (tn + 1)) j)) 3 ∧ (b = false → gpS R (gpIt R (utS (tn + 1)) j) = gpIt R (utS (tn + 1)) j) ∧ Below w1.heap.size w1 wr) (fun x _ wr => mleft x wr g n)
      case atStart => exact ⟨0, true, rfl, HCR.out, fun h => (by cases h), HBR.out⟩
      case round =>
        obtain ⟨j, b, rfl, hcs, hst, hbel⟩ := hrel
        have HST := hidD hst
        have HCS := hidD hcs
        have HBL := hidD hbel
        have HMJ := hidD (HPW.out j)
        have HNJ := hidD (HNJ0.out j)
        clear hcs hst hbel
        cases b with
        | false =>
          have HGI : Hid (GrIs R (utS (tn + 1)) (gpIt R (utS (tn + 1)) j)) := ⟨j, rfl, HST.out rfl⟩
          go_wp2_with fail
          refine bodyPost_ret (v := .slice (some ⟨g, 0, none⟩) n n) (by simp [results, Tryd.results78, go_sem]) rfl ?_
          exact ⟨g, rfl, _, HCS.out, HGI.out, HWG.out, Below.next HB1.out HBL.out⟩
        | true =>
          clear HST
          generalize hM0 : gpIt R (utS (tn + 1)) j = M0 at *
          clear hM0
          have HMR := hidD (mrd_is HCS.out HMJ.out)
          obtain ⟨wo, hwo⟩ : ∃ wo, wo = wr := ⟨_, rfl⟩
          subst hwo
          go_wp2_with fail
          go_loopw [5, 6] (fun x i wr => ∃ k : Nat, k ≤ rn ∧ i = .int .i64 (k : Int) ∧ x = .bool (!decide (gpTo R M0 k = M0)) ∧ CsAt wr g (mkC n (gpTo R M0 k)) 3 ∧ Below w1.heap.size w1 wr) (fun _ i _ => rn - (intOf i).toNat)
          case atStart => exact ⟨0, Nat.zero_le _, rfl, by rw [HG0.out, decide_eq_true rfl]; rfl, by rw [HG0.out]; exact HCS.out, HBL.out⟩
          case round =>
            obtain ⟨k, hk, rfl, rfl, hcs, hbel⟩ := hrel
            have HCR := hidD hcs
            have HBR := hidD hbel
            have HBW := hidD (Below.next HB1.out hbel)
            have f2 := HG.out.c2 wr HBW.out
            rw [HRN.out] at f2
            clear hcs hbel
            by_cases hlt : k < rn
            · have hlti : (k : Int) < (rn : Int) := by omega
              have f3 := HG.out.lf wr HBW.out k (by rw [HRN.out]; exact hlt)
              obtain ⟨ar, cr2, hrt⟩ := HG.out.rt k (by rw [HRN.out]; exact hlt)
              obtain ⟨f4, hil⟩ := hrt wr HBW.out
              obtain ⟨hlf, hrl, hrs⟩ := HRO.out k (by rw [HRN.out]; exact hlt)
              have HAL := hidD (refAll_any n (gpTo R M0 k) g (by omega) (R.getD k (0, [])).2 hrl hrs _ wr HCR.out hil)
              have HGN := hidD (HGN0.out M0 k)
              have HGE := hidD (gp_ge R M0 k)
              have HPK := hidD (fun h1 => (mk_same (n := n) h1 : gpTo R M0 k ||| 2 ^ (R.getD k (0, [])).1 = gpTo R M0 k))
              have f5 : wr.cell? ⟨g, (R.getD k (0, [])).1, none⟩ = some (mkV (gpTo R M0 k) (R.getD k (0, [])).1) := (HCR.out.cell _).trans (mk_get hlf)
              clear hrt hil hrs
              generalize hrr : (R.getD k (0, [])).2 = rr at *
              generalize hnr : rr.length = nr at *
              clear hnr hrr
              generalize hLf : (R.getD k (0, [])).1 = lf at *
              clear hLf
              generalize (rr.all fun x => (gpTo R M0 k).testBit x.toNat) = al at *
              generalize hMK : gpTo R M0 k = MK at *
              clear hMK
              have hlfi : (lf : Int) < (n : Int) := by omega
              unfold mkV at f5
              cases hb : MK.testBit lf with
              | true =>
                rw [hb, if_pos rfl] at f5
                have HNX : Hid (gpTo R M0 (k + 1) = MK) := by show _ = _; rw [HGN.out, HPK.out hb]; split <;> rfl
                clear hb
                go_wp2_with fail
                all_goals first | exact (un_bool6 (by assumption)).elim | skip
                go_roundw
                case rel => exact ⟨k + 1, by omega, by go_num, by rw [HNX.out], by rw [HNX.out]; exact HCR.out, HBR.out⟩
                case measure => simp [intOf]; omega
              | false =>
                rw [hb, if_neg (by decide)] at f5
                have HLT := hidD (or_new hb)
                clear hb
                cases al with
                | true =>
                  rw [if_pos rfl] at HGN
                  have HDD : Hid ((!decide (MK ||| 2 ^ lf = M0)) = true) := by show _ = _; rw [decide_eq_false (by have := HLT.out; have := HGE.out; omega)]; rfl
                  have hfz : wr.frozen? ⟨g, lf, none⟩ = false := HCR.out.frz lf
                  have HC2 := hidD (cs_mark HCR.out hlf)
                  have HB2 := hidD (HBR.out.setCell (p := ⟨g, lf, none⟩) (show w1.heap.size ≤ g from HGB.out) (.int .i64 1))
                  go_wp2_with (go_at_call 66; refine HAL.out.mono ?_; rintro e w9 ⟨rfl, hw9⟩; subst w9)
                  all_goals first | exact (un_bool6 (by assumption)).elim | skip
                  go_roundw
                  case rel => exact ⟨k + 1, by omega, by go_num, by rw [HGN.out, HDD.out], by rw [HGN.out]; exact HC2.out, HB2.out⟩
                  case measure => simp [intOf]; omega
                | false =>
                  rw [if_neg (by decide)] at HGN
                  go_wp2_with (go_at_call 66; refine HAL.out.mono ?_; rintro e w9 ⟨rfl, hw9⟩; subst w9)
                  all_goals first | exact (un_bool6 (by assumption)).elim | skip
                  go_roundw
                  case rel => exact ⟨k + 1, by omega, by go_num, by rw [HGN.out], by rw [HGN.out]; exact HCR.out, HBR.out⟩
                  case measure => simp [intOf]; omega
            · obtain rfl : k = rn := by omega
              have HGS : Hid (gpTo R M0 k = gpS R M0) := by show _ = _; unfold gpS; rw [HRN.out]
              have HMX := hidD (mrd_is HCR.out (HPX.out M0 HMJ.out k (Nat.le_refl _)))
              have HGE := hidD (gp_ge R M0 k)
              have HPL := hidD (HPX.out M0 HMJ.out k (Nat.le_refl _))
              go_wp2_with fail
              go_roundw
              case rel => exact ⟨j + 1, _, rfl, by rw [HNJ.out, ← HGS.out]; exact HCR.out, fun h => by
                have h1 : gpTo R M0 k = M0 := by
                  cases hd : decide (gpTo R M0 k = M0) with
                  | true => exact of_decide_eq_true hd
                  | false => rw [hd] at h; cases h
                rw [HNJ.out, ← HGS.out, h1, ← HGS.out, h1], HBR.out⟩
              case measure =>
                rw [HGS.out] at HMX HGE HPL
                have := HMX.out
                have := HMR.out
                have := HGE.out
                have := HPL.out
                have h5 := HMJ.out
                by_cases hne : gpTo R M0 k = M0
                · rw [decide_eq_true hne]
                  unfold mleft
                  simp only [Bool.not_true]
                  omega
                · rw [decide_eq_false hne]
                  unfold mleft
                  simp only [Bool.not_false]
                  rw [HMX.out, HMR.out]
                  rw [HGS.out] at hne
                  omega
end
end Go.Proofs.YtgmbkelmgolkpaaDoor
