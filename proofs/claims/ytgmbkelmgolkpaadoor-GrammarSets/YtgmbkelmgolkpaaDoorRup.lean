/- What Rules answers: rows of their own, each apart from the others. -/
import Derived.Test.YtgmbkelmgolkpaaDoorRul
import Derived.Test.YtgmbkelmgolkpaaDoorBld
import Derived.Laws.OwnMore
namespace Go.Proofs.YtgmbkelmgolkpaaDoor
open Go.RowKit Go.Maps
set_option linter.unusedVariables false

theorem clone_own (l : List Int) (hl : l.length ≤ 1048576) (v : Value) (w : World) (h : IlAt w v l) : Calls Tryd.prog 86 #[v] w fun e w' => ∃ u, e = .returned u ∧ w'.ownsRow w.heap.size 3 1 u l.length (l.map encI) ∧ Below w.heap.size w w' := by
  obtain ⟨a, cap, rfl, h1, h2, h3⟩ := h
  by_cases h0 : l.length = 0
  · have hnil : l = [] := List.length_eq_zero_iff.1 h0
    subst hnil
    cases a with
    | none => exact (Tryd.slices_Clone_int_nil 0 cap w).mono fun e w' ⟨he, hw⟩ => ⟨_, he, ⟨rfl, .inl ⟨rfl, rfl⟩⟩, by rw [hw]; exact Below.refl _ _⟩
    | some a => exact (Tryd.slices_Clone_int_zero a cap w).mono fun e w' ⟨u, he, ho, _, hb⟩ => ⟨u, he, ho, hb⟩
  · obtain ⟨g, o, rfl, hg, hc⟩ := h3 0 (by omega)
    refine (Tryd.slices_Clone_int g o l.length cap l w (Nat.le_refl _) (by omega) (fun j hj => ?_)).mono fun e w' ⟨u, he, ho, _, hb⟩ => ⟨u, he, by rw [List.take_length] at ho; exact ho, hb⟩
    obtain ⟨g2, o2, e1, e2, e3⟩ := h3 j hj
    cases e1
    exact e3
theorem nums_kept {e : TypeId} {w w' : World} (h : Kept e w w') (he : (3 : TypeId) ≠ e) : Nums w w' := fun g cs hg => h g (row_lt hg) fun cs' h' => by
  rw [hg] at h'
  cases h'
  exact he rfl
theorem own_lt {w : World} {b n : Nat} {e : TypeId} {s : Nat} {v : Value} {xs : List Value} (h : w.ownsRow b e s v n xs) {g : Nat} (hg : v.ownBlock = some g) : b ≤ g ∧ g < w.heap.size := by
  rcases h.2 with ⟨rfl, h0⟩ | ⟨g', cap, cur, rfl, hb, hg', _⟩
  · cases hg
  · cases hg; exact ⟨hb, row_lt hg'⟩
/-- Cells that read as rules, whose right sides lie in blocks of their own, rising. -/
def RuC (w : World) (bd : Nat → Nat) (xs : List Value) (R : List (Nat × List Int)) : Prop := xs.length = R.length * 2 ∧ ∀ k, k < R.length → ∃ rv, xs[k * 2]? = some (.int .i64 ((R.getD k (0, [])).1 : Int)) ∧ xs[k * 2 + 1]? = some rv ∧ w.ownsRow (bd k) 3 1 rv (R.getD k (0, [])).2.length ((R.getD k (0, [])).2.map encI) ∧ (∀ g, rv.ownBlock = some g → g < bd (k + 1)) ∧ bd k ≤ bd (k + 1)
theorem RuC.nil (w : World) (bd : Nat → Nat) : RuC w bd [] [] := ⟨rfl, fun k hk => absurd hk (by simp)⟩
theorem RuC.stay {w w' : World} {bd : Nat → Nat} {xs : List Value} {R : List (Nat × List Int)} {e' : TypeId} (h : RuC w bd xs R) (hk : Kept e' w w') (hne : (3 : TypeId) ≠ e') : RuC w' bd xs R := ⟨h.1, fun k hk' => by
  obtain ⟨u, h1, h2, h3, h4⟩ := h.2 k hk'
  exact ⟨u, h1, h2, (nums_kept hk hne).own h3, h4⟩⟩
theorem RuC.next {w w' : World} {bd : Nat → Nat} {xs : List Value} {R : List (Nat × List Int)} (h : RuC w bd xs R) (hb : Below w.heap.size w w') : RuC w' bd xs R := ⟨h.1, fun k hk' => by
  obtain ⟨u, h1, h2, h3, h4⟩ := h.2 k hk'
  exact ⟨u, h1, h2, row_below h3 hb, h4⟩⟩
theorem RuC.more {w : World} {bd : Nat → Nat} {xs : List Value} {R : List (Nat × List Int)} (h : RuC w bd xs R) {l k0 B : Nat} {rv : Value} {r : List Int} (hk0 : R.length = k0) (hB : bd k0 ≤ B) (hr : w.ownsRow B 3 1 rv r.length (r.map encI)) (hBw : B ≤ w.heap.size) : RuC w (fun j => if j ≤ k0 then bd j else w.heap.size) (xs ++ [.int .i64 (l : Int), rv]) (R ++ [(l, r)]) := by
  subst hk0
  refine ⟨by rw [List.length_append, List.length_append, h.1]; simp; omega, fun k hk => ?_⟩
  rw [List.length_append, List.length_singleton] at hk
  by_cases hl : k < R.length
  · obtain ⟨u, e1, e2, e3, e4, e5⟩ := h.2 k hl
    refine ⟨u, ?_, ?_, ?_, ?_, ?_⟩
    · rw [List.getElem?_append_left (by rw [h.1]; omega), List.getD_eq_getElem?_getD, List.getElem?_append_left hl, ← List.getD_eq_getElem?_getD]; exact e1
    · rw [List.getElem?_append_left (by rw [h.1]; omega)]; exact e2
    · rw [List.getD_eq_getElem?_getD, List.getElem?_append_left hl, ← List.getD_eq_getElem?_getD]; simp only [if_pos (Nat.le_of_lt hl)]; exact e3
    · simp only [if_pos (show k + 1 ≤ R.length by omega)]; exact e4
    · simp only [if_pos (show k + 1 ≤ R.length by omega), if_pos (Nat.le_of_lt hl)]; exact e5
  · obtain rfl : k = R.length := by omega
    have e : (R ++ [(l, r)]).getD R.length (0, []) = (l, r) := by rw [List.getD_eq_getElem?_getD, List.getElem?_append_right (Nat.le_refl _), Nat.sub_self]; rfl
    refine ⟨rv, ?_, ?_, by rw [e]; simp only [if_pos (Nat.le_refl R.length)]; exact row_mono hr hB, fun g hg => ?_, ?_⟩
    · rw [List.getElem?_append_right (by rw [h.1]; omega), h.1, Nat.sub_self, e]; rfl
    · rw [List.getElem?_append_right (by rw [h.1]; omega), h.1, Nat.add_sub_cancel_left]; rfl
    · simp only [if_neg (show ¬ R.length + 1 ≤ R.length by omega)]; exact (own_lt hr hg).2
    · simp only [if_neg (show ¬ R.length + 1 ≤ R.length by omega), if_pos (Nat.le_refl R.length)]; exact Nat.le_trans hB hBw
set_option maxRecDepth 100000 in
set_option maxHeartbeats 1600000 in
theorem rules_own {p : Nat} (R : List (Nat × List Int)) (n : Nat) (hR : RuOk R n) (hRl : R.length ≤ 1048576) (vr : Value) (w : World) (hp : p < w.heap.size) (hpc : w.cell? ⟨p, 4, none⟩ = some vr) (hr : RuAt w vr R) : Calls Tryd.prog 32 #[.pointer (some ⟨p, 0, none⟩)] w fun e w' => ∃ u xs bd, e = .returned u ∧ w'.ownsRow w.heap.size 63 2 u R.length xs ∧ RuC w' bd xs R ∧ w.heap.size ≤ bd 0 ∧ Below w.heap.size w w' := by
  obtain ⟨ar, cr, rfl, hrc⟩ := hr
  have HRC := hidD hrc
  have HRO : Hid (∀ k, k < R.length → (R.getD k (0, [])).2.length ≤ 1048576) := fun k hk => (hR k hk).2.1
  have HTK := hidD (fun k hk => ru_take (R := R) (k := k) hk)
  have HTL : Hid (R.take R.length = R) := List.take_length
  have HTKL : Hid (∀ k, k ≤ R.length → (R.take k).length = k) := fun k hk => by rw [List.length_take]; omega
  obtain ⟨hz76, hsz76⟩ := zero_of_info Tryd.zero63
  obtain ⟨i76, hi76, hz760, hz761, hz762⟩ := info_parts Tryd.info63
  clear hrc hR
  generalize hrn : R.length = rn at *
  have HRN := hidD hrn
  clear hrn
  go_enter Tryd.func32, Tryd.ntmps32
  go_wp2_with (refine wpList_make_own w rfl _ _ 59 rfl w.heap.size 63 i76 _ 2 Tryd.under37 hi76 hz760 hz761 .i64 .i64 (rn : Int) rn rfl rfl rfl (by rw [hz762]; omega) (by unfold maxLen; omega) (Nat.le_refl _) ?_; intro w1 ho1 hg1; have HO1 := hidD ho1; have HB1 := hidD (below_none hg1); have hpc1 : w1.cell? ⟨p, 4, none⟩ = _ := (HB1.out.cell (p := ⟨p, 4, none⟩) hp).trans hpc; clear ho1 hg1)
  go_loopw [3, 19] (fun l i wr => ∃ (k : Nat) (bd : Nat → Nat) (xs : List Value), k ≤ rn ∧ i = .int .i64 (k : Int) ∧ wr.ownsRow w.heap.size 63 2 l k xs ∧ RuC wr bd xs (R.take k) ∧ (bd k ≤ wr.heap.size ∧ w.heap.size ≤ bd 0) ∧ Below w.heap.size w wr) (fun _ i _ => rn - (intOf i).toNat)
  case atStart => exact ⟨0, fun _ => w.heap.size, [], Nat.zero_le _, rfl, HO1.out, RuC.nil _ _, ⟨HB1.out.size, Nat.le_refl _⟩, HB1.out⟩
  case round =>
    obtain ⟨k, bd, xs, hk, rfl, hown, hru, hB, hbel⟩ := hrel
    have HOW := hidD hown
    have HRU := hidD hru
    have HBB := hidD hB
    have HBW := hidD hbel
    obtain ⟨a3, c3, h3⟩ := row_shape hown
    subst h3
    by_cases hlt : k < rn
    · have hlti : (k : Int) < (rn : Int) := by omega
      obtain ⟨g, o, rv, rfl, hg, hc1, hc2, hrv⟩ := HRC.out k hlt
      have f0 : wr.cell? ⟨g, o + k * 2, none⟩ = some (.int .i64 ((R.getD k (0, [])).1 : Int)) := (hbel.cell (p := ⟨g, o + k * 2, none⟩) hg).trans hc1
      have f1 : wr.cell? ⟨g, o + k * 2 + 1, none⟩ = some rv := (hbel.cell (p := ⟨g, o + k * 2 + 1, none⟩) hg).trans hc2
      have HIL := hidD (hrv.next hbel)
      obtain ⟨a2, c2, rfl, _⟩ := hrv
      have HTN := hidD (HTK.out k hlt)
      have hrb := HRO.out k hlt
      clear hown hru hB hbel hc1 hc2 HRC
      generalize (R.getD k (0, [])).1 = LF at *
      generalize (R.getD k (0, [])).2 = RR at *
      generalize hmm : RR.length = m at *
      have HMM := hidD hmm
      clear hmm
      obtain ⟨wp, hwp⟩ : ∃ wp, wp = wr := ⟨_, rfl⟩
      subst hwp
      go_upto_region 7 with fail
      have HB5 : Hid (Below wp.heap.size wp (wp.alloc (.cells #[.int .i64 (LF : Int), .slice a2 m c2] (63 : TypeId)))) := (Below.refl _ _).alloc (Nat.le_refl _) _
      have HC5 : Hid (CsAt (wp.alloc (.cells #[.int .i64 (LF : Int), .slice a2 m c2] (63 : TypeId))) wp.heap.size #[.int .i64 (LF : Int), .slice a2 m c2] 63) := heap_alloc_last _ _
      generalize hw5 : wp.alloc (.cells #[.int .i64 (LF : Int), .slice a2 m c2] (63 : TypeId)) = w5 at *
      clear hw5 f0 f1
      have HCL := hidD (fun w' (hb : Below wp.heap.size wp w') => clone_own RR (by rw [HMM.out]; exact hrb) (.slice a2 m c2) w' (HIL.out.next hb))
      have HOW5 := hidD (row_below HOW.out HB5.out)
      have HRU5 := hidD (HRU.out.next HB5.out)
      have HBS5 : Hid (bd k ≤ w5.heap.size) := Nat.le_trans HBB.out.1 HB5.out.size
      have HBW5 := hidD (Below.next HBW.out HB5.out)
      have HKK : Hid (∀ w', Below w5.heap.size w5 w' → ∃ i : KB w5 [wp.heap.size], w' = i.v) := fun w' hb => ⟨⟨w', fun y hy => by rw [List.mem_singleton] at hy; subst hy; exact hb.block _ HC5.out.lt⟩, rfl⟩
      have k0 : ∀ i : KB w5 [wp.heap.size], i.v.cell? ⟨wp.heap.size, 0, none⟩ = some (.int .i64 (LF : Int)) := fun i => (i.cell (b := wp.heap.size) (by simp) _).trans (HC5.out.cell 0)
      have k1 : ∀ i : KB w5 [wp.heap.size], i.v.cell? ⟨wp.heap.size, 1, none⟩ = some (.slice a2 m c2) := fun i => (i.cell (b := wp.heap.size) (by simp) _).trans (HC5.out.cell 1)
      have HDW : Hid (Below w5.heap.size w5 w5.drew) := (Below.refl _ _).drew
      refine wp_region_seg [0, 0, 0, 0, 0, 1, 2, 3, 99, 99] 2 8 [wp.heap.size] (by kernel_rfl) (by kernel_rfl) (by kernel_rfl) (by kernel_rfl) (by kernel_rfl) (by kernel_rfl) (by kernel_rfl) (by kernel_rfl) (fun _ _ _ _ _ h => h) ?_
      simp only [SegW, pk, Nat.reduceMul, Nat.reduceAdd, Nat.reduceBEq, cond_true, cond_false]
      repeat (go_big_quiet_step (fail))
      refine wpQuiet_nil ?_
      go_wp2_with (go_at_call 86; refine (HCL.out _ (Below.next HB5.out HDW.out)).mono ?_; rintro e w6 ⟨u6, rfl, hi6, hb6⟩; rw [HMM.out] at hi6; obtain ⟨a6, c6, h6⟩ := row_shape hi6; subst h6; have HI6 := hidD hi6; have HB6 := hidD (Below.next HDW.out hb6); clear hi6 hb6)
      refine ⟨HKK.out _ HB6.out, ?_⟩
      repeat (go_big_quiet_step (fail))
      refine wpQuiet_nil ?_
      have HO6 := hidD (fun o => (row_below HOW5.out HB6.out).alloc o)
      have HAL6 : Hid (∀ o, Below w6.heap.size w6 (w6.alloc o)) := fun o => (Below.refl _ _).alloc (Nat.le_refl _) o
      have HBW6 := hidD (Below.next HBW5.out HB6.out)
      have HNC := hidD (new_cell2 w6 (.int .i64 (LF : Int)) (.slice a6 m c6) 63)
      have HRU6 := hidD (HRU5.out.next HB6.out)
      go_wp2_with fail
      refine ⟨HKK.out _ (Below.next HB6.out (HAL6.out _)), ?_⟩
      repeat (go_big_quiet_step (fail))
      refine wpQuiet_nil ?_
      go_wp2_with (at_builtin; refine wpList_append_rule rfl _ _ rfl w.heap.size (.slice a3 k c3) k xs rfl (HO6.out _) w6.heap.size (.int .i64 (LF : Int)) (.slice a6 m c6) rfl HNC.out.1 HNC.out.2 rfl rfl (by omega) (by have := HBW6.out.size; simp; omega) ?_; intro v8 w8 hown8 hb8 hk8; have HO8 := hidD hown8; have HB8 := hidD (Below.trans (Below.next HBW6.out (HAL6.out _)) hb8); have HR8 := hidD ((HRU6.out.next (HAL6.out _)).stay hk8 (by decide)); have HZ8 : Hid (w5.heap.size ≤ w8.heap.size) := Nat.le_trans HB6.out.size (Nat.le_trans (HAL6.out _).size hb8.size); have HI8 := hidD ((nums_kept hk8 (by decide)).own (HI6.out.alloc _)); clear hown8 hb8 hk8)
      go_roundw
      case rel =>
        refine ⟨k + 1, fun j => if j ≤ k then bd j else w8.heap.size, _, by omega, by go_num, HO8.out, ?_, ⟨(by simp only [if_neg (show ¬ k + 1 ≤ k by omega)]; exact Nat.le_refl _), (by simp only [if_pos (Nat.zero_le k)]; exact HBB.out.2)⟩, HB8.out⟩
        rw [HTN.out]
        exact HR8.out.more (l := LF) (HTKL.out k hk) HBS5.out (by rw [HMM.out]; exact HI8.out) HZ8.out
      case measure => simp [intOf]; omega
    · obtain rfl : k = rn := by omega
      rw [HTL.out] at HRU
      clear hown hru hB hbel
      go_wp2
      refine bodyPost_ret (v := .slice a3 k c3) (by simp [results, Tryd.results32, go_sem]) rfl ?_
      exact ⟨_, xs, bd, rfl, HOW.out, HRU.out, HBB.out.2, HBW.out⟩
end Go.Proofs.YtgmbkelmgolkpaaDoor
