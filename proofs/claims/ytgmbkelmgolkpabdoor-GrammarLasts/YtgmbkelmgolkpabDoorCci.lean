/- What slices.Grow and slices.Concat answer at numbers. -/
import Derived.Test.YtgmbkelmgolkpabDoorRqb
import Derived.Lib.AppendZeros
namespace Go.Proofs.YtgmbkelmgolkpabDoor
open Go.RowKit Go.Maps
set_option linter.unusedVariables false

def poI (L : List (List Int)) (r : Nat) : Nat := (L.take r).flatten.length
theorem poi_zero (L : List (List Int)) : poI L 0 = 0 := by simp [poI]
theorem takeI_one {L : List (List Int)} {r : Nat} (hr : r < L.length) : L.take (r + 1) = L.take r ++ [L.getD r []] := by
  rw [List.take_succ_eq_append_getElem hr, List.getD_eq_getElem?_getD, List.getElem?_eq_getElem hr]; rfl
theorem poi_next {L : List (List Int)} {r : Nat} (hr : r < L.length) : poI L (r + 1) = poI L r + (L.getD r []).length := by
  unfold poI
  rw [takeI_one hr, List.flatten_append, List.flatten_singleton, List.length_append]
theorem poi_all (L : List (List Int)) : poI L L.length = L.flatten.length := by unfold poI; rw [List.take_length]
theorem poi_mono (L : List (List Int)) {r : Nat} (hr : r < L.length) : poI L r + (L.getD r []).length ≤ L.flatten.length := by
  rw [← poi_next hr]
  unfold poI
  conv => rhs; rw [← List.take_append_drop (r + 1) L, List.flatten_append, List.length_append]
  omega
theorem poi_get {L : List (List Int)} {r j : Nat} (hr : r < L.length) (hj : j < (L.getD r []).length) : L.flatten.getD (poI L r + j) 0 = (L.getD r []).getD j 0 := by
  have h1 : L = L.take r ++ (L.getD r [] :: L.drop (r + 1)) := by
    conv => lhs; rw [← List.take_append_drop r L, List.drop_eq_getElem_cons hr]
    rw [List.getD_eq_getElem?_getD, List.getElem?_eq_getElem hr]; rfl
  have h2 : L.flatten = (L.take r).flatten ++ (L.getD r [] ++ (L.drop (r + 1)).flatten) := by
    conv => lhs; rw [h1]
    rw [List.flatten_append, List.flatten_cons]
  rw [h2, List.getD_eq_getElem?_getD, List.getElem?_append_right (by unfold poI; omega)]
  unfold poI
  rw [Nat.add_sub_cancel_left, List.getElem?_append_left hj, ← List.getD_eq_getElem?_getD]
theorem IrAt.cell2 {w : World} {B n cap : Nat} {a : Option Addr} {ss : List Int} (h : IrAt w B (.slice a n cap) ss) {k : Nat} (hk : k < ss.length) : ∃ g o, a = some ⟨g, o, none⟩ ∧ g < w.heap.size ∧ w.cell? ⟨g, o + k, none⟩ = some (.int .i64 (ss.getD k 0)) ∧ ss.length ≤ cap := by
  obtain ⟨a2, cap2, h1, h0, _, h2⟩ := h
  cases h1
  obtain ⟨g, o, cs, e1, e2, e3, e4⟩ := h2 k hk
  exact ⟨g, o, e1, row_lt e3, (cell_of_row _ _ _ _ _ _ e3).trans e4, h0⟩
/-- Rows of numbers in memory. -/
def IoAt (w : World) (v : Value) (L : List (List Int)) : Prop := ∃ a cap, v = .slice a L.length cap ∧ L.length ≤ cap ∧ cap ≤ 9223372036854775807 ∧ ∀ k, k < L.length → ∃ g o u, a = some ⟨g, o, none⟩ ∧ g < w.heap.size ∧ w.cell? ⟨g, o + k, none⟩ = some u ∧ IrAt w w.heap.size u (L.getD k [])
theorem IoAt.row {w : World} {n cap : Nat} {a : Option Addr} {L : List (List Int)} (h : IoAt w (.slice a n cap) L) {k : Nat} (hk : k < L.length) : ∃ g o a2 c2, a = some ⟨g, o, none⟩ ∧ g < w.heap.size ∧ w.cell? ⟨g, o + k, none⟩ = some (.slice a2 (L.getD k []).length c2) ∧ IrAt w w.heap.size (.slice a2 (L.getD k []).length c2) (L.getD k []) := by
  obtain ⟨a', cap', e, _, _, h3⟩ := h
  cases e
  obtain ⟨g, o, u, e1, e2, e3, e4⟩ := h3 k hk
  obtain ⟨a2, c2, rfl⟩ := e4.shape
  exact ⟨g, o, a2, c2, e1, e2, e3, e4⟩
set_option maxRecDepth 100000 in
set_option maxHeartbeats 1600000 in
theorem growI_any (n : Nat) (h1 : 1 ≤ n) (hn : n ≤ 4398046511104) (w : World) : Calls Tryd.prog 67 #[.slice none 0 0, .int .i64 n] w fun e w' => ∃ u, e = .returned u ∧ w'.ownsRow w.heap.size 3 1 u 0 [] ∧ Below w.heap.size w w' := by
  obtain ⟨i0, hi, hz0, hz1, hz2⟩ := info_parts Tryd.info3
  have hr := fun ty => Lib.run_append_nil_zeros (P := Tryd.prog) w 27 3 ty 3 i0 _ .i64 .i64 Tryd.underlying27' Tryd.under3 hi hz0 n (by omega) (by rw [hz1]; decide) (by omega) (by rw [hz2]; omega)
  have HR := hidD hr
  have hge := grownCap_ge w n 0 3
  have hcm : grownCap w n 0 3 ≤ maxLen := grownCap_le_maxLen w n 0 3 (by unfold maxLen; omega)
  have HOW : Hid ((w.drew.alloc (.cells (Builtin.zeroCells (Value.int .i64 0).cells n ++ Builtin.zeroCells (Value.int .i64 0).cells (grownCap w n 0 3 - n)) 3)).ownsRow w.heap.size 3 1 (.slice (some ⟨w.heap.size, 0, none⟩) 0 (grownCap w n 0 3)) 0 []) := by
    refine World.ownsRow_made (base := w.heap.size) (e := 3) (size := 1) w.drew _ (grownCap w n 0 3) (Nat.le_refl _) hcm ?_
    rw [Array.size_append, size_zeroCells, size_zeroCells]
    show n * 1 + (grownCap w n 0 3 - n) * 1 = _
    omega
  have HBL : Hid (∀ o, Below w.heap.size w (w.drew.alloc o)) := fun o => ((Below.refl _ _).drew).alloc (Nat.le_refl _) o
  unfold maxLen at hcm
  generalize hC : grownCap w n 0 3 = C at *
  clear hC hr
  have hC0 : ¬ C = 0 := by omega
  have hni : (1 : Int) ≤ n := by omega
  go_enter Tryd.func67, Tryd.ntmps67
  go_wp2_with (at_builtin; refine Lib.wpList_append_run w rfl _ _ 27 3 rfl (.slice none 0 0) (.int .i64 n) rfl rfl _ _ (HR.out _) ?_)
  go_ret
  exact ⟨_, rfl, HOW.out, HBL.out _⟩
theorem wpList_append_nums {ops : Array Oper} {rest : List Oper} {o : Oper} {a : Act} {Q : Exit → Act → World → Prop} {w : World} (hgd : o.guard = none) (s x : Operand)
    (ho : o.op = .call { callee := .builtin .append, args := #[s, x], argTypes := #[27, 27] }) (base : Nat) (v : Value) (n : Nat) (c : List Int)
    (hs : a.eval s = v) (hown : w.ownsRow base 3 1 v n (c.map encI)) (B : Nat) (u : Value) (y : List Int) (hx : a.eval x = u) (hsr : IrAt w B u y) (hl : n + y.length ≤ 4398046511104) (hbase : base ≤ w.heap.size)
    (h : ∀ v' w', w'.ownsRow base 3 1 v' (n + y.length) ((c ++ y).map encI) → Below base w w' → Kept 3 w w' → wpList Tryd.prog ops Q rest (a.put o.dst v') w') : wpList Tryd.prog ops Q (o :: rest) a w := by
  obtain ⟨i0, hi, hz0, hz1, hz2⟩ := info_parts Tryd.info3
  have hsr' := hsr
  obtain ⟨a', cap', rfl, hcc, ⟨hc2, hc3⟩, hcl⟩ := hsr'
  cases a' with
  | none =>
    obtain rfl := hc3 rfl
    have h0 : y.length = 0 := by omega
    obtain rfl := List.eq_nil_of_length_eq_zero h0
    refine wpList_append_own_none hgd s x 27 ho base 3 i0 1 Tryd.underlying27' hi v n (c.map encI) hs hown hx ?_
    exact h v w (by simpa using hown) (Below.refl _ _) fun _ _ _ => rfl
  | some ad =>
    refine wpList_append_own w hgd s x 27 ho base 3 i0 _ 1 8 Tryd.underlying27' hi hz0 hz1 hz2 rfl (by decide) v n (c.map encI) hs hown ad y.length cap' (y.map encI) hx (by rw [List.length_map]; omega) (fun j u hu => ?_) (by intro u hu; obtain ⟨t, _, rfl⟩ := List.mem_map.1 hu; rfl) (by unfold maxLen; omega) (by omega) hbase ?_
    · have hj : j < y.length := by
        rcases Nat.lt_or_ge j y.length with h1 | h1
        · exact h1
        · rw [List.getElem?_eq_none (by rw [List.length_map]; exact h1)] at hu; cases hu
      obtain ⟨g', o', e, _, e4, _⟩ := hsr.cell2 (k := j) hj
      cases e
      rw [show (⟨g', o', none⟩ : Addr).add j = ⟨g', o' + j, none⟩ from Addr.add_lit .., e4, ← hu, List.getElem?_map, List.getElem?_eq_getElem hj, List.getD_eq_getElem?_getD, List.getElem?_eq_getElem hj]
      rfl
    · intro v' w' h1 h2 _
      exact h v' w' (by rw [List.map_append]; exact h1) (row_grown hown (Below.refl _ _) h2 hbase) (kept_of_grown hown h2)
set_option maxRecDepth 100000 in
set_option maxHeartbeats 800000 in
theorem concatI_any (L : List (List Int)) (hll : L.length ≤ 4398046511103) (hf1 : 1 ≤ L.flatten.length) (hfl : L.flatten.length ≤ 4398046511103) (v : Value) (w : World) (h : IoAt w v L) : Calls Tryd.prog 59 #[v] w fun e w' => ∃ u, e = .returned u ∧ w'.ownsRow w.heap.size 3 1 u L.flatten.length (L.flatten.map encI) ∧ Below w.heap.size w w' := by
  have HRL := hidD h
  obtain ⟨a, cap, rfl, hc1, hc2, _⟩ := h
  have HPN := hidD (fun r hr => poi_next (L := L) (r := r) hr)
  have HPM := hidD (fun r hr => poi_mono L (r := r) hr)
  have HPA := hidD (poi_all L)
  have HP0 := hidD (poi_zero L)
  have HTK := hidD (fun r hr => takeI_one (L := L) (r := r) hr)
  have HTL : Hid (∀ r, (L.take r).flatten.length = poI L r) := fun _ => rfl
  have HTA : Hid (L.take L.length = L) := List.take_length
  have HFB := hidD hfl
  have HF1 := hidD hf1
  have HGR := hidD (fun w' => growI_any L.flatten.length hf1 (by omega) w')
  clear hf1 hfl
  generalize hFL : L.flatten.length = FL at *
  have HFL := hidD hFL
  clear hFL
  generalize hn : L.length = n at *
  have HN := hidD hn
  clear hn
  go_enter Tryd.func59, Tryd.ntmps59
  go_wp2
  go_loop [3, 11] (fun s i => ∃ k : Nat, k ≤ n ∧ i = .int .i64 k ∧ s = .int .i64 (poI L k)) (fun _ i => n - (intOf i).toNat)
  case atStart => exact ⟨0, Nat.zero_le _, rfl, by rw [HP0.out]; rfl⟩
  case round =>
    obtain ⟨k, hk, rfl, rfl⟩ := hrel
    by_cases hlt : k < n
    · have hlti : (k : Int) < n := by omega
      obtain ⟨g, o, a2, c2, rfl, hg, f0, hsr⟩ := HRL.out.row (k := k) (by rw [HN.out]; exact hlt)
      have HMK := hidD (HPM.out k hlt)
      have HNX := hidD (HPN.out k hlt)
      clear hsr
      generalize (L.getD k []).length = ln at *
      generalize poI L k = P at *
      have hsum : (P : Int) + (ln : Int) ≤ 4398046511103 := by have := HMK.out; have := HFB.out; omega
      go_wp2
      go_round
      case rel => exact ⟨k + 1, by omega, by go_num, by rw [HNX.out]; go_num⟩
      case measure => simp [intOf]; omega
    · obtain rfl : n = k := by omega
      rw [HPA.out]
      go_wp2_with (go_at_call 67; refine (HGR.out _).mono ?_; rintro e w2 ⟨u2, rfl, ho2, hb2⟩; have HO2 := hidD ho2; have HB2 := hidD hb2; clear ho2 hb2)
      obtain ⟨a6, c6, h6⟩ := row_shape HO2.out
      subst h6
      go_loopw [6, 27] (fun r i wr => ∃ k : Nat, k ≤ n ∧ i = .int .i64 k ∧ wr.ownsRow w.heap.size 3 1 r (poI L k) ((L.take k).flatten.map encI) ∧ Below w.heap.size w wr) (fun _ i _ => n - (intOf i).toNat)
      case atStart => exact ⟨0, Nat.zero_le _, rfl, by rw [HP0.out]; exact HO2.out, HB2.out⟩
      case round =>
        obtain ⟨k, hk, rfl, hown, hbel⟩ := hrel
        have HOW := hidD hown
        have HBW := hidD hbel
        obtain ⟨a7, c7, h7⟩ := row_shape hown
        subst h7
        by_cases hlt : k < n
        · have hlti : (k : Int) < n := by omega
          obtain ⟨g, o, a2, c2, rfl, hg, f0, hsr⟩ := HRL.out.row (k := k) (by rw [HN.out]; exact hlt)
          have f2 : wr.cell? ⟨g, o + k, none⟩ = _ := (hbel.cell (p := ⟨g, o + k, none⟩) hg).trans f0
          have HSR := hidD (hsr.below hbel (Nat.le_refl _))
          have HMK := hidD (HPM.out k hlt)
          have HNX := hidD (HPN.out k hlt)
          have HTN := hidD (HTK.out k hlt)
          clear f0 hsr hown hbel
          generalize L.getD k [] = RW at *
          generalize hDN : (L.take k).flatten = DN at *
          have HDN := hidD hDN
          clear hDN
          generalize hln : RW.length = ln at *
          have HLN := hidD hln
          clear hln
          generalize poI L k = P at *
          have hsum : P + ln ≤ 4398046511103 := by have := HMK.out; have := HFB.out; omega
          go_wp2_with (at_builtin; refine wpList_append_nums rfl _ _ rfl w.heap.size (.slice a7 P c7) P DN rfl HOW.out w.heap.size (.slice a2 ln c2) RW rfl HSR.out (by rw [HLN.out]; omega) HBW.out.size ?_; intro v8 w8 h81 h82 h83; have HX1 := hidD h81; have HX2 := hidD (Below.trans HBW.out h82); clear h81 h82 h83)
          go_roundw
          case rel => exact ⟨k + 1, by omega, by go_num, by rw [HNX.out, HTN.out, List.flatten_append, List.flatten_singleton, HDN.out]; rw [HLN.out] at HX1; exact HX1.out, HX2.out⟩
          case measure => simp [intOf]; omega
        · obtain rfl : n = k := by omega
          rw [HTA.out, HPA.out] at HOW
          clear hown hbel
          rw [HPA.out]
          go_wp2
          go_ret
          exact ⟨_, rfl, HOW.out, HBW.out⟩
end Go.Proofs.YtgmbkelmgolkpabDoor
