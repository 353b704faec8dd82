/- What slices.Grow and slices.Concat answer at texts. -/
import Derived.Test.YtgmbkelmgolkpabDoorPtb
import Derived.Lib.AppendZeros
namespace Go.Proofs.YtgmbkelmgolkpabDoor
open Go.RowKit Go.Maps
set_option linter.unusedVariables false

set_option maxRecDepth 100000 in
set_option maxHeartbeats 1600000 in
theorem growT_any (n : Nat) (h1 : 1 ≤ n) (hn : n ≤ 4398046511104) (w : World) : Calls Tryd.prog 63 #[.slice none 0 0, .int .i64 n] w fun e w' => ∃ u, e = .returned u ∧ w'.ownsRow w.heap.size 9 1 u 0 [] ∧ Below w.heap.size w w' := by
  obtain ⟨i0, hi, hz0, hz1, hz2⟩ := info_parts Tryd.info9
  have hr := fun ty => Lib.run_append_nil_zeros (P := Tryd.prog) w 48 3 ty 9 i0 _ .i64 .i64 Tryd.under48 Tryd.under3 hi hz0 n (by omega) (by rw [hz1]; decide) (by omega) (by rw [hz2]; omega)
  have HR := hidD hr
  have hge := grownCap_ge w n 0 9
  have hcm : grownCap w n 0 9 ≤ maxLen := grownCap_le_maxLen w n 0 9 (by unfold maxLen; omega)
  have HOW : Hid ((w.drew.alloc (.cells (Builtin.zeroCells (Value.string ByteArray.empty).cells n ++ Builtin.zeroCells (Value.string ByteArray.empty).cells (grownCap w n 0 9 - n)) 9)).ownsRow w.heap.size 9 1 (.slice (some ⟨w.heap.size, 0, none⟩) 0 (grownCap w n 0 9)) 0 []) := by
    refine World.ownsRow_made (base := w.heap.size) (e := 9) (size := 1) w.drew _ (grownCap w n 0 9) (Nat.le_refl _) hcm ?_
    rw [Array.size_append, size_zeroCells, size_zeroCells]
    show n * 1 + (grownCap w n 0 9 - n) * 1 = _
    omega
  have HBL : Hid (∀ o, Below w.heap.size w (w.drew.alloc o)) := fun o => ((Below.refl _ _).drew).alloc (Nat.le_refl _) o
  unfold maxLen at hcm
  generalize hC : grownCap w n 0 9 = C at *
  clear hC hr
  have hC0 : ¬ C = 0 := by omega
  have hni : (1 : Int) ≤ n := by omega
  go_enter Tryd.func63, Tryd.ntmps63
  go_wp2_with (at_builtin; refine Lib.wpList_append_run w rfl _ _ 48 3 rfl (.slice none 0 0) (.int .i64 n) rfl rfl _ _ (HR.out _) ?_)
  go_ret
  exact ⟨_, rfl, HOW.out, HBL.out _⟩
theorem wpList_append_txt {ops : Array Oper} {rest : List Oper} {o : Oper} {a : Act} {Q : Exit → Act → World → Prop} {w : World} (hgd : o.guard = none) (s x : Operand)
    (ho : o.op = .call { callee := .builtin .append, args := #[s, x], argTypes := #[48, 48] }) (base : Nat) (v : Value) (n : Nat) (c : List Tx)
    (hs : a.eval s = v) (hown : w.ownsRow base 9 1 v n (c.map encT)) (B : Nat) (u : Value) (y : List Tx) (hx : a.eval x = u) (hsr : SrAt w B u y) (hl : n + y.length ≤ 4398046511104) (hbase : base ≤ w.heap.size)
    (h : ∀ v' w', w'.ownsRow base 9 1 v' (n + y.length) ((c ++ y).map encT) → Below base w w' → Kept 9 w w' → wpList Tryd.prog ops Q rest (a.put o.dst v') w') : wpList Tryd.prog ops Q (o :: rest) a w := by
  obtain ⟨i0, hi, hz0, hz1, hz2⟩ := info_parts Tryd.info9
  have hsr' := hsr
  obtain ⟨a', cap', rfl, hcc, ⟨hc2, hc3⟩, hcl⟩ := hsr'
  cases a' with
  | none =>
    obtain rfl := hc3 rfl
    have h0 : y.length = 0 := by omega
    obtain rfl := List.eq_nil_of_length_eq_zero h0
    refine wpList_append_own_none hgd s x 48 ho base 9 i0 1 Tryd.under48 hi v n (c.map encT) hs hown hx ?_
    exact h v w (by simpa using hown) (Below.refl _ _) fun _ _ _ => rfl
  | some ad =>
    refine wpList_append_own w hgd s x 48 ho base 9 i0 _ 1 16 Tryd.under48 hi hz0 hz1 hz2 rfl (by decide) v n (c.map encT) hs hown ad y.length cap' (y.map encT) hx (by rw [List.length_map]; omega) (fun j u hu => ?_) (by intro u hu; obtain ⟨t, _, rfl⟩ := List.mem_map.1 hu; rfl) (by unfold maxLen; omega) (by omega) hbase ?_
    · have hj : j < y.length := by
        rcases Nat.lt_or_ge j y.length with h1 | h1
        · exact h1
        · rw [List.getElem?_eq_none (by rw [List.length_map]; exact h1)] at hu; cases hu
      obtain ⟨g', o', e, _, _, e4⟩ := hsr.cell (k := j) hj
      cases e
      rw [show (⟨g', o', none⟩ : Addr).add j = ⟨g', o' + j, none⟩ from Addr.add_lit .., e4, ← hu, List.getElem?_map, List.getElem?_eq_getElem hj, List.getD_eq_getElem?_getD, List.getElem?_eq_getElem hj]
      rfl
    · intro v' w' h1 h2 _
      exact h v' w' (by rw [List.map_append]; exact h1) (row_grown hown (Below.refl _ _) h2 hbase) (kept_of_grown hown h2)
set_option maxRecDepth 100000 in
set_option maxHeartbeats 800000 in
theorem concatT_any (L : List (List Tx)) (hll : L.length ≤ 4398046511103) (hf1 : 1 ≤ L.flatten.length) (hfl : L.flatten.length ≤ 4398046511103) (v : Value) (w : World) (h : RlAt w v L) : Calls Tryd.prog 48 #[v] w fun e w' => ∃ u, e = .returned u ∧ w'.ownsRow w.heap.size 9 1 u L.flatten.length (L.flatten.map encT) ∧ Below w.heap.size w w' := by
  have HRL := hidD h
  obtain ⟨a, cap, rfl, hc1, hc2, _⟩ := h
  have HPN := hidD (fun r hr => pos_next (L := L) (r := r) hr)
  have HPM := hidD (fun r hr => pos_mono L (r := r) hr)
  have HPA := hidD (pos_all L)
  have HP0 := hidD (pos_zero L)
  have HTK := hidD (fun r hr => take_one (L := L) (r := r) hr)
  have HTL : Hid (∀ r, (L.take r).flatten.length = posS L r) := fun _ => rfl
  have HTA : Hid (L.take L.length = L) := List.take_length
  have HFB := hidD hfl
  have HF1 := hidD hf1
  have HGR := hidD (fun w' => growT_any L.flatten.length hf1 (by omega) w')
  clear hf1 hfl
  generalize hFL : L.flatten.length = FL at *
  have HFL := hidD hFL
  clear hFL
  generalize hn : L.length = n at *
  have HN := hidD hn
  clear hn
  go_enter Tryd.func48, Tryd.ntmps48
  go_wp2
  go_loop [3, 11] (fun s i => ∃ k : Nat, k ≤ n ∧ i = .int .i64 k ∧ s = .int .i64 (posS L k)) (fun _ i => n - (intOf i).toNat)
  case atStart => exact ⟨0, Nat.zero_le _, rfl, by rw [HP0.out]; rfl⟩
  case round =>
    obtain ⟨k, hk, rfl, rfl⟩ := hrel
    by_cases hlt : k < n
    · have hlti : (k : Int) < n := by omega
      obtain ⟨g, o, a2, c2, rfl, hg, f0, hsr⟩ := HRL.out.row (k := k) (by rw [HN.out]; exact hlt)
      have HMK := hidD (HPM.out k hlt)
      have HNX := hidD (HPN.out k hlt)
      clear hsr
      generalize (L.getD k []).length = ln at *
      generalize posS L k = P at *
      have hsum : (P : Int) + (ln : Int) ≤ 4398046511103 := by have := HMK.out; have := HFB.out; omega
      go_wp2
      go_round
      case rel => exact ⟨k + 1, by omega, by go_num, by rw [HNX.out]; go_num⟩
      case measure => simp [intOf]; omega
    · obtain rfl : n = k := by omega
      rw [HPA.out]
      go_wp2_with (go_at_call 63; refine (HGR.out _).mono ?_; rintro e w2 ⟨u2, rfl, ho2, hb2⟩; have HO2 := hidD ho2; have HB2 := hidD hb2; clear ho2 hb2)
      obtain ⟨a6, c6, h6⟩ := row_shape HO2.out
      subst h6
      go_loopw [6, 27] (fun r i wr => ∃ k : Nat, k ≤ n ∧ i = .int .i64 k ∧ wr.ownsRow w.heap.size 9 1 r (posS L k) ((L.take k).flatten.map encT) ∧ Below w.heap.size w wr) (fun _ i _ => n - (intOf i).toNat)
      case atStart => exact ⟨0, Nat.zero_le _, rfl, by rw [HP0.out]; exact HO2.out, HB2.out⟩
      case round =>
        obtain ⟨k, hk, rfl, hown, hbel⟩ := hrel
        have HOW := hidD hown
        have HBW := hidD hbel
        obtain ⟨a7, c7, h7⟩ := row_shape hown
        subst h7
        by_cases hlt : k < n
        · have hlti : (k : Int) < n := by omega
          obtain ⟨g, o, a2, c2, rfl, hg, f0, hsr⟩ := HRL.out.row (k := k) (by rw [HN.out]; exact hlt)
          have f2 : wr.cell? ⟨g, o + k, none⟩ = _ := (hbel.cell (p := ⟨g, o + k, none⟩) hg).trans f0
          have HSR := hidD (hsr.below hbel (Nat.le_refl _))
          have HMK := hidD (HPM.out k hlt)
          have HNX := hidD (HPN.out k hlt)
          have HTN := hidD (HTK.out k hlt)
          clear f0 hsr hown hbel
          generalize L.getD k [] = RW at *
          generalize hDN : (L.take k).flatten = DN at *
          have HDN := hidD hDN
          clear hDN
          generalize hln : RW.length = ln at *
          have HLN := hidD hln
          clear hln
          generalize posS L k = P at *
          have hsum : P + ln ≤ 4398046511103 := by have := HMK.out; have := HFB.out; omega
          go_wp2_with (at_builtin; refine wpList_append_txt rfl _ _ rfl w.heap.size (.slice a7 P c7) P DN rfl HOW.out w.heap.size (.slice a2 ln c2) RW rfl HSR.out (by rw [HLN.out]; omega) HBW.out.size ?_; intro v8 w8 h81 h82 h83; have HX1 := hidD h81; have HX2 := hidD (Below.trans HBW.out h82); clear h81 h82 h83)
          go_roundw
          case rel => exact ⟨k + 1, by omega, by go_num, by rw [HNX.out, HTN.out, List.flatten_append, List.flatten_singleton, HDN.out]; rw [HLN.out] at HX1; exact HX1.out, HX2.out⟩
          case measure => simp [intOf]; omega
        · obtain rfl : n = k := by omega
          rw [HTA.out, HPA.out] at HOW
          clear hown hbel
          rw [HPA.out]
          go_wp2
          go_ret
          exact ⟨_, rfl, HOW.out, HBW.out⟩
end Go.Proofs.YtgmbkelmgolkpabDoor
