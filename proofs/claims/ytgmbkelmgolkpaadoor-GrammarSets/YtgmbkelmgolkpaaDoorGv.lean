/- Texts of one proof, one behind the other. -/
import Derived.Test.YtgmbkelmgolkpaaDoorGq
import Derived.Lib.AppendZeros
import Derived.Test.YtgmbkelmgolkpaaDoorGw
import Derived.Test.YtgmbkelmgolkpaaDoorShelf
/- Plain: what comes of the start by rules that fit. -/
namespace Go.Proofs.YtgmbkelmgolkpaaDoor
open Go.RowKit Go.Maps
set_option linter.unusedVariables false

/-- Terminals at the end (the front turned round) go behind the back. -/
def stripS (T : Nat) : List Int → List Int → List Int × List Int
  | [], b => ([], b)
  | s :: r, b => if s < (T : Int) then stripS T r (b ++ [s]) else (s :: r, b)
def dvTo (T : Nat) (R : List (Nat × List Int)) (st : Nat) (l : List Int) : Nat → List Int × List Int
  | 0 => ([(st : Int)], [])
  | k + 1 => stripS T ((rgN R l k).2.reverse ++ (dvTo T R st l k).1.tail) (dvTo T R st l k).2
def dvS (T : Nat) (R : List (Nat × List Int)) (st : Nat) (l : List Int) : List Int := (dvTo T R st l l.length).1.reverse ++ (dvTo T R st l l.length).2.reverse
theorem in_app (T : Nat) (a b : List Int) : inS T (a ++ b) = inS T a ++ inS T b := by unfold inS; rw [List.filter_append]
theorem strip_in (T : Nat) : ∀ f b, inS T (stripS T f b).1.reverse = inS T f.reverse
  | [], b => rfl
  | s :: r, b => by
    rw [stripS]
    split
    · rename_i h
      rw [strip_in T r, List.reverse_cons, in_app]
      have : inS T [s] = [] := by unfold inS; simp [List.filter_cons]; omega
      rw [this, List.append_nil]
    · rfl
theorem strip_head (T : Nat) : ∀ f b, (stripS T f b).1 = [] ∨ ∃ s r, (stripS T f b).1 = s :: r ∧ (T : Int) ≤ s
  | [], b => .inl rfl
  | s :: r, b => by
    rw [stripS]
    split
    · exact strip_head T r _
    · rename_i h; exact .inr ⟨s, r, rfl, by omega⟩
theorem strip_len (T : Nat) : ∀ f b, (stripS T f b).1.length + (stripS T f b).2.length = f.length + b.length
  | [], b => rfl
  | s :: r, b => by
    rw [stripS]
    split
    · rw [strip_len T r, List.length_append, List.length_singleton, List.length_cons]; omega
    · rfl
theorem fit_parts {T : Nat} {R : List (Nat × List Int)} {st : Nat} {l : List Int} {k : Nat} (h : fitS T R st l k = true) : 0 ≤ l.getD k 0 ∧ l.getD k 0 < (R.length : Int) ∧ 1 ≤ (pnTo T R st l k).length := by
  unfold fitS at h
  simp only [Bool.and_eq_true, decide_eq_true_eq] at h
  exact ⟨h.1.1.1, h.1.1.2, h.1.2⟩
theorem dv_ok {T : Nat} {R : List (Nat × List Int)} {st : Nat} {l : List Int} (hst : T ≤ st) : ∀ k, (∀ j, j < k → fitS T R st l j = true) → inS T (dvTo T R st l k).1.reverse = pnTo T R st l k ∧ ((dvTo T R st l k).1 = [] ∨ ∃ s r, (dvTo T R st l k).1 = s :: r ∧ (T : Int) ≤ s) ∧ (((dvTo T R st l k).1.length : Int) + ((dvTo T R st l k).2.length : Int) = szTo R l k)
  | 0, _ => by
    refine ⟨?_, .inr ⟨st, [], rfl, by omega⟩, rfl⟩
    show inS T [(st : Int)] = [(st : Int)]
    unfold inS
    rw [List.filter_cons, if_pos (by simp; omega)]
    rfl
  | k + 1, h => by
    obtain ⟨h1, h2, h3⟩ := dv_ok hst k (fun j hj => h j (by omega))
    have hp := (fit_parts (h k (by omega))).2.2
    rcases h2 with h2 | ⟨s, r, h2, hs⟩
    · rw [h2] at h1
      rw [← h1] at hp
      exact absurd hp (by show ¬ 1 ≤ 0; decide)
    · have hd : dvTo T R st l (k + 1) = stripS T ((rgN R l k).2.reverse ++ (dvTo T R st l k).1.tail) (dvTo T R st l k).2 := rfl
      have ht : (dvTo T R st l k).1.tail = r := by rw [h2]; rfl
      rw [hd, ht]
      have hi : inS T [s] = [s] := by unfold inS; rw [List.filter_cons, if_pos (by simp; omega)]; rfl
      refine ⟨?_, strip_head T _ _, ?_⟩
      · rw [strip_in, List.reverse_append, List.reverse_reverse, in_app]
        show _ = (pnTo T R st l k).dropLast ++ inS T (rgN R l k).2
        rw [← h1, h2, List.reverse_cons, in_app, hi, List.dropLast_concat]
      · have hl := strip_len T ((rgN R l k).2.reverse ++ r) (dvTo T R st l k).2
        rw [List.length_append, List.length_reverse] at hl
        rw [h2, List.length_cons] at h3
        show _ = szTo R l k + (((rgN R l k).2.length : Int) - 1)
        omega
end Go.Proofs.YtgmbkelmgolkpaaDoor
/- What slices.Grow and slices.Concat answer at numbers. -/
namespace Go.Proofs.YtgmbkelmgolkpaaDoor
open Go.RowKit Go.Maps
set_option linter.unusedVariables false

def poI (L : List (List Int)) (r : Nat) : Nat := (L.take r).flatten.length
theorem poi_zero (L : List (List Int)) : poI L 0 = 0 := by simp [poI]
theorem takeI_one {L : List (List Int)} {r : Nat} (hr : r < L.length) : L.take (r + 1) = L.take r ++ [L.getD r []] := by
  rw [List.take_succ_eq_append_getElem hr, List.getD_eq_getElem?_getD, List.getElem?_eq_getElem hr]; rfl
theorem poi_next {L : List (List Int)} {r : Nat} (hr : r < L.length) : poI L (r + 1) = poI L r + (L.getD r []).length := by
  unfold poI
  rw [takeI_one hr, List.flatten_append, List.flatten_singleton, List.length_append]
theorem poi_all (L : List (List Int)) : poI L L.length = L.flatten.length := by unfold poI; rw [List.take_length]
theorem poi_mono (L : List (List Int)) {r : Nat} (hr : r < L.length) : poI L r + (L.getD r []).length ≤ L.flatten.length := by
  rw [← poi_next hr]
  unfold poI
  conv => rhs; rw [← List.take_append_drop (r + 1) L, List.flatten_append, List.length_append]
  omega
theorem poi_get {L : List (List Int)} {r j : Nat} (hr : r < L.length) (hj : j < (L.getD r []).length) : L.flatten.getD (poI L r + j) 0 = (L.getD r []).getD j 0 := by
  have h1 : L = L.take r ++ (L.getD r [] :: L.drop (r + 1)) := by
    conv => lhs; rw [← List.take_append_drop r L, List.drop_eq_getElem_cons hr]
    rw [List.getD_eq_getElem?_getD, List.getElem?_eq_getElem hr]; rfl
  have h2 : L.flatten = (L.take r).flatten ++ (L.getD r [] ++ (L.drop (r + 1)).flatten) := by
    conv => lhs; rw [h1]
    rw [List.flatten_append, List.flatten_cons]
  rw [h2, List.getD_eq_getElem?_getD, List.getElem?_append_right (by unfold poI; omega)]
  unfold poI
  rw [Nat.add_sub_cancel_left, List.getElem?_append_left hj, ← List.getD_eq_getElem?_getD]
theorem IrAt.cell2 {w : World} {B n cap : Nat} {a : Option Addr} {ss : List Int} (h : IrAt w B (.slice a n cap) ss) {k : Nat} (hk : k < ss.length) : ∃ g o, a = some ⟨g, o, none⟩ ∧ g < w.heap.size ∧ w.cell? ⟨g, o + k, none⟩ = some (.int .i64 (ss.getD k 0)) ∧ ss.length ≤ cap := by
  obtain ⟨a2, cap2, h1, h0, _, h2⟩ := h
  cases h1
  obtain ⟨g, o, cs, e1, e2, e3, e4⟩ := h2 k hk
  exact ⟨g, o, e1, row_lt e3, (cell_of_row _ _ _ _ _ _ e3).trans e4, h0⟩
/-- Rows of numbers in memory. -/
def IoAt (w : World) (v : Value) (L : List (List Int)) : Prop := ∃ a cap, v = .slice a L.length cap ∧ L.length ≤ cap ∧ cap ≤ 9223372036854775807 ∧ ∀ k, k < L.length → ∃ g o u, a = some ⟨g, o, none⟩ ∧ g < w.heap.size ∧ w.cell? ⟨g, o + k, none⟩ = some u ∧ IrAt w w.heap.size u (L.getD k [])
theorem IoAt.row {w : World} {n cap : Nat} {a : Option Addr} {L : List (List Int)} (h : IoAt w (.slice a n cap) L) {k : Nat} (hk : k < L.length) : ∃ g o a2 c2, a = some ⟨g, o, none⟩ ∧ g < w.heap.size ∧ w.cell? ⟨g, o + k, none⟩ = some (.slice a2 (L.getD k []).length c2) ∧ IrAt w w.heap.size (.slice a2 (L.getD k []).length c2) (L.getD k []) := by
  obtain ⟨a', cap', e, _, _, h3⟩ := h
  cases e
  obtain ⟨g, o, u, e1, e2, e3, e4⟩ := h3 k hk
  obtain ⟨a2, c2, rfl⟩ := e4.shape
  exact ⟨g, o, a2, c2, e1, e2, e3, e4⟩
set_option maxRecDepth 100000 in
set_option maxHeartbeats 1600000 in
theorem growI_any (n : Nat) (h1 : 1 ≤ n) (hn : n ≤ 4398046511104) (w : World) : Calls Tryd.prog 106 #[.slice none 0 0, .int .i64 n] w fun e w' => ∃ u, e = .returned u ∧ w'.ownsRow w.heap.size 3 1 u 0 [] ∧ Below w.heap.size w w' := by
  obtain ⟨i0, hi, hz0, hz1, hz2⟩ := info_parts Tryd.info3
  have hr := fun ty => Lib.run_append_nil_zeros (P := Tryd.prog) w 43 3 ty 3 i0 _ .i64 .i64 Tryd.underlying43' Tryd.under3 hi hz0 n (by omega) (by rw [hz1]; decide) (by omega) (by rw [hz2]; omega)
  have HR := hidD hr
  have hge := grownCap_ge w n 0 3
  have hcm : grownCap w n 0 3 ≤ maxLen := grownCap_le_maxLen w n 0 3 (by unfold maxLen; omega)
  have HOW : Hid ((w.drew.alloc (.cells (Builtin.zeroCells (Value.int .i64 0).cells n ++ Builtin.zeroCells (Value.int .i64 0).cells (grownCap w n 0 3 - n)) 3)).ownsRow w.heap.size 3 1 (.slice (some ⟨w.heap.size, 0, none⟩) 0 (grownCap w n 0 3)) 0 []) := by
    refine World.ownsRow_made (base := w.heap.size) (e := 3) (size := 1) w.drew _ (grownCap w n 0 3) (Nat.le_refl _) hcm ?_
    rw [Array.size_append, size_zeroCells, size_zeroCells]
    show n * 1 + (grownCap w n 0 3 - n) * 1 = _
    omega
  have HBL : Hid (∀ o, Below w.heap.size w (w.drew.alloc o)) := fun o => ((Below.refl _ _).drew).alloc (Nat.le_refl _) o
  unfold maxLen at hcm
  generalize hC : grownCap w n 0 3 = C at *
  clear hC hr
  have hC0 : ¬ C = 0 := by omega
  have hni : (1 : Int) ≤ n := by omega
  go_enter Tryd.func106, Tryd.ntmps106
  go_wp2_with (at_builtin; refine Lib.wpList_append_run w rfl _ _ 43 3 rfl (.slice none 0 0) (.int .i64 n) rfl rfl _ _ (HR.out _) ?_)
  go_ret
  exact ⟨_, rfl, HOW.out, HBL.out _⟩
theorem wpList_append_nums {ops : Array Oper} {rest : List Oper} {o : Oper} {a : Act} {Q : Exit → Act → World → Prop} {w : World} (hgd : o.guard = none) (s x : Operand)
    (ho : o.op = .call { callee := .builtin .append, args := #[s, x], argTypes := #[43, 43] }) (base : Nat) (v : Value) (n : Nat) (c : List Int)
    (hs : a.eval s = v) (hown : w.ownsRow base 3 1 v n (c.map encI)) (B : Nat) (u : Value) (y : List Int) (hx : a.eval x = u) (hsr : IrAt w B u y) (hl : n + y.length ≤ 4398046511104) (hbase : base ≤ w.heap.size)
    (h : ∀ v' w', w'.ownsRow base 3 1 v' (n + y.length) ((c ++ y).map encI) → Below base w w' → Kept 3 w w' → wpList Tryd.prog ops Q rest (a.put o.dst v') w') : wpList Tryd.prog ops Q (o :: rest) a w := by
  obtain ⟨i0, hi, hz0, hz1, hz2⟩ := info_parts Tryd.info3
  have hsr' := hsr
  obtain ⟨a', cap', rfl, hcc, ⟨hc2, hc3⟩, hcl⟩ := hsr'
  cases a' with
  | none =>
    obtain rfl := hc3 rfl
    have h0 : y.length = 0 := by omega
    obtain rfl := List.eq_nil_of_length_eq_zero h0
    refine wpList_append_own_none hgd s x 43 ho base 3 i0 1 Tryd.underlying43' hi v n (c.map encI) hs hown hx ?_
    exact h v w (by simpa using hown) (Below.refl _ _) fun _ _ _ => rfl
  | some ad =>
    refine wpList_append_own w hgd s x 43 ho base 3 i0 _ 1 8 Tryd.underlying43' hi hz0 hz1 hz2 rfl (by decide) v n (c.map encI) hs hown ad y.length cap' (y.map encI) hx (by rw [List.length_map]; omega) (fun j u hu => ?_) (by intro u hu; obtain ⟨t, _, rfl⟩ := List.mem_map.1 hu; rfl) (by unfold maxLen; omega) (by omega) hbase ?_
    · have hj : j < y.length := by
        rcases Nat.lt_or_ge j y.length with h1 | h1
        · exact h1
        · rw [List.getElem?_eq_none (by rw [List.length_map]; exact h1)] at hu; cases hu
      obtain ⟨g', o', e, _, e4, _⟩ := hsr.cell2 (k := j) hj
      cases e
      rw [show (⟨g', o', none⟩ : Addr).add j = ⟨g', o' + j, none⟩ from Addr.add_lit .., e4, ← hu, List.getElem?_map, List.getElem?_eq_getElem hj, List.getD_eq_getElem?_getD, List.getElem?_eq_getElem hj]
      rfl
    · intro v' w' h1 h2 _
      exact h v' w' (by rw [List.map_append]; exact h1) (row_grown hown (Below.refl _ _) h2 hbase) (kept_of_grown hown h2)
set_option maxRecDepth 100000 in
set_option maxHeartbeats 800000 in
theorem concatI_any (L : List (List Int)) (hll : L.length ≤ 4398046511103) (hf1 : 1 ≤ L.flatten.length) (hfl : L.flatten.length ≤ 4398046511103) (v : Value) (w : World) (h : IoAt w v L) : Calls Tryd.prog 99 #[v] w fun e w' => ∃ u, e = .returned u ∧ w'.ownsRow w.heap.size 3 1 u L.flatten.length (L.flatten.map encI) ∧ Below w.heap.size w w' := by
  have HRL := hidD h
  obtain ⟨a, cap, rfl, hc1, hc2, _⟩ := h
  have HPN := hidD (fun r hr => poi_next (L := L) (r := r) hr)
  have HPM := hidD (fun r hr => poi_mono L (r := r) hr)
  have HPA := hidD (poi_all L)
  have HP0 := hidD (poi_zero L)
  have HTK := hidD (fun r hr => takeI_one (L := L) (r := r) hr)
  have HTL : Hid (∀ r, (L.take r).flatten.length = poI L r) := fun _ => rfl
  have HTA : Hid (L.take L.length = L) := List.take_length
  have HFB := hidD hfl
  have HF1 := hidD hf1
  have HGR := hidD (fun w' => growI_any L.flatten.length hf1 (by omega) w')
  clear hf1 hfl
  generalize hFL : L.flatten.length = FL at *
  have HFL := hidD hFL
  clear hFL
  generalize hn : L.length = n at *
  have HN := hidD hn
  clear hn
  go_enter Tryd.func99, Tryd.ntmps99
  go_wp2
  go_loop [3, 11] (fun s i => ∃ k : Nat, k ≤ n ∧ i = .int .i64 k ∧ s = .int .i64 (poI L k)) (fun _ i => n - (intOf i).toNat)
  case atStart => exact ⟨0, Nat.zero_le _, rfl, by rw [HP0.out]; rfl⟩
  case round =>
    obtain ⟨k, hk, rfl, rfl⟩ := hrel
    by_cases hlt : k < n
    · have hlti : (k : Int) < n := by omega
      obtain ⟨g, o, a2, c2, rfl, hg, f0, hsr⟩ := HRL.out.row (k := k) (by rw [HN.out]; exact hlt)
      have HMK := hidD (HPM.out k hlt)
      have HNX := hidD (HPN.out k hlt)
      clear hsr
      generalize (L.getD k []).length = ln at *
      generalize poI L k = P at *
      have hsum : (P : Int) + (ln : Int) ≤ 4398046511103 := by have := HMK.out; have := HFB.out; omega
      go_wp2
      go_round
      case rel => exact ⟨k + 1, by omega, by go_num, by rw [HNX.out]; go_num⟩
      case measure => simp [intOf]; omega
    · obtain rfl : n = k := by omega
      rw [HPA.out]
      go_wp2_with (go_at_call 106; refine (HGR.out _).mono ?_; rintro e w2 ⟨u2, rfl, ho2, hb2⟩; have HO2 := hidD ho2; have HB2 := hidD hb2; clear ho2 hb2)
      obtain ⟨a6, c6, h6⟩ := row_shape HO2.out
      subst h6
      go_loopw [6, 27] (fun r i wr => ∃ k : Nat, k ≤ n ∧ i = .int .i64 k ∧ wr.ownsRow w.heap.size 3 1 r (poI L k) ((L.take k).flatten.map encI) ∧ Below w.heap.size w wr) (fun _ i _ => n - (intOf i).toNat)
      case atStart => exact ⟨0, Nat.zero_le _, rfl, by rw [HP0.out]; exact HO2.out, HB2.out⟩
      case round =>
        obtain ⟨k, hk, rfl, hown, hbel⟩ := hrel
        have HOW := hidD hown
        have HBW := hidD hbel
        obtain ⟨a7, c7, h7⟩ := row_shape hown
        subst h7
        by_cases hlt : k < n
        · have hlti : (k : Int) < n := by omega
          obtain ⟨g, o, a2, c2, rfl, hg, f0, hsr⟩ := HRL.out.row (k := k) (by rw [HN.out]; exact hlt)
          have f2 : wr.cell? ⟨g, o + k, none⟩ = _ := (hbel.cell (p := ⟨g, o + k, none⟩) hg).trans f0
          have HSR := hidD (hsr.below hbel (Nat.le_refl _))
          have HMK := hidD (HPM.out k hlt)
          have HNX := hidD (HPN.out k hlt)
          have HTN := hidD (HTK.out k hlt)
          clear f0 hsr hown hbel
          generalize L.getD k [] = RW at *
          generalize hDN : (L.take k).flatten = DN at *
          have HDN := hidD hDN
          clear hDN
          generalize hln : RW.length = ln at *
          have HLN := hidD hln
          clear hln
          generalize poI L k = P at *
          have hsum : P + ln ≤ 4398046511103 := by have := HMK.out; have := HFB.out; omega
          go_wp2_with (at_builtin; refine wpList_append_nums rfl _ _ rfl w.heap.size (.slice a7 P c7) P DN rfl HOW.out w.heap.size (.slice a2 ln c2) RW rfl HSR.out (by rw [HLN.out]; omega) HBW.out.size ?_; intro v8 w8 h81 h82 h83; have HX1 := hidD h81; have HX2 := hidD (Below.trans HBW.out h82); clear h81 h82 h83)
          go_roundw
          case rel => exact ⟨k + 1, by omega, by go_num, by rw [HNX.out, HTN.out, List.flatten_append, List.flatten_singleton, HDN.out]; rw [HLN.out] at HX1; exact HX1.out, HX2.out⟩
          case measure => simp [intOf]; omega
        · obtain rfl : n = k := by omega
          rw [HTA.out, HPA.out] at HOW
          clear hown hbel
          rw [HPA.out]
          go_wp2
          go_ret
          exact ⟨_, rfl, HOW.out, HBW.out⟩
end Go.Proofs.YtgmbkelmgolkpaaDoor
/- Numbers that are put behind a row of one's own, another row being apart from it. -/
namespace Go.Proofs.YtgmbkelmgolkpaaDoor
open Go.RowKit Go.Maps
set_option linter.unusedVariables false

theorem run_append_zero (ty : TypeId) (g n cap : Nat) (hn : n ≤ cap) (c : Nat) (w : World) : (Builtin.append_ #[43, 43] ty #[.slice (some ⟨g, 0, none⟩) n cap, .slice none 0 c]).run Tryd.prog w = .ok (.slice (some ⟨g, 0, none⟩) n cap) w := by
  obtain ⟨i0, hi, hz0, hz1, hz2⟩ := info_parts Tryd.info3
  simp [Builtin.append_, run_underlying Tryd.underlying43', sizeOf, typeInfo, hi, Builtin.lenOf, Builtin.firstCells, hn, storeCells]
theorem wpList_append_apI {ops : Array Oper} {rest : List Oper} {o : Oper} {a : Act} {Q : Exit → Act → World → Prop} {w : World} (hgd : o.guard = none) (s x : Operand)
    (ho : o.op = .call { callee := .builtin .append, args := #[s, x], argTypes := #[43, 43] }) (base g n cap : Nat) (c : List Int)
    (hs : a.eval s = .slice (some ⟨g, 0, none⟩) n cap) (hown : w.ownsRow base 3 1 (.slice (some ⟨g, 0, none⟩) n cap) n (c.map encI)) (u : Value) (m : Nat) (us : List Value) (hu : w.ownsRow base 3 1 u m us) (hap : u.ownBlock ≠ some g) (sv : Value) (y : List Int) (hx : a.eval x = sv) (hy : IlAt w sv y) (hl : n + y.length ≤ 4398046511104) (hbase : base ≤ w.heap.size)
    (h : ∀ g' cap' w', w'.ownsRow base 3 1 (.slice (some ⟨g', 0, none⟩) (n + y.length) cap') (n + y.length) ((c ++ y).map encI) → w'.ownsRow base 3 1 u m us → u.ownBlock ≠ some g' → Below base w w' → wpList Tryd.prog ops Q rest (a.put o.dst (.slice (some ⟨g', 0, none⟩) (n + y.length) cap')) w') : wpList Tryd.prog ops Q (o :: rest) a w := by
  obtain ⟨i0, hi, hz0, hz1, hz2⟩ := info_parts Tryd.info3
  obtain ⟨sa, sc, rfl, hc1, hc2, hcell⟩ := hy
  by_cases h0 : y.length = 0
  · obtain rfl := List.eq_nil_of_length_eq_zero h0
    have hnc : n ≤ cap := by
      rcases hown.2 with ⟨h1, _⟩ | ⟨_, _, _, hv, _, _, hnc, _⟩
      · cases h1
      · cases hv; exact hnc
    cases sa with
    | none =>
      refine Lib.wpList_append_run w hgd s x 43 43 ho _ _ hs hx _ _ (run_append_zero o.type g n cap hnc sc w) ?_
      exact h g cap w (by simpa using hown) hu hap (Below.refl _ _)
    | some ad =>
      refine wpList_append_fits w hgd s x 43 ho base 3 i0 1 Tryd.underlying43' hi hz1 g n cap (c.map encI) hs hown ad 0 sc [] hx rfl (fun j u hu => by simp at hu) (fun u hu => by cases hu) (by omega) ?_
      intro w' h1 h2
      refine h g cap w' (by simpa using h1) (hu.kept h2 ?_) hap (row_grown hown (Below.refl _ _) h2 hbase)
      cases hob : u.ownBlock with
      | none => exact .inl rfl
      | some k => exact .inr fun e => hap (hob.trans e)
  · obtain ⟨g0, o0, rfl, _, _⟩ := hcell 0 (by omega)
    refine wpList_append_lies w hgd s x 43 ho base 3 i0 _ 1 8 Tryd.underlying43' hi hz0 hz1 hz2 rfl (by decide) _ n (c.map encI) hs hown ⟨g0, o0, none⟩ y.length sc (y.map encI) hx (by rw [List.length_map]; omega) (fun j u hu => ?_) (by intro u hu; obtain ⟨t, _, rfl⟩ := List.mem_map.1 hu; rfl) (by omega) (by unfold maxLen; omega) (by omega) hbase w.heap.size rfl ?_
    · have hj : j < y.length := by
        rcases Nat.lt_or_ge j y.length with h1 | h1
        · exact h1
        · rw [List.getElem?_eq_none (by rw [List.length_map]; exact h1)] at hu; cases hu
      obtain ⟨g', o', e, _, e4⟩ := hcell j hj
      cases e
      rw [Addr.add_lit, e4, ← hu, List.getElem?_map, List.getElem?_eq_getElem hj, List.getD_eq_getElem?_getD, List.getElem?_eq_getElem hj]
      rfl
    · intro g' cap' w' h1 h2 h3 h4
      refine h g' cap' w' (by rw [List.map_append]; exact h1) (hu.kept h2 ?_) ?_ (row_grown hown (Below.refl _ _) h2 hbase)
      · cases hob : u.ownBlock with
        | none => exact .inl rfl
        | some k => exact .inr fun e => hap (hob.trans e)
      · rcases h3 with h3 | h3
        · simp only [Value.ownBlock, Option.some.injEq] at h3
          rw [← h3]; exact hap
        · intro e
          have := (hu.lt _ e).2
          omega
/-- A number that is put behind a row of one's own, another row being apart from it. -/
theorem wpList_append_oneI {ops : Array Oper} {rest : List Oper} {o : Oper} {a : Act} {Q : Exit → Act → World → Prop} {w : World} (hgd : o.guard = none) (s x : Operand)
    (ho : o.op = .call { callee := .builtin .append, args := #[s, x], argTypes := #[43, 43] }) (base : Nat) (v : Value) (n : Nat) (c : List Int)
    (hs : a.eval s = v) (hown : w.ownsRow base 3 1 v n (c.map encI)) (u : Value) (m : Nat) (us : List Value) (hu : w.ownsRow base 3 1 u m us) (hap : Apart v u) (g : Nat) (y : Int) (hx : a.eval x = .slice (some ⟨g, 0, none⟩) 1 1) (hc : w.cell? ⟨g, 0, none⟩ = some (.int .i64 y)) (hl : n ≤ 4398046511104) (hbase : base ≤ w.heap.size)
    (h : ∀ v' w', w'.ownsRow base 3 1 v' (n + 1) ((c ++ [y]).map encI) → w'.ownsRow base 3 1 u m us → Apart v' u → Below base w w' → wpList Tryd.prog ops Q rest (a.put o.dst v') w') : wpList Tryd.prog ops Q (o :: rest) a w := by
  obtain ⟨i0, hi, hz0, hz1, hz2⟩ := info_parts Tryd.info3
  refine wpList_append_lies w hgd s x 43 ho base 3 i0 _ 1 8 Tryd.underlying43' hi hz0 hz1 hz2 rfl (by decide) v n (c.map encI) hs hown ⟨g, 0, none⟩ 1 1 [encI y] hx (by simp) (fun j u hu => ?_) (by intro u hu; rw [List.mem_singleton] at hu; rw [hu]; rfl) (by decide) (by unfold maxLen; omega) (by omega) hbase w.heap.size rfl ?_
  · match j, hu with
    | 0, hu =>
      rw [Go.WideShapes.add_plain]
      simp at hu
      rw [← hu]; exact hc
    | j + 1, hu => simp at hu
  · intro g' cap' w' h1 h2 h3 h4
    refine h _ w' (by rw [List.map_append]; exact h1) (hu.kept h2 ?_) ?_ (row_grown hown (Below.refl _ _) h2 hbase)
    · cases hob : u.ownBlock with
      | none => exact .inl rfl
      | some k => exact .inr fun e => hap k e.symm hob
    · intro k hk
      simp only [Value.ownBlock, Option.some.injEq] at hk
      subst hk
      rcases h3 with h3 | h3
      · exact hap _ h3
      · intro e
        have := (hu.lt _ e).2
        omega
end Go.Proofs.YtgmbkelmgolkpaaDoor
/- What derived answers. -/
namespace Go.Proofs.YtgmbkelmgolkpaaDoor
open Go.RowKit Go.Maps
set_option linter.unusedVariables false

/-- A row of one's own that is turned round. -/
theorem reverse_any {base n : Nat} {v : Value} {B : List Int} (w : World) (h : w.ownsRow base 3 1 v n (B.map encI)) (hn : n = B.length) : Calls Tryd.prog 98 #[v] w fun e w' => e = .returned (.tuple #[]) ∧ IrAt w' w'.heap.size v B.reverse ∧ (∀ b, b < w.heap.size → v.ownBlock ≠ some b → w'.heap[b]? = w.heap[b]?) ∧ Below base w w' := by
  subst hn
  have hown := h
  by_cases h0 : B.length = 0
  · obtain ⟨a, c, hv⟩ := row_shape h
    rw [hv, h0]
    have hB := List.eq_nil_of_length_eq_zero h0
    refine (Tryd.slices_Reverse_int_empty a c w).mono fun e w' ⟨h1, h2⟩ => ⟨h1, ?_, ?_, ?_⟩
    · rw [h2]
      have := ir_of_own h rfl
      rw [hB] at this ⊢
      rw [hv, h0] at this
      exact this
    · rw [h2]; exact fun _ _ _ => rfl
    · rw [h2]; exact Below.refl _ _
  · rcases h.2 with ⟨h1, h2⟩ | ⟨g, cap, cur, rfl, hb, hg, hnc, hcm, hcs, htk⟩
    · exact absurd h2 h0
    · have hc : CsAt w g cur 3 := hg
      have hcell : ∀ j, j < B.length → w.cell? ⟨g, 0 + j, none⟩ = some (.int .i64 (B.getD j 0)) := fun j hj => by
        have := hown.cells (g := g) rfl j (encI (B.getD j 0)) (by rw [List.getElem?_map, List.getElem?_eq_getElem hj, List.getD_eq_getElem?_getD, List.getElem?_eq_getElem hj]; rfl)
        rwa [Addr.add_lit] at this
      refine (Tryd.slices_Reverse_int_cells g 0 B.length cap B w (Nat.le_refl _) (by unfold maxLen at hcm; omega) hcell (fun j _ => hc.frz _)).mono fun e w' ⟨h1, q, h2⟩ => ⟨h1, ?_, ?_, ?_⟩
      · rw [List.take_length] at h2
        have hc2 : CsAt (w.drewN q) g cur 3 := hc
        have hc3 := hc2.puts (B.reverse.map (Value.int .i64)) 0
        rw [← h2] at hc3
        have hl : (B.reverse.map (Value.int .i64)).length = B.length := by rw [List.length_map, List.length_reverse]
        refine ⟨some ⟨g, 0, none⟩, cap, by rw [List.length_reverse], by rw [List.length_reverse]; exact hnc, ⟨by unfold maxLen at hcm; omega, nofun⟩, fun k hk => ⟨g, 0, _, rfl, hc3.lt, hc3, ?_⟩⟩
        rw [List.length_reverse] at hk
        rw [putC_in _ _ _ _ (by omega) (by omega), List.getElem?_map, List.getElem?_eq_getElem (by rw [List.length_reverse]; exact hk), List.getD_eq_getElem?_getD, List.getElem?_eq_getElem (by rw [List.length_reverse]; exact hk)]
        rfl
      · intro b hb2 hne
        rw [h2]
        have : But g (w.drewN q) ((w.drewN q).setCells g 0 ((B.take B.length).reverse.map (Value.int .i64))) := But.puts _ 0 (But.refl _ _)
        exact this.rest b hb2 fun e => hne (by rw [e]; rfl)
      · rw [h2]
        have : But g (w.drewN q) ((w.drewN q).setCells g 0 ((B.take B.length).reverse.map (Value.int .i64))) := But.puts _ 0 (But.refl _ _)
        exact (below_drewN (Below.refl _ _) q).trans (this.bel.mono hb)
def lnV : Value → Nat
  | .slice _ n _ => n
  | _ => 0
theorem strip_more {T : Nat} {s : Int} {r b : List Int} (h : s < (T : Int)) : stripS T (s :: r) b = stripS T r (b ++ [s]) := by rw [stripS, if_pos h]
theorem strip_end {T : Nat} {s : Int} {r b : List Int} (h : ¬ s < (T : Int)) : stripS T (s :: r) b = (s :: r, b) := by rw [stripS, if_neg h]
end Go.Proofs.YtgmbkelmgolkpaaDoor
/- What derived answers. -/
namespace Go.Proofs.YtgmbkelmgolkpaaDoor
open Go.RowKit Go.Maps
set_option linter.unusedVariables false

theorem ir_but {w w' : World} {g c n : Nat} {ss : List Int} (h : IrAt w w.heap.size (.slice (some ⟨g, 0, none⟩) n c) ss) (hk : w'.heap[g]? = w.heap[g]?) (hs : w.heap.size ≤ w'.heap.size) : IrAt w' w'.heap.size (.slice (some ⟨g, 0, none⟩) n c) ss := by
  obtain ⟨a, cap, h1, h2, h3, h4⟩ := h
  refine ⟨a, cap, h1, h2, h3, fun k hk2 => ?_⟩
  obtain ⟨g2, o, cs, e1, e2, e3, e4⟩ := h4 k hk2
  rw [e1] at h1
  cases h1
  exact ⟨g, 0, cs, e1, Nat.lt_of_lt_of_le e2 hs, hk.trans e3, e4⟩
theorem ir_alloc {w : World} {v : Value} {ss : List Int} (h : IrAt w w.heap.size v ss) (o : Obj) : IrAt (w.alloc o) (w.alloc o).heap.size v ss := by
  have hb : Below w.heap.size w (w.alloc o) := (Below.refl _ _).alloc (Nat.le_refl _) o
  obtain ⟨a, cap, h1, h2, h3, h4⟩ := h
  refine ⟨a, cap, h1, h2, h3, fun k hk2 => ?_⟩
  obtain ⟨g2, o, cs, e1, e2, e3, e4⟩ := h4 k hk2
  exact ⟨g2, o, cs, e1, Nat.lt_of_lt_of_le e2 hb.size, (hb.block g2 e2).trans e3, e4⟩
theorem io_two {w : World} {f b : Value} {F B : List Int} (hf : IrAt w w.heap.size f F) (hb : IrAt w w.heap.size b B) : IoAt (w.alloc (.cells #[f, b] (43 : TypeId))) (.slice (some ⟨w.heap.size, 0, none⟩) 2 2) [F, B] := by
  have hc2 : (w.alloc (.cells #[f, b] (43 : TypeId))).heap[w.heap.size]? = some (.cells #[f, b] (43 : TypeId) (0, 0)) := heap_alloc_new _ _
  have h1 := ir_alloc hf (.cells #[f, b] (43 : TypeId))
  have h2 := ir_alloc hb (.cells #[f, b] (43 : TypeId))
  generalize w.alloc (.cells #[f, b] (43 : TypeId)) = w2 at *
  refine ⟨_, 2, rfl, Nat.le_refl _, by omega, fun k hk => ?_⟩
  have hk3 : k < 2 := hk
  have hlt := row_lt hc2
  rcases (show k = 0 ∨ k = 1 by omega) with rfl | rfl
  · exact ⟨w.heap.size, 0, f, rfl, hlt, by rw [World.cell?]; simp [hc2], h1⟩
  · exact ⟨w.heap.size, 0, b, rfl, hlt, by rw [World.cell?]; simp [hc2], h2⟩

set_option maxRecDepth 100000 in
set_option maxHeartbeats 6400000 in
theorem derived_any {p : Nat} (R : List (Nat × List Int)) (n : Nat) (hR : RuOk R n) (hRl : R.length ≤ 1048576) (T : Nat) (hTb : T ≤ 128) (st : Nat) (hst : T ≤ st) (hsb : st < 128) (l : List Int) (hll : l.length ≤ 1099511627776) (hfit : ∀ j, j < l.length → fitS T R st l j = true) (hsz : ∀ j, j ≤ l.length → szTo R l j ≤ 1048576) (h1 : 1 ≤ (dvS T R st l).length) (v vr : Value) (w : World) (hp : p < w.heap.size) (hpt : w.cell? ⟨p, 2, none⟩ = some (.int .i64 (T : Int))) (hps : w.cell? ⟨p, 3, none⟩ = some (.int .i64 (st : Int))) (hpc : w.cell? ⟨p, 4, none⟩ = some vr) (hr : RuAt w vr R) (hl : IlAt w v l) : Calls Tryd.prog 84 #[.pointer (some ⟨p, 0, none⟩), v] w fun e w' => ∃ u, e = .returned u ∧ IlAt w' u (dvS T R st l) ∧ Below w.heap.size w w' := by
  obtain ⟨ar, cr, rfl, hrc⟩ := hr
  have HRC := hidD hrc
  obtain ⟨al, cl, rfl, hlc1, hlc2, hlc⟩ := hl
  have HLC := hidD hlc
  have HPC := hidD hpc
  have HPT := hidD hpt
  have HGP := hidD hp
  have HFIT := hidD hfit
  have HSZ := hidD hsz
  have HDV := hidD (fun k hk => dv_ok (T := T) (R := R) (st := st) (l := l) hst k (fun j hj => hfit j (Nat.lt_of_lt_of_le hj hk)))
  have HDN : Hid (∀ k, dvTo T R st l (k + 1) = stripS T ((rgN R l k).2.reverse ++ (dvTo T R st l k).1.tail) (dvTo T R st l k).2) := fun _ => rfl
  have HD0 : Hid (dvTo T R st l 0 = ([(st : Int)], [])) := rfl
  have HDS : Hid (dvS T R st l = (dvTo T R st l l.length).1.reverse ++ (dvTo T R st l l.length).2.reverse) := rfl
  have HS1 : Hid (∀ k, szTo R l (k + 1) = szTo R l k + (((rgN R l k).2.length : Int) - 1)) := fun _ => rfl
  have HRG : Hid (∀ k, rgN R l k = R.getD (l.getD k 0).toNat (0, [])) := fun _ => rfl
  have HRGL := hidD (fun k => rg_len hR l k)
  have HFP := hidD (fun k (h : fitS T R st l k = true) => fit_parts h)
  have HPN : Hid (∀ k, k ≤ l.length → 1 ≤ (pnTo T R st l k).length → ∃ s r, (dvTo T R st l k).1 = s :: r ∧ (T : Int) ≤ s) := fun k hk hp => by
    obtain ⟨e1, e2, _⟩ := HDV.out k hk
    rcases e2 with e2 | e2
    · rw [e2] at e1; rw [← e1] at hp; exact absurd hp (by show ¬ 1 ≤ 0; decide)
    · exact e2
  have HONE := hidD h1
  have HAL : Hid (∀ (w' : World) o, Below w'.heap.size w' (w'.alloc o)) := fun w' o => (Below.refl _ _).alloc (Nat.le_refl _) o
  have HC0 : Hid (CsAt (w.alloc (.cells #[.int .i64 (st : Int)] (3 : TypeId))) w.heap.size #[.int .i64 (st : Int)] 3) := heap_alloc_new _ _
  have HBA := hidD (HAL.out w (.cells #[.int .i64 (st : Int)] (3 : TypeId)))
  clear hrc hlc hfit hsz h1 hR hpt hpc
  generalize hRn : R.length = rn at *
  have HRN := hidD hRn
  clear hRn
  generalize hLn : l.length = ln at *
  have HLN := hidD hLn
  clear hLn
  go_enter Tryd.func84, Tryd.ntmps84
  go_wp2_with fail
  generalize hw1 : w.alloc (.cells #[.int .i64 (st : Int)] (3 : TypeId)) = w1 at *
  clear hw1
  generalize hB0 : w.heap.size = B0 at *
  have HB0E := hidD hB0
  clear hB0
  have HF0 : Hid (w1.ownsRow B0 3 1 (.slice (some ⟨B0, 0, none⟩) 1 1) 1 ([(st : Int)].map encI)) := full_of_cs HC0.out (Nat.le_refl _) rfl (by decide)
  go_loopw [5, 6, 16] (fun fv bv i wr => ∃ (k g c : Nat) (F B : List Int), k ≤ ln ∧ i = .int .i64 k ∧ fv = .slice (some ⟨g, 0, none⟩) F.length c ∧ wr.ownsRow B0 3 1 fv F.length (F.map encI) ∧ wr.ownsRow B0 3 1 bv B.length (B.map encI) ∧ Apart bv fv ∧ dvTo T R st l k = (F.reverse, B) ∧ Below B0 w wr) (fun _ _ i _ => ln - (intOf i).toNat)
  case atStart => exact ⟨0, B0, 1, [(st : Int)], [], Nat.zero_le _, rfl, rfl, HF0.out, World.ownsRow_nil _ _ _ _, fun g hg => by simp [Value.ownBlock] at hg, HD0.out, HBA.out⟩
  case round =>
    obtain ⟨k, gF, cF, F, B, hk, rfl, rfl, hfo, hbo, hap, hdv, hbel⟩ := hrel
    have HFO := hidD hfo
    have HBO := hidD hbo
    have HAP := hidD hap
    have HDK := hidD hdv
    have HBW := hidD hbel
    obtain ⟨aB, cB, hB⟩ := row_shape hbo
    subst hB
    by_cases hlt : k < ln
    · have hlti : (k : Int) < ln := by omega
      obtain ⟨g0, o0, rfl, hg0, f0⟩ := HLC.out k hlt
      have f1 : wr.cell? ⟨g0, o0 + k, none⟩ = some (.int .i64 (l.getD k 0)) := (hbel.cell (p := ⟨g0, o0 + k, none⟩) hg0).trans f0
      obtain ⟨hx0, hxr, hpn⟩ := HFP.out k (HFIT.out k hlt)
      obtain ⟨xn, hxn⟩ : ∃ xn : Nat, l.getD k 0 = (xn : Int) := ⟨(l.getD k 0).toNat, by omega⟩
      obtain ⟨sL, rL, hsr, _⟩ := HPN.out k hk hpn
      rw [HDK.out] at hsr
      have hFe : F = rL.reverse ++ [sL] := by
        have : F.reverse.reverse = (sL :: rL).reverse := congrArg List.reverse hsr
        rw [List.reverse_reverse, List.reverse_cons] at this
        exact this
      have hFl : F.length = rL.length + 1 := by rw [hFe, List.length_append, List.length_reverse]; rfl
      obtain ⟨gr, orr, rv, har, hgr, hc1, hc2, hil⟩ := HRC.out xn (by omega)
      have HRGK := hidD (HRG.out k)
      rw [hxn, Int.toNat_natCast] at HRGK
      rw [← HRGK.out] at hil
      obtain ⟨a2, c2, hrv⟩ : ∃ a2 c2, rv = .slice a2 (rgN R l k).2.length c2 := by
        obtain ⟨a, c, e, _⟩ := hil
        exact ⟨a, c, e⟩
      subst har
      subst hrv
      rw [hxn] at f1
      have HILW : Hid (IlAt wr (.slice a2 (rgN R l k).2.length c2) (rgN R l k).2) := by
        obtain ⟨a, c, e, e1, e2, e3⟩ := hil
        refine ⟨a, c, e, e1, e2, fun j hj => ?_⟩
        obtain ⟨g, o, d1, d2, d3⟩ := e3 j hj
        rw [HB0E.out] at d2
        exact ⟨g, o, d1, Nat.lt_of_lt_of_le (by rw [HB0E.out]; exact d2) hbel.size, (hbel.cell (p := ⟨g, o + j, none⟩) d2).trans d3⟩
      have r1 : wr.cell? ⟨gr, orr + xn * 2 + 1, none⟩ = some (.slice a2 (rgN R l k).2.length c2) := (hbel.cell (p := ⟨gr, orr + xn * 2 + 1, none⟩) hgr).trans hc2
      have f2 : wr.cell? ⟨p, 4, none⟩ = some (.slice (some ⟨gr, orr, none⟩) rn cr) := (hbel.cell (p := ⟨p, 4, none⟩) HGP.out).trans HPC.out
      have k0 : ∀ i : KB wr [p, gr], i.v.cell? ⟨p, 4, none⟩ = some (.slice (some ⟨gr, orr, none⟩) rn cr) := fun i => (i.cell (b := p) (by simp) _).trans f2
      have k1 : ∀ i : KB wr [p, gr], i.v.cell? ⟨gr, orr + xn * 2 + 1, none⟩ = some (.slice a2 (rgN R l k).2.length c2) := fun i => (i.cell (b := gr) (by simp) _).trans r1
      have hcF : F.length ≤ cF ∧ cF ≤ 9223372036854775807 := by
        rcases hfo.2 with ⟨e, _⟩ | ⟨_, _, _, e, _, _, e1, e2, _⟩
        · cases e
        · cases e; unfold maxLen at e2; exact ⟨e1, by omega⟩
      have HLESS := hidD (row_less hfo (m := rL.length) (by omega) (by simp))
      rw [hFe, ← List.map_take, show rL.length = rL.reverse.length from List.length_reverse.symm, List.take_left, List.length_reverse] at HLESS
      have HNX := hidD (HDN.out k)
      rw [HDK.out, show (F.reverse, B).1.tail = rL by rw [show (F.reverse, B).1 = sL :: rL from hsr]; rfl] at HNX
      have HZ := hidD (HDV.out k hk).2.2
      rw [HDK.out] at HZ
      have HZ1 := hidD (HSZ.out (k + 1) (by omega))
      rw [HS1.out k, ← HZ.out] at HZ1
      have HZ2 : Hid ((rL.length : Int) + (B.length : Int) + ((rgN R l k).2.length : Int) ≤ 1048576) := by
        have h := HZ1.out
        have e1 : ((F.reverse, B).1.length : Int) = (rL.length : Int) + 1 := by show ((F.reverse).length : Int) = _; rw [List.length_reverse]; omega
        have e2 : ((F.reverse, B).2.length : Int) = (B.length : Int) := rfl
        show _ ≤ _
        omega
      have hm2 := HRGL.out k
      have HBAP : Hid ((Value.slice aB B.length cB).ownBlock ≠ some gF) := fun e => HAP.out gF e rfl
      have hxni : (xn : Int) < (rn : Int) := by omega
      clear hfo hbo hap hdv hbel f0 hc1 hc2 hil hx0 hxr hpn hsr hFe r1 f2
      generalize hRRe : (rgN R l k).2 = RR at *
      clear hRRe
      generalize hm : RR.length = m2 at *
      have HM2 := hidD hm
      clear hm
      generalize hbl : B.length = bl at *
      have HBL := hidD hbl
      clear hbl
      generalize hf1 : rL.length = f1n at *
      have HF1N := hidD hf1
      clear hf1
      generalize hfl : F.length = fl at *
      clear hfl
      have hwf : IntKind.i64.wrap ((fl : Int) - 1) = (f1n : Int) := by rw [IntKind.wrap_i64]; have := hcF.1; have := hcF.2; omega
      have hff : (fl : Int) - 1 = (f1n : Int) := by omega
      have hfc : f1n ≤ cF := by omega
      have hc0 : ¬ cF = 0 := by omega
      have hs27 : ∀ w, (Instr.sliceAt 43 (.slice (some ⟨gF, 0, none⟩) fl cF) none (some (.int .i64 (f1n : Int))) none).run Tryd.prog w = .ok (.slice (some ⟨gF, 0, none⟩) f1n cF) w := fun w => sliceH27 gF 0 fl cF f1n (by omega) (by omega) w
      have hbnd : f1n ≤ 1048576 ∧ bl ≤ 1048576 := by have := HZ2.out; omega
      go_wp2_with fail
      refine wp_region_seg [0, 0, 0, 0, 0, 0, 0, 0, 0, 0, 0, 0, 0, 99, 99] 0 13 [p, gr] (by kernel_rfl) (by kernel_rfl) (by kernel_rfl) (by kernel_rfl) (by kernel_rfl) (by kernel_rfl) (by kernel_rfl) (by kernel_rfl) (fun _ _ _ _ _ h => h) ?_
      simp only [SegW, pk, Nat.reduceMul, Nat.reduceBEq, cond_true, cond_false]
      repeat (go_big_quiet_step (fail))
      refine wpQuiet_nil ?_
      clear k0 k1
      go_wp2_with (at_builtin; refine wpList_append_apI rfl _ _ rfl B0 gF f1n cF rL.reverse rfl HLESS.out (.slice aB bl cB) bl (B.map encI) HBO.out HBAP.out (.slice a2 m2 c2) RR rfl HILW.out (by rw [HM2.out]; omega) (by have h := HBW.out.size; have h2 := HB0E.out; show B0 ≤ wr.heap.size; omega) ?_; intro g8 c8 w8 h81 h82 h83 h84; rw [HM2.out] at h81 ⊢; have HX1 := hidD h81; have HX2 := hidD h82; have HX3 := hidD h83; have HX4 : Hid (Below B0 w w8) := (HBW.out.drew).trans h84; clear h81 h82 h83 h84)
      go_loopw [5, 6] (fun fv bv wr => ∃ (g c : Nat) (F' B' : List Int), fv = .slice (some ⟨g, 0, none⟩) F'.length c ∧ wr.ownsRow B0 3 1 fv F'.length (F'.map encI) ∧ wr.ownsRow B0 3 1 bv B'.length (B'.map encI) ∧ Apart bv fv ∧ stripS T F'.reverse B' = dvTo T R st l (k + 1) ∧ F'.length + B'.length ≤ 1048576 ∧ Below B0 w wr) (fun fv _ _ => lnV fv)
      case atStart =>
        have hl0 : (rL.reverse ++ RR).length = f1n + m2 := by rw [List.length_append, List.length_reverse, HF1N.out, HM2.out]
        refine ⟨g8, c8, rL.reverse ++ RR, B, by rw [hl0], by rw [hl0]; exact HX1.out, by rw [HBL.out]; exact HX2.out, fun g hg e => HX3.out (by simp only [Value.ownBlock, Option.some.injEq] at e; rw [e]; exact hg), by rw [HNX.out, List.reverse_append, List.reverse_reverse], by rw [hl0, HBL.out]; have := HZ2.out; omega, HX4.out⟩
      case round =>
        clear HX1 HX2 HX3 HX4 HFO HBO HAP HLESS HBAP hs27 hwf hff hfc hc0
        obtain ⟨gG, cG, F2, B2, rfl, hfo, hbo, hap, hst2, hln2, hbel⟩ := hrel
        have HFO := hidD hfo
        have HBO := hidD hbo
        have HAP := hidD hap
        have HST2 := hidD hst2
        have HLN2 := hidD hln2
        have HBW2 := hidD hbel
        obtain ⟨aB2, cB2, hB2⟩ := row_shape hbo
        subst hB2
        have k2 : ∀ i : KB wr [gG, p], i.v.cell? ⟨p, 2, none⟩ = some (.int .i64 (T : Int)) := fun i => (i.cell (b := p) (by simp) _).trans ((hbel.cell (p := ⟨p, 2, none⟩) HGP.out).trans HPT.out)
        have hcG : F2.length ≤ cG ∧ cG ≤ 9223372036854775807 := by
          rcases hfo.2 with ⟨e, _⟩ | ⟨_, _, _, e, _, _, e1, e2, _⟩
          · cases e
          · cases e; unfold maxLen at e2; exact ⟨e1, by omega⟩
        by_cases h0 : F2.length = 0
        · have hF2 := List.eq_nil_of_length_eq_zero h0
          subst hF2
          have HEND : Hid (dvTo T R st l (k + 1) = ([].reverse, B2)) := by show _ = _; rw [← HST2.out]; rfl
          simp only [List.length_nil] at *
          clear hfo hbo hap hst2 hln2 hbel h0
          generalize hb2 : B2.length = b2l at *
          have HB2L := hidD hb2
          clear hb2
          go_wp2_with fail
          refine wp_region_seg [0, 0, 0, 0, 0, 0, 0, 0, 0, 0, 0, 0, 0, 0, 0, 0] 0 16 [gG, p] (by kernel_rfl) (by kernel_rfl) (by kernel_rfl) (by kernel_rfl) (by kernel_rfl) (by kernel_rfl) (by kernel_rfl) (by kernel_rfl) (fun _ _ _ _ _ h => h) ?_
          simp only [SegW, pk, Nat.reduceMul, Nat.reduceBEq, cond_true, cond_false]
          repeat (go_big_quiet_step (fail))
          refine wpQuiet_nil ?_
          go_wp2_with fail
          go_roundw
          case rel => exact ⟨k + 1, gG, cG, [], B2, by omega, by go_num, rfl, HFO.out, by rw [HB2L.out]; exact HBO.out, HAP.out, HEND.out, HBW2.out.drew⟩
          case measure => simp [intOf]; omega
        · obtain ⟨F3, sy, rfl⟩ := last_of (l := F2) (by omega)
          have hl3 : (F3 ++ [sy]).length = F3.length + 1 := by rw [List.length_append]; rfl
          have fS := hfo.cells (g := gG) rfl F3.length (encI sy) (by rw [List.map_append, List.getElem?_append_right (by rw [List.length_map]; exact Nat.le_refl _), List.length_map, Nat.sub_self]; rfl)
          rw [Addr.add_lit, Nat.zero_add] at fS
          have fS : wr.cell? ⟨gG, F3.length, none⟩ = some (.int .i64 sy) := fS
          have k3 : ∀ i : KB wr [gG, p], i.v.cell? ⟨gG, F3.length, none⟩ = some (.int .i64 sy) := fun i => (i.cell (b := gG) (by simp) _).trans fS
          have HLS := hidD (row_less hfo (m := F3.length) (by omega) (by simp))
          rw [← List.map_take, List.take_left] at HLS
          rw [List.reverse_append] at HST2
          have HST3 : Hid (stripS T (sy :: F3.reverse) B2 = dvTo T R st l (k + 1)) := HST2.out
          have HREV : Hid ((F3 ++ [sy]).reverse = sy :: F3.reverse) := by show _ = _; rw [List.reverse_append]; rfl
          rw [hl3] at HLN2 HFO hcG
          clear hfo hbo hap hst2 hln2 hbel h0 HST2
          generalize hff3 : (F3 ++ [sy]).length = fl2 at *
          have HFF3 := hidD hff3
          clear hff3
          generalize hf3 : F3.length = f3 at *
          have HF3 := hidD hf3
          clear hf3
          generalize hb2 : B2.length = b2l at *
          have HB2L := hidD hb2
          clear hb2
          have hwf : IntKind.i64.wrap ((fl2 : Int) - 1) = (f3 : Int) := by rw [IntKind.wrap_i64]; omega
          have hff : (fl2 : Int) - 1 = (f3 : Int) := by omega
          have hgt : (0 : Int) < (fl2 : Int) := by omega
          have hlt3 : (f3 : Int) < (fl2 : Int) := by omega
          have hgn : 0 < fl2 := by omega
          have hgd : decide (0 < fl2) = true := decide_eq_true hgn
          have hfn : f3 < fl2 := by omega
          have hfc : f3 ≤ cG := by omega
          have hc0 : ¬ cG = 0 := by omega
          rw [← hl3] at HFO
          have HL3 := hidD hl3
          clear hl3
          by_cases hsT : sy < (T : Int)
          · have HNEX : Hid (stripS T F3.reverse (B2 ++ [sy]) = dvTo T R st l (k + 1)) := by show _ = _; rw [← HST3.out, strip_more hsT]
            have hsTd : decide (sy < (T : Int)) = true := decide_eq_true hsT
            go_wp2_with fail
            refine wp_region_seg [0, 0, 0, 0, 0, 0, 0, 0, 0, 0, 0, 0, 0, 0, 0, 0] 0 16 [gG, p] (by kernel_rfl) (by kernel_rfl) (by kernel_rfl) (by kernel_rfl) (by kernel_rfl) (by kernel_rfl) (by kernel_rfl) (by kernel_rfl) (fun _ _ _ _ _ h => h) ?_
            simp only [SegW, pk, Nat.reduceMul, Nat.reduceBEq, cond_true, cond_false]
            repeat (go_big_quiet_step (fail))
            refine wpQuiet_nil ?_
            clear k2 k3
            have HB9 : Hid (B0 ≤ wr.heap.size) := by have h := HBW2.out.size; have h2 := HB0E.out; show _ ≤ _; omega
            have fSd : wr.drew.cell? ⟨gG, f3, none⟩ = some (.int .i64 sy) := fS
            have HAL9 : Hid (∀ o, Below B0 w (wr.drew.alloc o)) := fun o => HBW2.out.drew.alloc HB9.out o
            have HBO9 := hidD (fun o => World.ownsRow.alloc (show wr.drew.ownsRow B0 3 1 (.slice aB2 b2l cB2) b2l (B2.map encI) from HBO.out) o)
            have HFO9 := hidD (fun o => World.ownsRow.alloc (show wr.drew.ownsRow B0 3 1 (.slice (some ⟨gG, 0, none⟩) fl2 cG) fl2 ((F3 ++ [sy]).map encI) from HFO.out) o)
            go_wp2_with (at_builtin; refine wpList_append_oneI rfl _ _ rfl B0 (.slice aB2 b2l cB2) b2l B2 rfl (HBO9.out _) (.slice (some ⟨gG, 0, none⟩) fl2 cG) fl2 ((F3 ++ [sy]).map encI) (HFO9.out _) HAP.out wr.heap.size sy rfl (new_cell1 wr.drew (.int .i64 sy) 3 0 _ rfl) (by have := HLN2.out; omega) (by have := HB9.out; simp; omega) ?_; intro v8 w8 h81 h82 h83 h84; have HX1 := hidD h81; have HX2 := hidD h82; have HX3 := hidD h83; have HX4 := hidD ((HAL9.out _).trans h84); clear h81 h82 h83 h84)
            have hB1 : (B2 ++ [sy]).length = b2l + 1 := by rw [List.length_append, HB2L.out]; rfl
            have hF1 := row_less HX2.out (m := f3) (by omega) (by simp)
            rw [← List.map_take, ← HF3.out, List.take_left, HF3.out] at hF1
            exact ⟨⟨gG, cG, F3, B2 ++ [sy], by rw [HF3.out], by rw [HF3.out]; exact hF1, by rw [hB1]; exact HX1.out, HX3.out, HNEX.out, by rw [hB1, HF3.out]; have := HLN2.out; omega, HX4.out⟩, by simp only [lnV]; exact hfn⟩
          · have HEND : Hid (dvTo T R st l (k + 1) = ((F3 ++ [sy]).reverse, B2)) := by show _ = _; rw [← HST3.out, strip_end hsT, HREV.out]
            have hsTd : decide (sy < (T : Int)) = false := decide_eq_false hsT
            go_wp2_with fail
            refine wp_region_seg [0, 0, 0, 0, 0, 0, 0, 0, 0, 0, 0, 0, 0, 0, 0, 0] 0 16 [gG, p] (by kernel_rfl) (by kernel_rfl) (by kernel_rfl) (by kernel_rfl) (by kernel_rfl) (by kernel_rfl) (by kernel_rfl) (by kernel_rfl) (fun _ _ _ _ _ h => h) ?_
            simp only [SegW, pk, Nat.reduceMul, Nat.reduceBEq, cond_true, cond_false]
            repeat (go_big_quiet_step (fail))
            refine wpQuiet_nil ?_
            go_wp2_with fail
            go_roundw
            case rel => exact ⟨k + 1, gG, cG, F3 ++ [sy], B2, by omega, by go_num, by rw [HFF3.out], by rw [HFF3.out]; exact HFO.out, by rw [HB2L.out]; exact HBO.out, HAP.out, HEND.out, HBW2.out.drew⟩
            case measure => simp [intOf]; omega
    · obtain rfl : ln = k := by omega
      have HIF := hidD (ir_of_own hfo rfl)
      have HBAP : Hid ((Value.slice aB B.length cB).ownBlock ≠ some gF) := fun e => HAP.out gF e rfl
      have HREV := hidD (fun w' (h : w'.heap = wr.heap) => reverse_any (B := B) w' (show w'.ownsRow B0 3 1 (.slice aB B.length cB) B.length (B.map encI) from by have := HBO.out; unfold World.ownsRow at this ⊢; rw [h]; exact this) rfl)
      have HGF : Hid (gF < wr.heap.size) := by
        rcases hfo.2 with ⟨e, _⟩ | ⟨_, _, _, e, _, e1, _⟩
        · cases e
        · cases e; exact row_lt e1
      have HSB := hidD (HDV.out ln hk).2.2
      rw [HDK.out] at HSB
      have HSS := hidD (HSZ.out ln (Nat.le_refl _))
      rw [HDK.out] at HDS
      have HDS2 : Hid (dvS T R st l = F ++ B.reverse) := by have := HDS.out; rw [List.reverse_reverse] at this; exact this
      have HLEN : Hid (F.length + B.length ≤ 1048576) := by
        have h1 := HSS.out
        rw [← HSB.out] at h1
        have e1 : ((F.reverse, B).1.length : Int) = (F.length : Int) := by show ((F.reverse).length : Int) = _; rw [List.length_reverse]
        have e2 : ((F.reverse, B).2.length : Int) = (B.length : Int) := rfl
        show _ ≤ _
        omega
      clear hfo hbo hap hdv hbel HFIT HSZ HDV HDN HD0 HDS HS1 HRG HRGL HFP HPN HSB HSS HAL HC0 HBA HF0 HRC HLC
      generalize hbl : B.length = bl at *
      have HBL := hidD hbl
      clear hbl
      generalize hfl : F.length = fl at *
      have HFL := hidD hfl
      clear hfl
      have HFLT : Hid (([F, B.reverse] : List (List Int)).flatten = dvS T R st l) := by show _ = _; rw [HDS2.out]; simp
      have HDL : Hid ((dvS T R st l).length ≤ 1048576) := by have := HLEN.out; show _ ≤ _; rw [HDS2.out, List.length_append, List.length_reverse, HFL.out, HBL.out]; exact this
      go_wp2_with first
        | (go_at_call 98; refine (HREV.out _ rfl).mono ?_; rintro e w5 ⟨rfl, h1, h2, h3⟩; have HI5 := hidD h1; have HK5 := hidD (h2 gF (by simpa using HGF.out) HBAP.out); have HS5 := hidD h3.size; have HB5 := hidD (HBW.out.trans h3); clear h1 h2 h3)
        | (go_at_call 99; refine (concatI_any [F, B.reverse] (by simp) (by rw [HFLT.out]; exact HONE.out) (by rw [HFLT.out]; have := HDL.out; omega) _ _ (io_two (ir_but HIF.out HK5.out HS5.out) HI5.out)).mono ?_; rintro e w6 ⟨u6, rfl, h1, h2⟩; rw [HFLT.out] at h1; have HI6 := hidD (il_of_own h1); have HB6 : Hid (Below B0 w w6) := by
            have hz : B0 ≤ w5.heap.size := by have h := HB5.out.size; have h2 := HB0E.out; omega
            exact (HB5.out.alloc hz _).trans (h2.mono (by rw [alloc_size]; omega))
           clear h1 h2)
      refine bodyPost_ret (v := u6) (by simp [results, Tryd.results84, go_sem]) rfl ?_
      exact ⟨_, rfl, HI6.out, by rw [HB0E.out]; exact HB6.out⟩
end Go.Proofs.YtgmbkelmgolkpaaDoor
