/- Texts of one proof, one behind the other. -/
import Derived.Test.YtgmbkelmgolkpabDoorGq
import Derived.Lib.AppendZeros
import Derived.Test.YtgmbkelmgolkpabDoorNwa
import Derived.Test.YtgmbkelmgolkpabDoorShelf
/- Plain: what comes of the start by rules that fit. -/
namespace Go.Proofs.YtgmbkelmgolkpabDoor
open Go.RowKit Go.Maps
set_option linter.unusedVariables false

/-- Terminals at the end (the front turned round) go behind the back. -/
def stripS (T : Nat) : List Int → List Int → List Int × List Int
  | [], b => ([], b)
  | s :: r, b => if s < (T : Int) then stripS T r (b ++ [s]) else (s :: r, b)
def dvTo (T : Nat) (R : List (Nat × List Int)) (st : Nat) (l : List Int) : Nat → List Int × List Int
  | 0 => ([(st : Int)], [])
  | k + 1 => stripS T ((rgN R l k).2.reverse ++ (dvTo T R st l k).1.tail) (dvTo T R st l k).2
def dvS (T : Nat) (R : List (Nat × List Int)) (st : Nat) (l : List Int) : List Int := (dvTo T R st l l.length).1.reverse ++ (dvTo T R st l l.length).2.reverse
theorem in_app (T : Nat) (a b : List Int) : inS T (a ++ b) = inS T a ++ inS T b := by unfold inS; rw [List.filter_append]
theorem strip_in (T : Nat) : ∀ f b, inS T (stripS T f b).1.reverse = inS T f.reverse
  | [], b => rfl
  | s :: r, b => by
    rw [stripS]
    split
    · rename_i h
      rw [strip_in T r, List.reverse_cons, in_app]
      have : inS T [s] = [] := by unfold inS; simp [List.filter_cons]; omega
      rw [this, List.append_nil]
    · rfl
theorem strip_head (T : Nat) : ∀ f b, (stripS T f b).1 = [] ∨ ∃ s r, (stripS T f b).1 = s :: r ∧ (T : Int) ≤ s
  | [], b => .inl rfl
  | s :: r, b => by
    rw [stripS]
    split
    · exact strip_head T r _
    · rename_i h; exact .inr ⟨s, r, rfl, by omega⟩
theorem strip_len (T : Nat) : ∀ f b, (stripS T f b).1.length + (stripS T f b).2.length = f.length + b.length
  | [], b => rfl
  | s :: r, b => by
    rw [stripS]
    split
    · rw [strip_len T r, List.length_append, List.length_singleton, List.length_cons]; omega
    · rfl
theorem fit_parts {T : Nat} {R : List (Nat × List Int)} {st : Nat} {l : List Int} {k : Nat} (h : fitS T R st l k = true) : 0 ≤ l.getD k 0 ∧ l.getD k 0 < (R.length : Int) ∧ 1 ≤ (pnTo T R st l k).length := by
  unfold fitS at h
  simp only [Bool.and_eq_true, decide_eq_true_eq] at h
  exact ⟨h.1.1.1, h.1.1.2, h.1.2⟩
theorem dv_ok {T : Nat} {R : List (Nat × List Int)} {st : Nat} {l : List Int} (hst : T ≤ st) : ∀ k, (∀ j, j < k → fitS T R st l j = true) → inS T (dvTo T R st l k).1.reverse = pnTo T R st l k ∧ ((dvTo T R st l k).1 = [] ∨ ∃ s r, (dvTo T R st l k).1 = s :: r ∧ (T : Int) ≤ s) ∧ (((dvTo T R st l k).1.length : Int) + ((dvTo T R st l k).2.length : Int) = szTo R l k)
  | 0, _ => by
    refine ⟨?_, .inr ⟨st, [], rfl, by omega⟩, rfl⟩
    show inS T [(st : Int)] = [(st : Int)]
    unfold inS
    rw [List.filter_cons, if_pos (by simp; omega)]
    rfl
  | k + 1, h => by
    obtain ⟨h1, h2, h3⟩ := dv_ok hst k (fun j hj => h j (by omega))
    have hp := (fit_parts (h k (by omega))).2.2
    rcases h2 with h2 | ⟨s, r, h2, hs⟩
    · rw [h2] at h1
      rw [← h1] at hp
      exact absurd hp (by show ¬ 1 ≤ 0; decide)
    · have hd : dvTo T R st l (k + 1) = stripS T ((rgN R l k).2.reverse ++ (dvTo T R st l k).1.tail) (dvTo T R st l k).2 := rfl
      have ht : (dvTo T R st l k).1.tail = r := by rw [h2]; rfl
      rw [hd, ht]
      have hi : inS T [s] = [s] := by unfold inS; rw [List.filter_cons, if_pos (by simp; omega)]; rfl
      refine ⟨?_, strip_head T _ _, ?_⟩
      · rw [strip_in, List.reverse_append, List.reverse_reverse, in_app]
        show _ = (pnTo T R st l k).dropLast ++ inS T (rgN R l k).2
        rw [← h1, h2, List.reverse_cons, in_app, hi, List.dropLast_concat]
      · have hl := strip_len T ((rgN R l k).2.reverse ++ r) (dvTo T R st l k).2
        rw [List.length_append, List.length_reverse] at hl
        rw [h2, List.length_cons] at h3
        show _ = szTo R l k + (((rgN R l k).2.length : Int) - 1)
        omega
end Go.Proofs.YtgmbkelmgolkpabDoor
/- What slices.Grow and slices.Concat answer at numbers. -/
namespace Go.Proofs.YtgmbkelmgolkpabDoor
open Go.RowKit Go.Maps
set_option linter.unusedVariables false

def poI (L : List (List Int)) (r : Nat) : Nat := (L.take r).flatten.length
theorem poi_zero (L : List (List Int)) : poI L 0 = 0 := by simp [poI]
theorem takeI_one {L : List (List Int)} {r : Nat} (hr : r < L.length) : L.take (r + 1) = L.take r ++ [L.getD r []] := by
  rw [List.take_succ_eq_append_getElem hr, List.getD_eq_getElem?_getD, List.getElem?_eq_getElem hr]; rfl
theorem poi_next {L : List (List Int)} {r : Nat} (hr : r < L.length) : poI L (r + 1) = poI L r + (L.getD r []).length := by
  unfold poI
  rw [takeI_one hr, List.flatten_append, List.flatten_singleton, List.length_append]
theorem poi_all (L : List (List Int)) : poI L L.length = L.flatten.length := by unfold poI; rw [List.take_length]
theorem poi_mono (L : List (List Int)) {r : Nat} (hr : r < L.length) : poI L r + (L.getD r []).length ≤ L.flatten.length := by
  rw [← poi_next hr]
  unfold poI
  conv => rhs; rw [← List.take_append_drop (r + 1) L, List.flatten_append, List.length_append]
  omega
theorem poi_get {L : List (List Int)} {r j : Nat} (hr : r < L.length) (hj : j < (L.getD r []).length) : L.flatten.getD (poI L r + j) 0 = (L.getD r []).getD j 0 := by
  have h1 : L = L.take r ++ (L.getD r [] :: L.drop (r + 1)) := by
    conv => lhs; rw [← List.take_append_drop r L, List.drop_eq_getElem_cons hr]
    rw [List.getD_eq_getElem?_getD, List.getElem?_eq_getElem hr]; rfl
  have h2 : L.flatten = (L.take r).flatten ++ (L.getD r [] ++ (L.drop (r + 1)).flatten) := by
    conv => lhs; rw [h1]
    rw [List.flatten_append, List.flatten_cons]
  rw [h2, List.getD_eq_getElem?_getD, List.getElem?_append_right (by unfold poI; omega)]
  unfold poI
  rw [Nat.add_sub_cancel_left, List.getElem?_append_left hj, ← List.getD_eq_getElem?_getD]
theorem IrAt.cell2 {w : World} {B n cap : Nat} {a : Option Addr} {ss : List Int} (h : IrAt w B (.slice a n cap) ss) {k : Nat} (hk : k < ss.length) : ∃ g o, a = some ⟨g, o, none⟩ ∧ g < w.heap.size ∧ w.cell? ⟨g, o + k, none⟩ = some (.int .i64 (ss.getD k 0)) ∧ ss.length ≤ cap := by
  obtain ⟨a2, cap2, h1, h0, _, h2⟩ := h
  cases h1
  obtain ⟨g, o, cs, e1, e2, e3, e4⟩ := h2 k hk
  exact ⟨g, o, e1, row_lt e3, (cell_of_row _ _ _ _ _ _ e3).trans e4, h0⟩
/-- Rows of numbers in memory. -/
def IoAt (w : World) (v : Value) (L : List (List Int)) : Prop := ∃ a cap, v = .slice a L.length cap ∧ L.length ≤ cap ∧ cap ≤ 9223372036854775807 ∧ ∀ k, k < L.length → ∃ g o u, a = some ⟨g, o, none⟩ ∧ g < w.heap.size ∧ w.cell? ⟨g, o + k, none⟩ = some u ∧ IrAt w w.heap.size u (L.getD k [])
theorem IoAt.row {w : World} {n cap : Nat} {a : Option Addr} {L : List (List Int)} (h : IoAt w (.slice a n cap) L) {k : Nat} (hk : k < L.length) : ∃ g o a2 c2, a = some ⟨g, o, none⟩ ∧ g < w.heap.size ∧ w.cell? ⟨g, o + k, none⟩ = some (.slice a2 (L.getD k []).length c2) ∧ IrAt w w.heap.size (.slice a2 (L.getD k []).length c2) (L.getD k []) := by
  obtain ⟨a', cap', e, _, _, h3⟩ := h
  cases e
  obtain ⟨g, o, u, e1, e2, e3, e4⟩ := h3 k hk
  obtain ⟨a2, c2, rfl⟩ := e4.shape
  exact ⟨g, o, a2, c2, e1, e2, e3, e4⟩
set_option maxRecDepth 100000 in
set_option maxHeartbeats 1600000 in
theorem growI_any (n : Nat) (h1 : 1 ≤ n) (hn : n ≤ 4398046511104) (w : World) : Calls Tryd.prog 67 #[.slice none 0 0, .int .i64 n] w fun e w' => ∃ u, e = .returned u ∧ w'.ownsRow w.heap.size 3 1 u 0 [] ∧ Below w.heap.size w w' := by
  obtain ⟨i0, hi, hz0, hz1, hz2⟩ := info_parts Tryd.info3
  have hr := fun ty => Lib.run_append_nil_zeros (P := Tryd.prog) w 27 3 ty 3 i0 _ .i64 .i64 Tryd.underlying27' Tryd.under3 hi hz0 n (by omega) (by rw [hz1]; decide) (by omega) (by rw [hz2]; omega)
  have HR := hidD hr
  have hge := grownCap_ge w n 0 3
  have hcm : grownCap w n 0 3 ≤ maxLen := grownCap_le_maxLen w n 0 3 (by unfold maxLen; omega)
  have HOW : Hid ((w.drew.alloc (.cells (Builtin.zeroCells (Value.int .i64 0).cells n ++ Builtin.zeroCells (Value.int .i64 0).cells (grownCap w n 0 3 - n)) 3)).ownsRow w.heap.size 3 1 (.slice (some ⟨w.heap.size, 0, none⟩) 0 (grownCap w n 0 3)) 0 []) := by
    refine World.ownsRow_made (base := w.heap.size) (e := 3) (size := 1) w.drew _ (grownCap w n 0 3) (Nat.le_refl _) hcm ?_
    rw [Array.size_append, size_zeroCells, size_zeroCells]
    show n * 1 + (grownCap w n 0 3 - n) * 1 = _
    omega
  have HBL : Hid (∀ o, Below w.heap.size w (w.drew.alloc o)) := fun o => ((Below.refl _ _).drew).alloc (Nat.le_refl _) o
  unfold maxLen at hcm
  generalize hC : grownCap w n 0 3 = C at *
  clear hC hr
  have hC0 : ¬ C = 0 := by omega
  have hni : (1 : Int) ≤ n := by omega
  go_enter Tryd.func67, Tryd.ntmps67
  go_wp2_with (at_builtin; refine Lib.wpList_append_run w rfl _ _ 27 3 rfl (.slice none 0 0) (.int .i64 n) rfl rfl _ _ (HR.out _) ?_)
  go_ret
  exact ⟨_, rfl, HOW.out, HBL.out _⟩
theorem wpList_append_nums {ops : Array Oper} {rest : List Oper} {o : Oper} {a : Act} {Q : Exit → Act → World → Prop} {w : World} (hgd : o.guard = none) (s x : Operand)
    (ho : o.op = .call { callee := .builtin .append, args := #[s, x], argTypes := #[27, 27] }) (base : Nat) (v : Value) (n : Nat) (c : List Int)
    (hs : a.eval s = v) (hown : w.ownsRow base 3 1 v n (c.map encI)) (B : Nat) (u : Value) (y : List Int) (hx : a.eval x = u) (hsr : IrAt w B u y) (hl : n + y.length ≤ 4398046511104) (hbase : base ≤ w.heap.size)
    (h : ∀ v' w', w'.ownsRow base 3 1 v' (n + y.length) ((c ++ y).map encI) → Below base w w' → Kept 3 w w' → wpList Tryd.prog ops Q rest (a.put o.dst v') w') : wpList Tryd.prog ops Q (o :: rest) a w := by
  obtain ⟨i0, hi, hz0, hz1, hz2⟩ := info_parts Tryd.info3
  have hsr' := hsr
  obtain ⟨a', cap', rfl, hcc, ⟨hc2, hc3⟩, hcl⟩ := hsr'
  cases a' with
  | none =>
    obtain rfl := hc3 rfl
    have h0 : y.length = 0 := by omega
    obtain rfl := List.eq_nil_of_length_eq_zero h0
    refine wpList_append_own_none hgd s x 27 ho base 3 i0 1 Tryd.underlying27' hi v n (c.map encI) hs hown hx ?_
    exact h v w (by simpa using hown) (Below.refl _ _) fun _ _ _ => rfl
  | some ad =>
    refine wpList_append_own w hgd s x 27 ho base 3 i0 _ 1 8 Tryd.underlying27' hi hz0 hz1 hz2 rfl (by decide) v n (c.map encI) hs hown ad y.length cap' (y.map encI) hx (by rw [List.length_map]; omega) (fun j u hu => ?_) (by intro u hu; obtain ⟨t, _, rfl⟩ := List.mem_map.1 hu; rfl) (by unfold maxLen; omega) (by omega) hbase ?_
    · have hj : j < y.length := by
        rcases Nat.lt_or_ge j y.length with h1 | h1
        · exact h1
        · rw [List.getElem?_eq_none (by rw [List.length_map]; exact h1)] at hu; cases hu
      obtain ⟨g', o', e, _, e4, _⟩ := hsr.cell2 (k := j) hj
      cases e
      rw [show (⟨g', o', none⟩ : Addr).add j = ⟨g', o' + j, none⟩ from Addr.add_lit .., e4, ← hu, List.getElem?_map, List.getElem?_eq_getElem hj, List.getD_eq_getElem?_getD, List.getElem?_eq_getElem hj]
      rfl
    · intro v' w' h1 h2 _
      exact h v' w' (by rw [List.map_append]; exact h1) (row_grown hown (Below.refl _ _) h2 hbase) (kept_of_grown hown h2)
set_option maxRecDepth 100000 in
set_option maxHeartbeats 800000 in
theorem concatI_any (L : List (List Int)) (hll : L.length ≤ 4398046511103) (hf1 : 1 ≤ L.flatten.length) (hfl : L.flatten.length ≤ 4398046511103) (v : Value) (w : World) (h : IoAt w v L) : Calls Tryd.prog 59 #[v] w fun e w' => ∃ u, e = .returned u ∧ w'.ownsRow w.heap.size 3 1 u L.flatten.length (L.flatten.map encI) ∧ Below w.heap.size w w' := by
  have HRL := hidD h
  obtain ⟨a, cap, rfl, hc1, hc2, _⟩ := h
  have HPN := hidD (fun r hr => poi_next (L := L) (r := r) hr)
  have HPM := hidD (fun r hr => poi_mono L (r := r) hr)
  have HPA := hidD (poi_all L)
  have HP0 := hidD (poi_zero L)
  have HTK := hidD (fun r hr => takeI_one (L := L) (r := r) hr)
  have HTL : Hid (∀ r, (L.take r).flatten.length = poI L r) := fun _ => rfl
  have HTA : Hid (L.take L.length = L) := List.take_length
  have HFB := hidD hfl
  have HF1 := hidD hf1
  have HGR := hidD (fun w' => growI_any L.flatten.length hf1 (by omega) w')
  clear hf1 hfl
  generalize hFL : L.flatten.length = FL at *
  have HFL := hidD hFL
  clear hFL
  generalize hn : L.length = n at *
  have HN := hidD hn
  clear hn
  go_enter Tryd.func59, Tryd.ntmps59
  go_wp2
  go_loop [3, 11] (fun s i => ∃ k : Nat, k ≤ n ∧ i = .int .i64 k ∧ s = .int .i64 (poI L k)) (fun _ i => n - (intOf i).toNat)
  case atStart => exact ⟨0, Nat.zero_le _, rfl, by rw [HP0.out]; rfl⟩
  case round =>
    obtain ⟨k, hk, rfl, rfl⟩ := hrel
    by_cases hlt : k < n
    · have hlti : (k : Int) < n := by omega
      obtain ⟨g, o, a2, c2, rfl, hg, f0, hsr⟩ := HRL.out.row (k := k) (by rw [HN.out]; exact hlt)
      have HMK := hidD (HPM.out k hlt)
      have HNX := hidD (HPN.out k hlt)
      clear hsr
      generalize (L.getD k []).length = ln at *
      generalize poI L k = P at *
      have hsum : (P : Int) + (ln : Int) ≤ 4398046511103 := by have := HMK.out; have := HFB.out; omega
      go_wp2
      go_round
      case rel => exact ⟨k + 1, by omega, by go_num, by rw [HNX.out]; go_num⟩
      case measure => simp [intOf]; omega
    · obtain rfl : n = k := by omega
      rw [HPA.out]
      go_wp2_with (go_at_call 67; refine (HGR.out _).mono ?_; rintro e w2 ⟨u2, rfl, ho2, hb2⟩; have HO2 := hidD ho2; have HB2 := hidD hb2; clear ho2 hb2)
      obtain ⟨a6, c6, h6⟩ := row_shape HO2.out
      subst h6
      go_loopw [6, 27] (fun r i wr => ∃ k : Nat, k ≤ n ∧ i = .int .i64 k ∧ wr.ownsRow w.heap.size 3 1 r (poI L k) ((L.take k).flatten.map encI) ∧ Below w.heap.size w wr) (fun _ i _ => n - (intOf i).toNat)
      case atStart => exact ⟨0, Nat.zero_le _, rfl, by rw [HP0.out]; exact HO2.out, HB2.out⟩
      case round =>
        obtain ⟨k, hk, rfl, hown, hbel⟩ := hrel
        have HOW := hidD hown
        have HBW := hidD hbel
        obtain ⟨a7, c7, h7⟩ := row_shape hown
        subst h7
        by_cases hlt : k < n
        · have hlti : (k : Int) < n := by omega
          obtain ⟨g, o, a2, c2, rfl, hg, f0, hsr⟩ := HRL.out.row (k := k) (by rw [HN.out]; exact hlt)
          have f2 : wr.cell? ⟨g, o + k, none⟩ = _ := (hbel.cell (p := ⟨g, o + k, none⟩) hg).trans f0
          have HSR := hidD (hsr.below hbel (Nat.le_refl _))
          have HMK := hidD (HPM.out k hlt)
          have HNX := hidD (HPN.out k hlt)
          have HTN := hidD (HTK.out k hlt)
          clear f0 hsr hown hbel
          generalize L.getD k [] = RW at *
          generalize hDN : (L.take k).flatten = DN at *
          have HDN := hidD hDN
          clear hDN
          generalize hln : RW.length = ln at *
          have HLN := hidD hln
          clear hln
          generalize poI L k = P at *
          have hsum : P + ln ≤ 4398046511103 := by have := HMK.out; have := HFB.out; omega
          go_wp2_with (at_builtin; refine wpList_append_nums rfl _ _ rfl w.heap.size (.slice a7 P c7) P DN rfl HOW.out w.heap.size (.slice a2 ln c2) RW rfl HSR.out (by rw [HLN.out]; omega) HBW.out.size ?_; intro v8 w8 h81 h82 h83; have HX1 := hidD h81; have HX2 := hidD (Below.trans HBW.out h82); clear h81 h82 h83)
          go_roundw
          case rel => exact ⟨k + 1, by omega, by go_num, by rw [HNX.out, HTN.out, List.flatten_append, List.flatten_singleton, HDN.out]; rw [HLN.out] at HX1; exact HX1.out, HX2.out⟩
          case measure => simp [intOf]; omega
        · obtain rfl : n = k := by omega
          rw [HTA.out, HPA.out] at HOW
          clear hown hbel
          rw [HPA.out]
          go_wp2
          go_ret
          exact ⟨_, rfl, HOW.out, HBW.out⟩
end Go.Proofs.YtgmbkelmgolkpabDoor
/- Numbers that are put behind a row of one's own, another row being apart from it. -/
namespace Go.Proofs.YtgmbkelmgolkpabDoor
open Go.RowKit Go.Maps
set_option linter.unusedVariables false

theorem run_append_zero (ty : TypeId) (g n cap : Nat) (hn : n ≤ cap) (c : Nat) (w : World) : (Builtin.append_ #[27, 27] ty #[.slice (some ⟨g, 0, none⟩) n cap, .slice none 0 c]).run Tryd.prog w = .ok (.slice (some ⟨g, 0, none⟩) n cap) w := by
  obtain ⟨i0, hi, hz0, hz1, hz2⟩ := info_parts Tryd.info3
  simp [Builtin.append_, run_underlying Tryd.underlying27', sizeOf, typeInfo, hi, Builtin.lenOf, Builtin.firstCells, hn, storeCells]
theorem wpList_append_apI {ops : Array Oper} {rest : List Oper} {o : Oper} {a : Act} {Q : Exit → Act → World → Prop} {w : World} (hgd : o.guard = none) (s x : Operand)
    (ho : o.op = .call { callee := .builtin .append, args := #[s, x], argTypes := #[27, 27] }) (base g n cap : Nat) (c : List Int)
    (hs : a.eval s = .slice (some ⟨g, 0, none⟩) n cap) (hown : w.ownsRow base 3 1 (.slice (some ⟨g, 0, none⟩) n cap) n (c.map encI)) (u : Value) (m : Nat) (us : List Value) (hu : w.ownsRow base 3 1 u m us) (hap : u.ownBlock ≠ some g) (sv : Value) (y : List Int) (hx : a.eval x = sv) (hy : IlAt w sv y) (hl : n + y.length ≤ 4398046511104) (hbase : base ≤ w.heap.size)
    (h : ∀ g' cap' w', w'.ownsRow base 3 1 (.slice (some ⟨g', 0, none⟩) (n + y.length) cap') (n + y.length) ((c ++ y).map encI) → w'.ownsRow base 3 1 u m us → u.ownBlock ≠ some g' → Below base w w' → wpList Tryd.prog ops Q rest (a.put o.dst (.slice (some ⟨g', 0, none⟩) (n + y.length) cap')) w') : wpList Tryd.prog ops Q (o :: rest) a w := by
  obtain ⟨i0, hi, hz0, hz1, hz2⟩ := info_parts Tryd.info3
  obtain ⟨sa, sc, rfl, hc1, hc2, hcell⟩ := hy
  by_cases h0 : y.length = 0
  · obtain rfl := List.eq_nil_of_length_eq_zero h0
    have hnc : n ≤ cap := by
      rcases hown.2 with ⟨h1, _⟩ | ⟨_, _, _, hv, _, _, hnc, _⟩
      · cases h1
      · cases hv; exact hnc
    cases sa with
    | none =>
      refine Lib.wpList_append_run w hgd s x 27 27 ho _ _ hs hx _ _ (run_append_zero o.type g n cap hnc sc w) ?_
      exact h g cap w (by simpa using hown) hu hap (Below.refl _ _)
    | some ad =>
      refine wpList_append_fits w hgd s x 27 ho base 3 i0 1 Tryd.underlying27' hi hz1 g n cap (c.map encI) hs hown ad 0 sc [] hx rfl (fun j u hu => by simp at hu) (fun u hu => by cases hu) (by omega) ?_
      intro w' h1 h2
      refine h g cap w' (by simpa using h1) (hu.kept h2 ?_) hap (row_grown hown (Below.refl _ _) h2 hbase)
      cases hob : u.ownBlock with
      | none => exact .inl rfl
      | some k => exact .inr fun e => hap (hob.trans e)
  · obtain ⟨g0, o0, rfl, _, _⟩ := hcell 0 (by omega)
    refine wpList_append_lies w hgd s x 27 ho base 3 i0 _ 1 8 Tryd.underlying27' hi hz0 hz1 hz2 rfl (by decide) _ n (c.map encI) hs hown ⟨g0, o0, none⟩ y.length sc (y.map encI) hx (by rw [List.length_map]; omega) (fun j u hu => ?_) (by intro u hu; obtain ⟨t, _, rfl⟩ := List.mem_map.1 hu; rfl) (by omega) (by unfold maxLen; omega) (by omega) hbase w.heap.size rfl ?_
    · have hj : j < y.length := by
        rcases Nat.lt_or_ge j y.length with h1 | h1
        · exact h1
        · rw [List.getElem?_eq_none (by rw [List.length_map]; exact h1)] at hu; cases hu
      obtain ⟨g', o', e, _, e4⟩ := hcell j hj
      cases e
      rw [Addr.add_lit, e4, ← hu, List.getElem?_map, List.getElem?_eq_getElem hj, List.getD_eq_getElem?_getD, List.getElem?_eq_getElem hj]
      rfl
    · intro g' cap' w' h1 h2 h3 h4
      refine h g' cap' w' (by rw [List.map_append]; exact h1) (hu.kept h2 ?_) ?_ (row_grown hown (Below.refl _ _) h2 hbase)
      · cases hob : u.ownBlock with
        | none => exact .inl rfl
        | some k => exact .inr fun e => hap (hob.trans e)
      · rcases h3 with h3 | h3
        · simp only [Value.ownBlock, Option.some.injEq] at h3
          rw [← h3]; exact hap
        · intro e
          have := (hu.lt _ e).2
          omega
/-- A number that is put behind a row of one's own, another row being apart from it. -/
theorem wpList_append_oneI {ops : Array Oper} {rest : List Oper} {o : Oper} {a : Act} {Q : Exit → Act → World → Prop} {w : World} (hgd : o.guard = none) (s x : Operand)
    (ho : o.op = .call { callee := .builtin .append, args := #[s, x], argTypes := #[27, 27] }) (base : Nat) (v : Value) (n : Nat) (c : List Int)
    (hs : a.eval s = v) (hown : w.ownsRow base 3 1 v n (c.map encI)) (u : Value) (m : Nat) (us : List Value) (hu : w.ownsRow base 3 1 u m us) (hap : Apart v u) (g : Nat) (y : Int) (hx : a.eval x = .slice (some ⟨g, 0, none⟩) 1 1) (hc : w.cell? ⟨g, 0, none⟩ = some (.int .i64 y)) (hl : n ≤ 4398046511104) (hbase : base ≤ w.heap.size)
    (h : ∀ v' w', w'.ownsRow base 3 1 v' (n + 1) ((c ++ [y]).map encI) → w'.ownsRow base 3 1 u m us → Apart v' u → Below base w w' → wpList Tryd.prog ops Q rest (a.put o.dst v') w') : wpList Tryd.prog ops Q (o :: rest) a w := by
  obtain ⟨i0, hi, hz0, hz1, hz2⟩ := info_parts Tryd.info3
  refine wpList_append_lies w hgd s x 27 ho base 3 i0 _ 1 8 Tryd.underlying27' hi hz0 hz1 hz2 rfl (by decide) v n (c.map encI) hs hown ⟨g, 0, none⟩ 1 1 [encI y] hx (by simp) (fun j u hu => ?_) (by intro u hu; rw [List.mem_singleton] at hu; rw [hu]; rfl) (by decide) (by unfold maxLen; omega) (by omega) hbase w.heap.size rfl ?_
  · match j, hu with
    | 0, hu =>
      rw [Go.WideShapes.add_plain]
      simp at hu
      rw [← hu]; exact hc
    | j + 1, hu => simp at hu
  · intro g' cap' w' h1 h2 h3 h4
    refine h _ w' (by rw [List.map_append]; exact h1) (hu.kept h2 ?_) ?_ (row_grown hown (Below.refl _ _) h2 hbase)
    · cases hob : u.ownBlock with
      | none => exact .inl rfl
      | some k => exact .inr fun e => hap k e.symm hob
    · intro k hk
      simp only [Value.ownBlock, Option.some.injEq] at hk
      subst hk
      rcases h3 with h3 | h3
      · exact hap _ h3
      · intro e
        have := (hu.lt _ e).2
        omega
end Go.Proofs.YtgmbkelmgolkpabDoor
/- What derived answers. -/
namespace Go.Proofs.YtgmbkelmgolkpabDoor
open Go.RowKit Go.Maps
set_option linter.unusedVariables false

/-- A row of one's own that is turned round. -/
theorem reverse_any {base n : Nat} {v : Value} {B : List Int} (w : World) (h : w.ownsRow base 3 1 v n (B.map encI)) (hn : n = B.length) : Calls Tryd.prog 58 #[v] w fun e w' => e = .returned (.tuple #[]) ∧ IrAt w' w'.heap.size v B.reverse ∧ (∀ b, b < w.heap.size → v.ownBlock ≠ some b → w'.heap[b]? = w.heap[b]?) ∧ Below base w w' := by
  subst hn
  have hown := h
  by_cases h0 : B.length = 0
  · obtain ⟨a, c, hv⟩ := row_shape h
    rw [hv, h0]
    have hB := List.eq_nil_of_length_eq_zero h0
    refine (Tryd.slices_Reverse_int_empty a c w).mono fun e w' ⟨h1, h2⟩ => ⟨h1, ?_, ?_, ?_⟩
    · rw [h2]
      have := ir_of_own h rfl
      rw [hB] at this ⊢
      rw [hv, h0] at this
      exact this
    · rw [h2]; exact fun _ _ _ => rfl
    · rw [h2]; exact Below.refl _ _
  · rcases h.2 with ⟨h1, h2⟩ | ⟨g, cap, cur, rfl, hb, hg, hnc, hcm, hcs, htk⟩
    · exact absurd h2 h0
    · have hc : CsAt w g cur 3 := hg
      have hcell : ∀ j, j < B.length → w.cell? ⟨g, 0 + j, none⟩ = some (.int .i64 (B.getD j 0)) := fun j hj => by
        have := hown.cells (g := g) rfl j (encI (B.getD j 0)) (by rw [List.getElem?_map, List.getElem?_eq_getElem hj, List.getD_eq_getElem?_getD, List.getElem?_eq_getElem hj]; rfl)
        rwa [Addr.add_lit] at this
      refine (Tryd.slices_Reverse_int_cells g 0 B.length cap B w (Nat.le_refl _) (by unfold maxLen at hcm; omega) hcell (fun j _ => hc.frz _)).mono fun e w' ⟨h1, q, h2⟩ => ⟨h1, ?_, ?_, ?_⟩
      · rw [List.take_length] at h2
        have hc2 : CsAt (w.drewN q) g cur 3 := hc
        have hc3 := hc2.puts (B.reverse.map (Value.int .i64)) 0
        rw [← h2] at hc3
        have hl : (B.reverse.map (Value.int .i64)).length = B.length := by rw [List.length_map, List.length_reverse]
        refine ⟨some ⟨g, 0, none⟩, cap, by rw [List.length_reverse], by rw [List.length_reverse]; exact hnc, ⟨by unfold maxLen at hcm; omega, nofun⟩, fun k hk => ⟨g, 0, _, rfl, hc3.lt, hc3, ?_⟩⟩
        rw [List.length_reverse] at hk
        rw [putC_in _ _ _ _ (by omega) (by omega), List.getElem?_map, List.getElem?_eq_getElem (by rw [List.length_reverse]; exact hk), List.getD_eq_getElem?_getD, List.getElem?_eq_getElem (by rw [List.length_reverse]; exact hk)]
        rfl
      · intro b hb2 hne
        rw [h2]
        have : But g (w.drewN q) ((w.drewN q).setCells g 0 ((B.take B.length).reverse.map (Value.int .i64))) := But.puts _ 0 (But.refl _ _)
        exact this.rest b hb2 fun e => hne (by rw [e]; rfl)
      · rw [h2]
        have : But g (w.drewN q) ((w.drewN q).setCells g 0 ((B.take B.length).reverse.map (Value.int .i64))) := But.puts _ 0 (But.refl _ _)
        exact (below_drewN (Below.refl _ _) q).trans (this.bel.mono hb)
def lnV : Value → Nat
  | .slice _ n _ => n
  | _ => 0
theorem strip_more {T : Nat} {s : Int} {r b : List Int} (h : s < (T : Int)) : stripS T (s :: r) b = stripS T r (b ++ [s]) := by rw [stripS, if_pos h]
theorem strip_end {T : Nat} {s : Int} {r b : List Int} (h : ¬ s < (T : Int)) : stripS T (s :: r) b = (s :: r, b) := by rw [stripS, if_neg h]
end Go.Proofs.YtgmbkelmgolkpabDoor
