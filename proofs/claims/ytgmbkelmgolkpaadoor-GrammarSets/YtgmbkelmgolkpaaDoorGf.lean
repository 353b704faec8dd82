/- Texts of one proof, one behind the other. -/
import Derived.Test.YtgmbkelmgolkpaaDoorRfm
import Derived.Deep.CutRange
/- What the document's Find answers. -/
namespace Go.Proofs.YtgmbkelmgolkpaaDoor
open Go.RowKit Go.Maps
set_option linter.unusedVariables false

theorem at_lt (L : List Tx) (x : Tx) : -1 ≤ atS L x ∧ atS L x < (L.length : Int) := by
  by_cases h : x ∈ L
  · obtain ⟨j, h1, h2, _⟩ := at_mem h
    rw [h2]; omega
  · have h1 := (at_neg L x).2 h
    rcases at_spec L x L.length (Nat.le_refl _) with ⟨h2, _⟩ | ⟨j, h2, h3, _⟩
    · unfold atS; rw [h2]; omega
    · unfold atS at h1; omega
/-- The document's grammar: its four cells. -/
def RgC (w : World) (p : Nat) (v0 v1 v2 : Value) (s : Int) : Prop := w.heap[p]? = some (.cells #[v0, v1, v2, .int .i64 s] (78 : TypeId) (0, 0))
theorem RgC.cells {w : World} {p : Nat} {v0 v1 v2 : Value} {s : Int} (h : RgC w p v0 v1 v2 s) : w.cell? ⟨p, 0, none⟩ = some v0 ∧ w.cell? ⟨p, 1, none⟩ = some v1 ∧ w.cell? ⟨p, 2, none⟩ = some v2 ∧ w.cell? ⟨p, 3, none⟩ = some (.int .i64 s) :=
  ⟨(cell_of_row _ _ _ _ _ _ h).trans rfl, (cell_of_row _ _ _ _ _ _ h).trans rfl, (cell_of_row _ _ _ _ _ _ h).trans rfl, (cell_of_row _ _ _ _ _ _ h).trans rfl⟩
theorem RgC.next {w w' : World} {p : Nat} {v0 v1 v2 : Value} {s : Int} (h : RgC w p v0 v1 v2 s) (hb : Below w.heap.size w w') : RgC w' p v0 v1 v2 s := (hb.block p (row_lt h)).trans h
set_option maxRecDepth 100000 in
set_option maxHeartbeats 1600000 in
theorem refFind_any (T O : List Tx) (hT : T.length ≤ 4398046511104) (hO : O.length ≤ 4398046511104) (x : Tx) (p B : Nat) (v0 v1 v2 : Value) (s : Int) (w : World) (hp : RgC w p v0 v1 v2 s) (h0 : SrAt w B v0 T) (h1 : SrAt w B v1 O) : Calls Tryd.prog 14 #[.pointer (some ⟨p, 0, none⟩), encT x] w fun e w' => e = .returned (.int .i64 (dfS T O x)) ∧ w' = w := by
  have HA0 : Hid (Calls Tryd.prog 46 #[v0, encT x] w fun e w' => e = .returned (.int .i64 (atS T x)) ∧ w' = w) := refAt_any T hT B v0 x w h0
  have HA1 : Hid (Calls Tryd.prog 46 #[v1, encT x] w fun e w' => e = .returned (.int .i64 (atS O x)) ∧ w' = w) := refAt_any O hO B v1 x w h1
  obtain ⟨a0, k0, rfl⟩ := h0.shape
  obtain ⟨a1, k1, rfl⟩ := h1.shape
  obtain ⟨c0, c1, _, _⟩ := hp.cells
  have l0 := at_lt T x
  have l1 := at_lt O x
  have HD : Hid (dfS T O x = if x = tEnd then (T.length : Int) else if 0 ≤ atS T x then atS T x else if 0 ≤ atS O x then (T.length : Int) + 1 + atS O x else -1) := rfl
  have hq : ((bA x).toList == [36]) = decide (x = tEnd) := by
    rw [ba_list, Bool.eq_iff_iff, beq_iff_eq, decide_eq_true_eq]; rfl
  clear h0 h1 hp
  unfold encT at *
  generalize dfS T O x = R at *
  generalize T.length = n at *
  generalize O.length = m at *
  generalize atS T x = i at *
  generalize atS O x = j at *
  by_cases hx : x = tEnd
  · have hR := HD.out
    rw [if_pos hx] at hR
    subst hR
    rw [decide_eq_true hx] at hq
    clear HD HA0 HA1 hx
    generalize bA x = X at *
    go_enter Tryd.func14, Tryd.ntmps14
    go_wp2_with fail
    go_ret
    exact ⟨rfl, rfl⟩
  · rw [decide_eq_false hx] at hq
    by_cases hi : 0 ≤ i
    · have hid : decide (0 ≤ i) = true := decide_eq_true hi
      have hR := HD.out
      rw [if_neg hx, if_pos hi] at hR
      subst hR
      clear HD HA1 hx
      generalize bA x = X at *
      go_enter Tryd.func14, Tryd.ntmps14
      go_wp2_with (go_at_call 46; refine HA0.out.mono ?_; rintro e w1 ⟨rfl, rfl⟩)
      go_ret
      exact ⟨rfl, rfl⟩
    · have hid : decide (0 ≤ i) = false := decide_eq_false hi
      by_cases hj : 0 ≤ j
      · have hR := HD.out
        rw [if_neg hx, if_neg hi, if_pos hj] at hR
        subst hR
        have hjd : decide (0 ≤ j) = true := decide_eq_true hj
        have hb1 : (n : Int) + 1 ≤ 9223372036854775807 := by omega
        have hb2 : (n : Int) + 1 + j ≤ 9223372036854775807 := by omega
        clear HD hx
        generalize bA x = X at *
        go_enter Tryd.func14, Tryd.ntmps14
        go_wp2_with (first | (go_at_call 46; have := m0; clear this; refine HA1.out.mono ?_; rintro e w2 ⟨rfl, rfl⟩) | (go_at_call 46; refine HA0.out.mono ?_; clear HA0; rintro e w1 ⟨rfl, rfl⟩; have m0 := trivial))
        go_ret
        exact ⟨by go_num, rfl⟩
      · have hR := HD.out
        rw [if_neg hx, if_neg hi, if_neg hj] at hR
        subst hR
        have hjd : decide (0 ≤ j) = false := decide_eq_false hj
        clear HD hx
        generalize bA x = X at *
        go_enter Tryd.func14, Tryd.ntmps14
        go_wp2_with (first | (go_at_call 46; have := m0; clear this; refine HA1.out.mono ?_; rintro e w2 ⟨rfl, rfl⟩) | (go_at_call 46; refine HA0.out.mono ?_; clear HA0; rintro e w1 ⟨rfl, rfl⟩; have m0 := trivial))
        go_ret
        exact ⟨rfl, rfl⟩
end Go.Proofs.YtgmbkelmgolkpaaDoor
/- The document's grammar in memory; a rule put behind its rules. -/
namespace Go.Proofs.YtgmbkelmgolkpaaDoor
open Go.RowKit Go.Maps
set_option linter.unusedVariables false

theorem Tryd.info80 : (Tryd.prog.info? 80).map (fun i => (i.zero, i.size, i.bytes)) = some (some (.agg #[.int .i64 0, .slice none 0 0]), 2, 32) := by kernel_rfl
theorem Tryd.under76 : Tryd.prog.underlying 76 = some (.slice 80) := by kernel_rfl
theorem wpList_append_drule {ops : Array Oper} {rest : List Oper} {o : Oper} {a : Act} {Q : Exit → Act → World → Prop} {w : World} (hgd : o.guard = none) (s x : Operand)
    (ho : o.op = .call { callee := .builtin .append, args := #[s, x], argTypes := #[76, 76] }) (base : Nat) (v : Value) (n : Nat) (xs : List Value)
    (hs : a.eval s = v) (hown : w.ownsRow base 80 2 v n xs) (g : Nat) (y z : Value) (hx : a.eval x = .slice (some ⟨g, 0, none⟩) 1 1) (hc : w.cell? ⟨g, 0, none⟩ = some y) (hc2 : w.cell? ⟨g, 1, none⟩ = some z) (hy : y.oneCell' = true) (hz : z.oneCell' = true) (hl : n ≤ 4398046511103) (hbase : base ≤ w.heap.size)
    (h : ∀ v' w', w'.ownsRow base 80 2 v' (n + 1) (xs ++ [y, z]) → Below base w w' → Kept 80 w w' → w.grownBy w' v.ownBlock → wpList Tryd.prog ops Q rest (a.put o.dst v') w') : wpList Tryd.prog ops Q (o :: rest) a w := by
  obtain ⟨i0, hi, hz0, hz1, hz2⟩ := info_parts Tryd.info80
  refine wpList_append_own w hgd s x 76 ho base 80 i0 _ 2 32 Tryd.under76 hi hz0 hz1 hz2 rfl (by decide) v n xs hs hown ⟨g, 0, none⟩ 1 1 [y, z] hx (by simp) (fun j u hu => ?_) (by intro u hu; simp only [List.mem_cons, List.not_mem_nil, or_false] at hu; rcases hu with rfl | rfl <;> assumption) (by unfold maxLen; omega) (by omega) hbase ?_
  · rw [Addr.add_lit]
    match j, hu with
    | 0, hu => simp at hu; rw [← hu]; exact hc
    | 1, hu => simp at hu; rw [← hu]; exact hc2
    | j + 2, hu => simp at hu
  · intro v' w' h1 h2 _
    exact h v' w' h1 (row_grown hown (Below.refl _ _) h2 hbase) (kept_of_grown hown h2) h2
/-- The rules with the document's numbers. -/
def dnF (T O : List Tx) (r : List Tx) : Nat × List Int := ((dfS T O (r.getD 0 [])).toNat, (r.drop 1).map (dfS T O))
/-- The document's grammar. -/
def RgAt (w : World) (p : Nat) (T O : List Tx) (R : List (Nat × List Int)) (s : Int) : Prop :=
  ∃ v0 v1 v2 base xs, RgC w p v0 v1 v2 s ∧ SrAt w p v0 T ∧ SrAt w p v1 O ∧ w.ownsRow base 80 2 v2 R.length xs ∧ RuB w w.heap.size xs R
theorem RgAt.next {w w' : World} {p : Nat} {T O : List Tx} {R : List (Nat × List Int)} {s : Int} (h : RgAt w p T O R s) (hb : Below w.heap.size w w') : RgAt w' p T O R s := by
  obtain ⟨v0, v1, v2, base, xs, h1, h2, h3, h4, h5⟩ := h
  exact ⟨v0, v1, v2, base, xs, h1.next hb, h2.next hb, h3.next hb, row_below h4 hb, (h5.next hb).mono hb.size⟩
theorem own_none (w : World) (b : Nat) (e : TypeId) (k : Nat) : w.ownsRow b e k (.slice none 0 0) 0 [] := ⟨by simp, .inl ⟨rfl, rfl⟩⟩
theorem own_empty (w : World) : (w.alloc (.cells #[] (9 : TypeId))).ownsRow w.heap.size 9 1 (.slice (some ⟨w.heap.size, 0, none⟩) 0 0) 0 [] :=
  ⟨rfl, .inr ⟨w.heap.size, 0, #[], rfl, Nat.le_refl _, heap_alloc_new _ _, Nat.le_refl _, Nat.zero_le _, rfl, rfl⟩⟩
end Go.Proofs.YtgmbkelmgolkpaaDoor
/- What the document's assembled answers. -/
namespace Go.Proofs.YtgmbkelmgolkpaaDoor
open Go.RowKit Go.Maps
set_option linter.unusedVariables false

theorem own_put {w : World} {base e k n : Nat} {v : Value} {xs : List Value} (h : w.ownsRow base e k v n xs) {g : Nat} (hg : g < base) (i : Nat) (u : Value) : (w.setCell ⟨g, i, none⟩ u).ownsRow base e k v n xs := by
  refine ⟨h.1, ?_⟩
  rcases h.2 with h0 | ⟨b, cap, cur, hv, hb, hc, hr⟩
  · exact .inl h0
  · exact .inr ⟨b, cap, cur, hv, hb, (heap_setCell_other w ⟨g, i, none⟩ b u (by show b ≠ g; omega)).trans hc, hr⟩
theorem below_setCell {B g : Nat} {a w : World} (h : Below B a w) (hg : B ≤ g) (k : Nat) (v : Value) : Below B a (w.setCell ⟨g, k, none⟩ v) := h.setCell (p := ⟨g, k, none⟩) hg v
theorem ru_put {w : World} {B p : Nat} {xs : List Value} {R : List (Nat × List Int)} (h : RuB w B xs R) {v0 v1 v2 : Value} {s : Int} (hp : RgC w p v0 v1 v2 s) (i : Nat) (u : Value) : RuB (w.setCell ⟨p, i, none⟩ u) B xs R := ⟨h.1, fun k hk => by
  obtain ⟨rv, h1, h2, h3⟩ := h.2 k hk
  refine ⟨rv, h1, h2, h3.kept fun g _ _ ⟨cs, hc⟩ => heap_setCell_other w ⟨p, i, none⟩ g u (fun e => ?_)⟩
  have e' : g = p := e
  rw [e', show w.heap[p]? = _ from hp] at hc
  cases hc⟩
theorem rl_cell {w : World} {a : Option Addr} {n cap : Nat} {L : List (List Tx)} (h : RlAt w (.slice a n cap) L) {k : Nat} (hk : k < L.length) : ∃ g o u, a = some ⟨g, o, none⟩ ∧ g < w.heap.size ∧ w.cell? ⟨g, o + k, none⟩ = some u ∧ SrAt w w.heap.size u (L.getD k []) := by
  obtain ⟨a', c', e, _, _, h4⟩ := h
  cases e
  exact h4 k hk
theorem rq_cell {w : World} {a : Option Addr} {n cap : Nat} {L : List (List Tx)} (h : RqAt w (.slice a n cap) L) {k : Nat} (hk : k < L.length) : ∃ g o u, a = some ⟨g, o, none⟩ ∧ g < w.heap.size ∧ w.cell? ⟨g, o + k, none⟩ = some u ∧ StAt w w.heap.size u (L.getD k []) := by
  obtain ⟨a', c', e, _, _, h4⟩ := h
  cases e
  exact h4 k hk
set_option maxRecDepth 100000 in
set_option maxHeartbeats 6400000 in
theorem assembled_own (T O : List Tx) (hT : T.length ≤ 4398046511000) (hO : O.length ≤ 4398046511000) (s : Tx) (L : List (List Tx)) (hll : L.length ≤ 4398046511000) (hpos : ∀ r ∈ L, 1 ≤ r.length ∧ r.length ≤ 1048576) (hdf : ∀ r ∈ L, 0 ≤ dfS T O (r.getD 0 [])) (Bt Bo : Nat) (v0 v1 v3 : Value) (w : World) (h0 : StAt w Bt v0 T) (h1 : StAt w Bo v1 O) (h3 : RqAt w v3 L) :
    Calls Tryd.prog 47 #[v0, v1, encT s, v3] w fun e w' => ∃ p, e = .returned (.pointer (some ⟨p, 0, none⟩)) ∧ w.heap.size ≤ p ∧ RgAt w' p T O (L.map (dnF T O)) (atS O s) ∧ Below w.heap.size w w' ∧ FarS w.heap.size w' p 0 ∧ FarS w.heap.size w' p 1 := by
  have HT := hidD h0
  have HO := hidD h1
  have HL := hidD h3
  have HPOS := hidD hpos
  have HDF := hidD hdf
  have HAT : Hid (∀ wB : World, Below w.heap.size w wB → Calls Tryd.prog 46 #[v1, encT s] wB fun e w' => e = .returned (.int .i64 (atS O s)) ∧ w' = wB) := fun wB hb => refAt_st O (by omega) Bo v1 s wB (h1.next hb)
  have HFI : Hid (∀ (x : Tx) (p : Nat) (vT vO u2 : Value) (wB : World), RgC wB p vT vO u2 (atS O s) → SrAt wB p vT T → SrAt wB p vO O → Calls Tryd.prog 14 #[.pointer (some ⟨p, 0, none⟩), encT x] wB fun e w' => e = .returned (.int .i64 (dfS T O x)) ∧ w' = wB) := fun x p vT vO u2 wB k1 k2 k3 => refFind_any T O (by omega) (by omega) x p p vT vO u2 (atS O s) wB k1 k2 k3
  have HA : Hid (∀ o, Below w.heap.size w (w.alloc o)) := fun o => (Below.refl _ _).alloc (Nat.le_refl _) o
  have HAA : Hid (∀ (wB : World) o, Below wB.heap.size wB (wB.alloc o)) := fun wB o => (Below.refl _ _).alloc (Nat.le_refl _) o
  obtain ⟨a0, c0, rfl⟩ := h0.shape
  obtain ⟨a1, c1, rfl⟩ := h1.shape
  obtain ⟨a3, c3, rfl, hc31, hc32, hc33⟩ := h3
  clear h0 h1 hc33 hpos hdf
  unfold encT at HAT
  unfold encT
  generalize hS : bA s = SS at *
  clear hS
  generalize hSS : atS O s = S at *
  clear hSS
  generalize hnT : T.length = nT at *
  generalize hnO : O.length = nO at *
  generalize hnL : L.length = nL at *
  have HNT := hidD hnT
  have HNO := hidD hnO
  have HNL := hidD hnL
  clear hnT hnO hnL
  go_enter Tryd.func47, Tryd.ntmps47
  go_wp2_with (first
    | (go_at_call 46; refine (HAT.out _ (Below.next HB1.out hbO)).mono ?_; rintro e w9 ⟨rfl, rfl⟩)
    | (at_builtin; have := M1; clear this; refine wpList_append_st rfl _ _ rfl wA.heap.size (.slice (some ⟨wA.heap.size, 0, none⟩) 0 0) 0 [] rfl (own_empty wA) Bo (.slice a1 nO c1) O rfl (HO.out.next (Below.next HB1.out (HAA.out wA _))) (by rw [HNO.out]; omega) (by simp) ?_; intro vO wB hoO hbO' hkO; rw [HNO.out, Nat.zero_add] at hoO; have HOO := hidD hoO; obtain ⟨aO, cO, hvO⟩ := row_shape hoO; subst hvO; have hbO := Below.trans (HAA.out wA (.cells #[] (9 : TypeId))) hbO'; clear hoO hbO' hkO)
    | (at_builtin; refine wpList_append_st rfl _ _ rfl w.heap.size (.slice (some ⟨w.heap.size, 0, none⟩) 0 0) 0 [] rfl (own_empty w) Bt (.slice a0 nT c0) T rfl (HT.out.next (HA.out _)) (by rw [HNT.out]; omega) (by simp) ?_; intro vT wA hoT hbT hkT; rw [HNT.out, Nat.zero_add] at hoT; have HOT := hidD hoT; obtain ⟨aT, cT, hvT⟩ := row_shape hoT; subst hvT; have HB1 := hidD (Below.trans (HA.out (.cells #[] (9 : TypeId))) hbT); have M1 := trivial; clear hoT hbT hkT))
  have HST : Hid (SrAt w9 w9.heap.size (.slice aT nT cT) T) := ((sr_of_own (ss := T) HOT.out HNT.out.symm).next hbO).all
  have HSO : Hid (SrAt w9 w9.heap.size (.slice aO nO cO) O) := sr_of_own (ss := O) HOO.out HNO.out.symm
  have HB9 := hidD (Below.next HB1.out hbO)
  have HFT := hidD (own_far HOT.out)
  have HFO : Hid (∀ g o, aO = some ⟨g, o, none⟩ → w.heap.size ≤ g) := fun g o h => Nat.le_trans HB1.out.size (own_far HOO.out g o h)
  have HP0 : Hid (RgC (w9.alloc (.cells #[.slice aT nT cT, .slice aO nO cO, .slice none 0 0, .int .i64 S] 78)) w9.heap.size (.slice aT nT cT) (.slice aO nO cO) (.slice none 0 0) S) := heap_alloc_new _ _
  clear HT HO HAT HOT HOO HB1 hbO M1 HA
  go_loopw [10, 11, 12] (fun i _ _ wr => ∃ (k : Nat) (u2 : Value) (xs : List Value), k ≤ nL ∧ i = .int .i64 k ∧ RgC wr w9.heap.size (.slice aT nT cT) (.slice aO nO cO) u2 S ∧ wr.ownsRow (w9.heap.size + 1) 80 2 u2 k xs ∧ RuB wr wr.heap.size xs ((L.map (dnF T O)).take k) ∧ Below w9.heap.size w9 wr) (fun i _ _ _ => nL - (intOf i).toNat)
  case atStart => exact ⟨0, _, [], Nat.zero_le _, rfl, HP0.out, own_none _ _ _ _, RuB.nil _ _, HAA.out _ _⟩
  case round =>
    obtain ⟨k, u2, xs, hk, rfl, hrg, how, hru, hbel⟩ := hrel
    have HRG := hidD hrg
    have HOW := hidD how
    have HRU := hidD hru
    have HBE := hidD hbel
    have HBW := hidD (Below.next HB9.out hbel)
    clear hrg how hru hbel HP0
    by_cases hlt : k < nL
    · have hlti : (k : Int) < (nL : Int) := by omega
      obtain ⟨g3, o3, u, e4, hg3, f3, hsr⟩ := rq_cell (HL.out.next HBW.out) (k := k) (by rw [HNL.out]; exact hlt)
      subst e4
      have hrm : L.getD k [] ∈ L := by rw [List.getD_eq_getElem?_getD, List.getElem?_eq_getElem (by rw [HNL.out]; exact hlt)]; exact List.getElem_mem _
      obtain ⟨hr1, hr2⟩ := HPOS.out _ hrm
      have HD0 := hidD (HDF.out _ hrm)
      have HTK : Hid ((L.map (dnF T O)).take (k + 1) = (L.map (dnF T O)).take k ++ [dnF T O (L.getD k [])]) := map_take (by rw [HNL.out]; exact hlt)
      clear hrm
      obtain ⟨ar, cr, rfl⟩ := hsr.shape
      have HSR := hidD hsr
      obtain ⟨gr, or, rfl, hgr, _, f0⟩ := hsr.cell (k := 0) hr1
      have HF1 : Hid (Calls Tryd.prog 14 #[.pointer (some ⟨w9.heap.size, 0, none⟩), .string (bA ((L.getD k []).getD 0 []))] wr fun e w' => e = .returned (.int .i64 (((dfS T O ((L.getD k []).getD 0 [])).toNat : Nat) : Int)) ∧ w' = wr) := by
        have := HFI.out ((L.getD k []).getD 0 []) w9.heap.size _ _ u2 wr HRG.out (HST.out.next HBE.out) (HSO.out.next HBE.out)
        rw [Int.toNat_of_nonneg HD0.out]
        exact this
      unfold encT at f0
      rw [Nat.add_zero] at f0
      have HLF : Hid (dnF T O (L.getD k []) = ((dfS T O ((L.getD k []).getD 0 [])).toNat, ((L.getD k []).drop 1).map (dfS T O))) := rfl
      have hl1 : (dfS T O ((L.getD k []).getD 0 [])).toNat ≤ 9000000000000 := by
        have h1 := at_lt T ((L.getD k []).getD 0 [])
        have h2 := at_lt O ((L.getD k []).getD 0 [])
        rw [HNT.out] at h1
        rw [HNO.out] at h2
        unfold dfS
        rw [HNT.out]
        split
        · omega
        · split
          · omega
          · split <;> omega
      clear hsr HD0
      generalize L.getD k [] = r at *
      generalize (dfS T O (r.getD 0 [])).toNat = l at *
      generalize bA (r.getD 0 []) = X0 at *
      generalize hnr : r.length = nr at *
      have HNR := hidD hnr
      clear hnr
      have hr1i : (0 : Int) < (nr : Int) := by omega
      go_wp2_with (go_at_call 14; refine HF1.out.mono ?_; rintro e w5 ⟨rfl, he⟩; have he' := he.symm; subst he')
      obtain ⟨wk, hwk⟩ : ∃ wk, wk = wr := ⟨_, rfl⟩
      subst hwk
      have HQ0 : Hid (CsAt (wk.alloc (.cells #[.int .i64 (l : Int), .slice none 0 0] (80 : TypeId))) wk.heap.size #[.int .i64 (l : Int), .slice none 0 0] 80) := heap_alloc_new _ _
      clear HF1 f0
      go_loopw [12] (fun i wi => ∃ (j : Nat) (rv : Value), 1 ≤ j ∧ j ≤ nr ∧ i = .int .i64 j ∧ CsAt wi wk.heap.size #[.int .i64 (l : Int), rv] 80 ∧ wi.ownsRow (wk.heap.size + 1) 3 1 rv (j - 1) ((((r.drop 1).map (dfS T O)).take (j - 1)).map encI) ∧ Below wk.heap.size wk wi) (fun i _ => nr - (intOf i).toNat)
      case atStart => exact ⟨1, _, Nat.le_refl _, by omega, rfl, HQ0.out, own_none _ _ _ _, HAA.out _ _⟩
      case round =>
        obtain ⟨j, rv, hj1, hj, rfl, hq, hov, hbi⟩ := hrel
        have HQ := hidD hq
        have HOV := hidD hov
        have HBI := hidD hbi
        clear hov HQ0
        have f3i : wr.cell? ⟨g3, o3 + k, none⟩ = some (.slice (some ⟨gr, or, none⟩) nr cr) := (hbi.cell (p := ⟨g3, o3 + k, none⟩) hg3).trans f3
        by_cases hjl : j < nr
        · have hjli : (j : Int) < (nr : Int) := by omega
          obtain ⟨gr', or', e5, hgr', _, fj0⟩ := HSR.out.cell (k := j) (by rw [HNR.out]; exact hjl)
          cases e5
          have fj : wr.cell? ⟨gr, or + j, none⟩ = some (.string (bA (r.getD j []))) := (hbi.cell (p := ⟨gr, or + j, none⟩) hgr).trans fj0
          have HFj : Hid (∀ wB, Below wr.heap.size wr wB → Calls Tryd.prog 14 #[.pointer (some ⟨w9.heap.size, 0, none⟩), .string (bA (r.getD j []))] wB fun e w' => e = .returned (.int .i64 (dfS T O (r.getD j []))) ∧ w' = wB) := fun wB hb => HFI.out (r.getD j []) w9.heap.size _ _ u2 wB ((HRG.out.next HBI.out).next hb) (((HST.out.next HBE.out).next HBI.out).next hb) (((HSO.out.next HBE.out).next HBI.out).next hb)
          have HST2 : Hid ((((r.drop 1).map (dfS T O)).take (j - 1 + 1)).map encI = (((r.drop 1).map (dfS T O)).take (j - 1)).map encI ++ [encI (dfS T O (r.getD j []))]) := by
            show _ = _
            rw [mapv_take (by rw [List.length_drop, HNR.out]; omega), List.map_append, show (r.drop 1).getD (j - 1) [] = r.getD j [] by rw [List.getD_eq_getElem?_getD, List.getD_eq_getElem?_getD, List.getElem?_drop, show 1 + (j - 1) = j by omega]]
            rfl
          obtain ⟨av, cv, hrv⟩ := row_shape HOV.out
          subst hrv
          have q1 : wr.cell? ⟨wk.heap.size, 1, none⟩ = some (.slice av (j - 1) cv) := hq.cell 1
          generalize hxs : (((r.drop 1).map (dfS T O)).take (j - 1)).map encI = XS at *
          clear hxs fj0 hq
          generalize bA (r.getD j []) = XJ at *
          generalize dfS T O (r.getD j []) = Y at *
          have gQ : ∀ i : KB wr [wk.heap.size, g3, gr], i.v.cell? ⟨wk.heap.size, 1, none⟩ = some (.slice av (j - 1) cv) := fun i => (i.cell (b := wk.heap.size) (by simp) _).trans q1
          have g3f : ∀ i : KB wr [wk.heap.size, g3, gr], i.v.cell? ⟨g3, o3 + k, none⟩ = some (.slice (some ⟨gr, or, none⟩) nr cr) := fun i => (i.cell (b := g3) (by simp) _).trans f3i
          have grf : ∀ i : KB wr [wk.heap.size, g3, gr], i.v.cell? ⟨gr, or + j, none⟩ = some (.string XJ) := fun i => (i.cell (b := gr) (by simp) _).trans fj
          have HQL : Hid (wk.heap.size < wr.heap.size) := HQ.out.lt
          have HKK : Hid (∀ wB, Below wr.heap.size wr wB → ∃ i : KB wr [wk.heap.size, g3, gr], wB = i.v) := fun wB hb => ⟨⟨wB, fun b hx => by
            rcases (show b = wk.heap.size ∨ b = g3 ∨ b = gr by simpa using hx) with h | h | h
            · rw [h]; exact hb.block _ HQL.out
            · rw [h]; exact hb.block _ (Nat.lt_of_lt_of_le hg3 HBI.out.size)
            · rw [h]; exact hb.block _ (Nat.lt_of_lt_of_le hgr HBI.out.size)⟩, rfl⟩
          clear q1 fj hbi
          generalize hjm : j - 1 = jm at *
          have HJM := hidD hjm
          clear hjm
          have HA1 : Hid (Below wr.heap.size wr (wr.alloc (.cells #[.int .i64 Y] (3 : TypeId))).drew) := ((Below.refl _ _).alloc (Nat.le_refl _) _).drew
          have HNC : Hid ((wr.alloc (.cells #[.int .i64 Y] (3 : TypeId))).drew.cell? ⟨wr.heap.size, 0, none⟩ = some (.int .i64 Y)) := by
            show (wr.alloc (.cells #[.int .i64 Y] (3 : TypeId))).cell? ⟨wr.heap.size, 0, none⟩ = some (.int .i64 Y)
            rw [World.cell?_alloc_new]; rfl
          have HJL : Hid (jm ≤ 1048576) := by have := HJM.out; show _ ≤ _; omega
          have HBS : Hid (wk.heap.size + 1 ≤ (wr.alloc (.cells #[.int .i64 Y] (3 : TypeId))).drew.heap.size) := Nat.le_trans HQL.out HA1.out.size
          go_wp2_with fail
          clear f3i
          refine wp_region_seg [0, 0, 0, 0, 0, 0, 0, 0, 0, 0, 1, 3, 5, 6, 99] 3 14 [wk.heap.size, g3, gr] (by kernel_rfl) (by kernel_rfl) (by kernel_rfl) (by kernel_rfl) (by kernel_rfl) (by kernel_rfl) (by kernel_rfl) (by kernel_rfl) (fun _ _ _ _ _ h => h) ?_
          simp only [SegW, pk, Nat.reduceMul, Nat.reduceAdd, Nat.reduceBEq, cond_true, cond_false]
          repeat (go_big_quiet_step (fail))
          refine wpQuiet_nil ?_
          go_wp2_with (go_at_call 14; refine (HFj.out _ ((Below.refl _ _).drew)).mono ?_; rintro e w5 ⟨rfl, rfl⟩)
          refine ⟨HKK.out _ ((Below.refl _ _).drew), ?_⟩
          repeat (go_big_quiet_step (fail))
          refine wpQuiet_nil ?_
          go_wp2_with fail
          refine ⟨HKK.out _ HA1.out, ?_⟩
          repeat (go_big_quiet_step (fail))
          refine wpQuiet_nil ?_
          go_wp2_with (at_builtin; refine wpList_append_int rfl _ _ rfl (wk.heap.size + 1) (.slice av jm cv) jm XS rfl (row_below HOV.out HA1.out) wr.heap.size Y rfl HNC.out HJL.out HBS.out ?_; intro v8 w8 hown8 hg8)
          have HB8 : Hid (Below (wk.heap.size + 1) wr w8) := row_grown (row_below HOV.out HA1.out) (HA1.out.mono HQL.out) hg8 HBS.out
          obtain ⟨a8, c8, h8⟩ := row_shape hown8
          subst h8
          have HO8 := hidD hown8
          have HC8 : Hid (CsAt w8 wk.heap.size #[.int .i64 (l : Int), .slice av jm cv] 80) := (HB8.out.block _ (Nat.lt_succ_self _)).trans HQ.out
          have hc8 : w8.cell? ⟨wk.heap.size, 1, none⟩ = some (.slice av jm cv) := HC8.out.cell 1
          have hf8 : w8.frozen? ⟨wk.heap.size, 1, none⟩ = false := HC8.out.frz 1
          have HKE : Hid (∃ i : KB wr [wk.heap.size, g3, gr], w8 = i.v) := ⟨⟨w8, fun b hx => by
            rcases (show b = wk.heap.size ∨ b = g3 ∨ b = gr by simpa using hx) with h | h | h
            · rw [h]; exact HB8.out.block _ (Nat.lt_succ_self _)
            · rw [h]; exact HB8.out.block _ (by omega)
            · rw [h]; exact HB8.out.block _ (by omega)⟩, rfl⟩
          clear hown8 hg8
          refine ⟨HKE.out, ?_⟩
          repeat (go_big_quiet_step (fail))
          refine wpQuiet_nil ?_
          clear gQ g3f grf
          go_wp2_with fail
          go_roundw
          case rel =>
            refine ⟨j + 1, .slice a8 (jm + 1) c8, by omega, by omega, by go_num, HC8.out.put 1 _, ?_, below_setCell (HBI.out.trans (HB8.out.mono (Nat.le_succ _))) (Nat.le_refl _) _ _⟩
            have := HJM.out
            rw [show j + 1 - 1 = jm + 1 by omega, HST2.out]
            exact own_put HO8.out (Nat.lt_succ_self _) _ _
          case measure => simp [intOf]; omega
        · obtain rfl : j = nr := by omega
          obtain ⟨av, cv, hrv⟩ := row_shape HOV.out
          subst hrv
          obtain ⟨a2, c2, hu2⟩ := row_shape HOW.out
          subst hu2
          have HDL : Hid (((r.drop 1).map (dfS T O)).length = j - 1) := by show _ = _; rw [List.length_map, List.length_drop, HNR.out]
          have HIR : Hid (IrAt wr wr.heap.size (.slice av (j - 1) cv) ((r.drop 1).map (dfS T O))) := by
            have := HOV.out
            rw [List.take_of_length_le (by rw [HDL.out]; exact Nat.le_refl _)] at this
            exact ir_of_own this HDL.out.symm
          have HPC := hidD (HRG.out.next HBI.out)
          have HOK := hidD (row_below HOW.out HBI.out)
          have HPL : Hid (w9.heap.size < wk.heap.size) := row_lt HRG.out
          have HQL : Hid (wk.heap.size < wr.heap.size) := HQ.out.lt
          have HNB : Hid ((Value.slice a2 k c2).ownBlock ≠ some wk.heap.size) := fun e => Nat.lt_irrefl _ (HOW.out.lt _ e).2
          have f2 : wr.cell? ⟨w9.heap.size, 2, none⟩ = some (.slice a2 k c2) := HPC.out.cells.2.2.1
          have gP : ∀ i : KB wr [w9.heap.size, wk.heap.size], i.v.cell? ⟨w9.heap.size, 2, none⟩ = some (.slice a2 k c2) := fun i => (i.cell (b := w9.heap.size) (by simp) _).trans f2
          have gQ0 : ∀ i : KB wr [w9.heap.size, wk.heap.size], i.v.cell? ⟨wk.heap.size, 0, none⟩ = some (.int .i64 (l : Int)) := fun i => (i.cell (b := wk.heap.size) (by simp) _).trans (HQ.out.cell 0)
          have gQ1 : ∀ i : KB wr [w9.heap.size, wk.heap.size], i.v.cell? ⟨wk.heap.size, 1, none⟩ = some (.slice av (j - 1) cv) := fun i => (i.cell (b := wk.heap.size) (by simp) _).trans (HQ.out.cell 1)
          have HKK : Hid (∀ wB, Below wr.heap.size wr wB → ∃ i : KB wr [w9.heap.size, wk.heap.size], wB = i.v) := fun wB hb => ⟨⟨wB, fun b hx => by
            rcases (show b = w9.heap.size ∨ b = wk.heap.size by simpa using hx) with h | h
            · rw [h]; exact hb.block _ (Nat.lt_trans HPL.out HQL.out)
            · rw [h]; exact hb.block _ HQL.out⟩, rfl⟩
          have HA1 : Hid (Below wr.heap.size wr (wr.alloc (.cells #[.int .i64 (l : Int), .slice av (j - 1) cv] (80 : TypeId))).drew) := ((Below.refl _ _).alloc (Nat.le_refl _) _).drew
          have HNC : Hid ((wr.alloc (.cells #[.int .i64 (l : Int), .slice av (j - 1) cv] (80 : TypeId))).drew.cell? ⟨wr.heap.size, 0, none⟩ = some (.int .i64 (l : Int)) ∧ (wr.alloc (.cells #[.int .i64 (l : Int), .slice av (j - 1) cv] (80 : TypeId))).drew.cell? ⟨wr.heap.size, 1, none⟩ = some (.slice av (j - 1) cv)) := new_cell2 wr _ _ _
          have HBS : Hid (w9.heap.size + 1 ≤ (wr.alloc (.cells #[.int .i64 (l : Int), .slice av (j - 1) cv] (80 : TypeId))).drew.heap.size) := Nat.le_trans (Nat.le_trans HPL.out (Nat.le_of_lt HQL.out)) HA1.out.size
          have HKL : Hid (k ≤ 4398046511103) := by show _ ≤ _; omega
          clear hq f2 hbi
          generalize hjm : j - 1 = jm at *
          clear hjm
          go_wp2_with fail
          clear f3i
          refine wp_region_seg [0, 0, 0, 0, 0, 0, 1, 3, 4, 4, 99] 2 10 [w9.heap.size, wk.heap.size] (by kernel_rfl) (by kernel_rfl) (by kernel_rfl) (by kernel_rfl) (by kernel_rfl) (by kernel_rfl) (by kernel_rfl) (by kernel_rfl) (fun _ _ _ _ _ h => h) ?_
          simp only [SegW, pk, Nat.reduceMul, Nat.reduceAdd, Nat.reduceBEq, cond_true, cond_false]
          repeat (go_big_quiet_step (fail))
          refine wpQuiet_nil ?_
          go_wp2_with fail
          refine ⟨HKK.out _ HA1.out, ?_⟩
          repeat (go_big_quiet_step (fail))
          refine wpQuiet_nil ?_
          go_wp2_with (at_builtin; refine wpList_append_drule rfl _ _ rfl (w9.heap.size + 1) (.slice a2 k c2) k xs rfl (row_below HOK.out HA1.out) wr.heap.size (.int .i64 (l : Int)) (.slice av jm cv) rfl HNC.out.1 HNC.out.2 rfl rfl HKL.out HBS.out ?_; intro v8 w8 hown8 hb8 hk8 hg8)
          obtain ⟨a8, c8, h8⟩ := row_shape hown8
          subst h8
          have HO8 := hidD hown8
          have HB8 := hidD ((HA1.out.mono (Nat.le_trans HPL.out (Nat.le_of_lt HQL.out))).trans hb8)
          have HK8 := hidD hk8
          have HR8 : Hid (RgC w8 w9.heap.size (.slice aT nT cT) (.slice aO nO cO) (.slice a2 k c2) S) := (HB8.out.block _ (Nat.lt_succ_self _)).trans HPC.out
          have hc8 : w8.cell? ⟨w9.heap.size, 2, none⟩ = some (.slice a2 k c2) := HR8.out.cells.2.2.1
          have hf8 : w8.frozen? ⟨w9.heap.size, 2, none⟩ = false := frozen_of_row _ _ _ _ _ HR8.out
          have HKE : Hid (∃ i : KB wr [w9.heap.size, wk.heap.size], w8 = i.v) := ⟨⟨w8, fun b hx => by
            rcases (show b = w9.heap.size ∨ b = wk.heap.size by simpa using hx) with h | h
            · rw [h]; exact HB8.out.block _ (Nat.lt_succ_self _)
            · rw [h, hg8.block _ (Nat.lt_of_lt_of_le HQL.out HA1.out.size) (fun e => HNB.out e.symm)]; exact HA1.out.block _ HQL.out⟩, rfl⟩
          have HU8 : Hid (RuB w8 w8.heap.size (xs ++ [.int .i64 (l : Int), .slice av jm cv]) ((L.map (dnF T O)).take (k + 1))) := by
            show RuB _ _ _ _
            rw [HTK.out, HLF.out]
            have hs8 : wr.heap.size ≤ w8.heap.size := Nat.le_trans HA1.out.size hb8.size
            refine RuB.more ?_ ?_
            · exact ((((HRU.out.next HBI.out).next HA1.out).stay HK8.out (by decide)).mono (Nat.le_trans HBI.out.size hs8))
            · exact ((HIR.out.next HA1.out).stay HK8.out (by decide)).mono hs8
          clear hown8 hb8 hk8 hg8
          refine ⟨HKE.out, ?_⟩
          repeat (go_big_quiet_step (fail))
          refine wpQuiet_nil ?_
          clear gP gQ0 gQ1
          go_wp2_with fail
          go_roundw
          case rel =>
            refine ⟨k + 1, .slice a8 (k + 1) c8, _, by omega, by go_num, heap_setCell_same _ _ _ _ _ _ HR8.out, own_put HO8.out (Nat.lt_succ_self _) _ _, ?_, below_setCell (HBE.out.trans ((HBI.out.mono (Nat.le_of_lt HPL.out)).trans (HB8.out.mono (Nat.le_succ _)))) (Nat.le_refl _) _ _⟩
            have := ru_put HU8.out HR8.out 2 (.slice a8 (k + 1) c8)
            rwa [show (w8.setCell ⟨w9.heap.size, 2, none⟩ (.slice a8 (k + 1) c8)).heap.size = w8.heap.size by simp]
          case measure => simp [intOf]; omega
    · obtain rfl : k = nL := by omega
      clear HFI HAA HPOS HDF
      go_wp2_with fail
      go_ret
      refine ⟨w9.heap.size, rfl, HB9.out.size, ⟨_, _, u2, w9.heap.size + 1, xs, HRG.out, HST.out.next HBE.out, HSO.out.next HBE.out, ?_, ?_⟩, HBW.out, ?_, ?_⟩
      · rw [List.length_map, HNL.out]; exact HOW.out
      · have := HRU.out
        rwa [List.take_of_length_le (by rw [List.length_map, HNL.out]; exact Nat.le_refl _)] at this
      · intro g o n' c' hc'
        have e1 : Value.slice aT nT cT = Value.slice (some ⟨g, o, none⟩) n' c' := Option.some.inj (HRG.out.cells.1.symm.trans hc')
        cases e1
        exact HFT.out g o rfl
      · intro g o n' c' hc'
        have e1 : Value.slice aO nO cO = Value.slice (some ⟨g, o, none⟩) n' c' := Option.some.inj (HRG.out.cells.2.1.symm.trans hc')
        cases e1
        exact HFO.out g o rfl
theorem assembled_any (T O : List Tx) (hT : T.length ≤ 4398046511000) (hO : O.length ≤ 4398046511000) (s : Tx) (L : List (List Tx)) (hll : L.length ≤ 4398046511000) (hpos : ∀ r ∈ L, 1 ≤ r.length ∧ r.length ≤ 1048576) (hdf : ∀ r ∈ L, 0 ≤ dfS T O (r.getD 0 [])) (Bt Bo : Nat) (v0 v1 v3 : Value) (w : World) (h0 : SrAt w Bt v0 T) (h1 : SrAt w Bo v1 O) (h3 : RlAt w v3 L) :
    Calls Tryd.prog 47 #[v0, v1, encT s, v3] w fun e w' => ∃ p, e = .returned (.pointer (some ⟨p, 0, none⟩)) ∧ w.heap.size ≤ p ∧ RgAt w' p T O (L.map (dnF T O)) (atS O s) ∧ Below w.heap.size w w' :=
  (assembled_own T O hT hO s L hll hpos hdf Bt Bo v0 v1 v3 w h0.st h1.st h3.rq).mono fun e w' h => by
    obtain ⟨p, h1, h2, h3, h4, _⟩ := h
    exact ⟨p, h1, h2, h3, h4⟩
end Go.Proofs.YtgmbkelmgolkpaaDoor
