/- Texts of one proof, one behind the other. -/
import Derived.Test.YtgmbkelmgolkpaaDoorGc
import Derived.Test.YtgmbkelmgolkpaaDoorGx
/- Numbers in memory that are read, with the type of their blocks; rules that are gathered. -/
namespace Go.Proofs.YtgmbkelmgolkpaaDoor
open Go.RowKit Go.Maps
set_option linter.unusedVariables false

/-- Numbers in memory, in blocks below B. -/
def IrAt (w : World) (B : Nat) (v : Value) (ss : List Int) : Prop := ∃ a cap, v = .slice a ss.length cap ∧ ss.length ≤ cap ∧ (cap ≤ 9223372036854775807 ∧ (a = none → cap = 0)) ∧ ∀ k, k < ss.length → ∃ g o cs, a = some ⟨g, o, none⟩ ∧ g < B ∧ w.heap[g]? = some (.cells cs 3 (0, 0)) ∧ cs[o + k]? = some (encI (ss.getD k 0))
theorem IrAt.shape {w : World} {B : Nat} {v : Value} {ss : List Int} (h : IrAt w B v ss) : ∃ a cap, v = .slice a ss.length cap := by
  obtain ⟨a, cap, h1, _⟩ := h
  exact ⟨a, cap, h1⟩
theorem IrAt.kept {w w' : World} {B : Nat} {v : Value} {ss : List Int} (h : IrAt w B v ss) (hb : ∀ g, g < B → g < w.heap.size → (∃ cs, w.heap[g]? = some (.cells cs 3 (0, 0))) → w'.heap[g]? = w.heap[g]?) : IrAt w' B v ss := by
  obtain ⟨a, cap, h1, h2, h3, h4⟩ := h
  refine ⟨a, cap, h1, h2, h3, fun k hk => ?_⟩
  obtain ⟨g, o, cs, e1, e2, e3, e4⟩ := h4 k hk
  exact ⟨g, o, cs, e1, e2, (hb g e2 (row_lt e3) ⟨cs, e3⟩).trans e3, e4⟩
theorem IrAt.next {w w' : World} {B : Nat} {v : Value} {ss : List Int} (h : IrAt w B v ss) (hb : Below w.heap.size w w') : IrAt w' B v ss := h.kept fun g _ hg _ => hb.block g hg
theorem IrAt.below {w w' : World} {B B' : Nat} {v : Value} {ss : List Int} (h : IrAt w B v ss) (hb : Below B' w w') (hB : B ≤ B') : IrAt w' B v ss := h.kept fun g hg _ _ => hb.block g (by omega)
theorem IrAt.stay {w w' : World} {B : Nat} {v : Value} {ss : List Int} {e' : TypeId} (h : IrAt w B v ss) (hk : Kept e' w w') (hne : (3 : TypeId) ≠ e') : IrAt w' B v ss := h.kept fun g _ hg ⟨cs, hc⟩ => hk g hg fun cs' e => by rw [hc] at e; cases e; exact hne rfl
theorem IrAt.mono {w : World} {B B' : Nat} {v : Value} {ss : List Int} (h : IrAt w B v ss) (hB : B ≤ B') : IrAt w B' v ss := by
  obtain ⟨a, cap, h1, h2, h3, h4⟩ := h
  refine ⟨a, cap, h1, h2, h3, fun k hk => ?_⟩
  obtain ⟨g, o, cs, e1, e2, e3, e4⟩ := h4 k hk
  exact ⟨g, o, cs, e1, by omega, e3, e4⟩
theorem IrAt.all {w : World} {B : Nat} {v : Value} {ss : List Int} (h : IrAt w B v ss) : IrAt w w.heap.size v ss := by
  obtain ⟨a, cap, h1, h2, h3, h4⟩ := h
  refine ⟨a, cap, h1, h2, h3, fun k hk => ?_⟩
  obtain ⟨g, o, cs, e1, e2, e3, e4⟩ := h4 k hk
  exact ⟨g, o, cs, e1, row_lt e3, e3, e4⟩
theorem IrAt.il {w : World} {B : Nat} {v : Value} {ss : List Int} (h : IrAt w B v ss) : IlAt w v ss := by
  obtain ⟨a, cap, h1, h2, h3, h4⟩ := h
  refine ⟨a, cap, h1, h2, h3.1, fun k hk => ?_⟩
  obtain ⟨g, o, cs, e1, e2, e3, e4⟩ := h4 k hk
  exact ⟨g, o, e1, row_lt e3, (cell_of_row _ _ _ _ _ _ e3).trans e4⟩
theorem ir_of_own {w : World} {base n : Nat} {v : Value} {ss : List Int} (h : w.ownsRow base 3 1 v n (ss.map encI)) (hn : n = ss.length) : IrAt w w.heap.size v ss := by
  subst hn
  rcases h.2 with ⟨rfl, h0⟩ | ⟨g, cap, cur, rfl, hb, hg, hnc, hcm, hcs, htk⟩
  · exact ⟨none, 0, by rw [h0], by omega, ⟨by omega, fun _ => rfl⟩, fun k hk => absurd hk (by omega)⟩
  · refine ⟨_, cap, rfl, hnc, ⟨by unfold maxLen at hcm; omega, nofun⟩, fun k hk => ⟨g, 0, cur, rfl, row_lt hg, hg, ?_⟩⟩
    have h5 : (cur.toList.take (ss.length * 1))[k]? = (ss.map encI)[k]? := by rw [htk]
    rw [List.getElem?_take, if_pos (by omega), List.getElem?_map, List.getElem?_eq_getElem hk, Array.getElem?_toList] at h5
    rw [Nat.zero_add, h5, List.getD_eq_getElem?_getD, List.getElem?_eq_getElem hk]
    rfl
/-- Cells that read as rules. -/
def RuB (w : World) (B : Nat) (xs : List Value) (R : List (Nat × List Int)) : Prop := xs.length = R.length * 2 ∧ ∀ k, k < R.length → ∃ rv, xs[k * 2]? = some (.int .i64 ((R.getD k (0, [])).1 : Int)) ∧ xs[k * 2 + 1]? = some rv ∧ IrAt w B rv (R.getD k (0, [])).2
theorem RuB.nil (w : World) (B : Nat) : RuB w B [] [] := ⟨rfl, fun k hk => absurd hk (by simp)⟩
theorem RuB.stay {w w' : World} {B : Nat} {xs : List Value} {R : List (Nat × List Int)} {e' : TypeId} (h : RuB w B xs R) (hk : Kept e' w w') (hne : (3 : TypeId) ≠ e') : RuB w' B xs R := ⟨h.1, fun k hk' => by
  obtain ⟨u, h1, h2, h3⟩ := h.2 k hk'
  exact ⟨u, h1, h2, h3.stay hk hne⟩⟩
theorem RuB.below {w w' : World} {B B' : Nat} {xs : List Value} {R : List (Nat × List Int)} (h : RuB w B xs R) (hb : Below B' w w') (hB : B ≤ B') : RuB w' B xs R := ⟨h.1, fun k hk' => by
  obtain ⟨u, h1, h2, h3⟩ := h.2 k hk'
  exact ⟨u, h1, h2, h3.below hb hB⟩⟩
theorem RuB.next {w w' : World} {B : Nat} {xs : List Value} {R : List (Nat × List Int)} (h : RuB w B xs R) (hb : Below w.heap.size w w') : RuB w' B xs R := ⟨h.1, fun k hk' => by
  obtain ⟨u, h1, h2, h3⟩ := h.2 k hk'
  exact ⟨u, h1, h2, h3.next hb⟩⟩
theorem RuB.mono {w : World} {B B' : Nat} {xs : List Value} {R : List (Nat × List Int)} (h : RuB w B xs R) (hB : B ≤ B') : RuB w B' xs R := ⟨h.1, fun k hk' => by
  obtain ⟨u, h1, h2, h3⟩ := h.2 k hk'
  exact ⟨u, h1, h2, h3.mono hB⟩⟩
theorem RuB.more {w : World} {B : Nat} {xs : List Value} {R : List (Nat × List Int)} (h : RuB w B xs R) {l : Nat} {rv : Value} {r : List Int} (hr : IrAt w B rv r) : RuB w B (xs ++ [.int .i64 (l : Int), rv]) (R ++ [(l, r)]) := by
  refine ⟨by rw [List.length_append, List.length_append, h.1]; simp; omega, fun k hk => ?_⟩
  rw [List.length_append, List.length_singleton] at hk
  by_cases hl : k < R.length
  · obtain ⟨u, e1, e2, e3⟩ := h.2 k hl
    refine ⟨u, ?_, ?_, ?_⟩
    · rw [List.getElem?_append_left (by rw [h.1]; omega), List.getD_eq_getElem?_getD, List.getElem?_append_left hl, ← List.getD_eq_getElem?_getD]; exact e1
    · rw [List.getElem?_append_left (by rw [h.1]; omega)]; exact e2
    · rw [List.getD_eq_getElem?_getD, List.getElem?_append_left hl, ← List.getD_eq_getElem?_getD]; exact e3
  · obtain rfl : k = R.length := by omega
    have e : (R ++ [(l, r)]).getD R.length (0, []) = (l, r) := by rw [List.getD_eq_getElem?_getD, List.getElem?_append_right (Nat.le_refl _), Nat.sub_self]; rfl
    refine ⟨rv, ?_, ?_, by rw [e]; exact hr⟩
    · rw [List.getElem?_append_right (by rw [h.1]; omega), h.1, Nat.sub_self, e]; rfl
    · rw [List.getElem?_append_right (by rw [h.1]; omega), h.1, Nat.add_sub_cancel_left]; rfl
theorem ru_of_own {w : World} {base n : Nat} {v : Value} {xs : List Value} {R : List (Nat × List Int)} {B : Nat} (h : w.ownsRow base 63 2 v n xs) (hn : n = R.length) (hr : RuB w B xs R) : RuAt w v R := by
  subst hn
  rcases h.2 with ⟨rfl, h0⟩ | ⟨g, cap, cur, rfl, hb, hg, hnc, hcm, hcs, htk⟩
  · exact ⟨none, 0, by rw [h0], fun k hk => absurd hk (by omega)⟩
  · refine ⟨_, cap, rfl, fun k hk => ?_⟩
    obtain ⟨u, e1, e2, e3⟩ := hr.2 k hk
    have c1 := h.cells (g := g) rfl (k * 2) _ e1
    have c2 := h.cells (g := g) rfl (k * 2 + 1) _ e2
    rw [Addr.add_lit] at c1 c2
    refine ⟨g, 0, u, rfl, row_lt hg, c1, ?_, e3.il⟩
    rw [show 0 + k * 2 + 1 = 0 + (k * 2 + 1) by omega]; exact c2
theorem Tryd.info63 : (Tryd.prog.info? 63).map (fun i => (i.zero, i.size, i.bytes)) = some (some (.agg #[.int .i64 0, .slice none 0 0]), 2, 32) := by kernel_rfl
theorem Tryd.under37 : Tryd.prog.underlying 59 = some (.slice 63) := by kernel_rfl
/-- A rule that is put behind rules. -/
theorem wpList_append_rule {ops : Array Oper} {rest : List Oper} {o : Oper} {a : Act} {Q : Exit → Act → World → Prop} {w : World} (hgd : o.guard = none) (s x : Operand)
    (ho : o.op = .call { callee := .builtin .append, args := #[s, x], argTypes := #[59, 59] }) (base : Nat) (v : Value) (n : Nat) (xs : List Value)
    (hs : a.eval s = v) (hown : w.ownsRow base 63 2 v n xs) (g : Nat) (y z : Value) (hx : a.eval x = .slice (some ⟨g, 0, none⟩) 1 1) (hc : w.cell? ⟨g, 0, none⟩ = some y) (hc2 : w.cell? ⟨g, 1, none⟩ = some z) (hy : y.oneCell' = true) (hz : z.oneCell' = true) (hl : n ≤ 4398046511103) (hbase : base ≤ w.heap.size)
    (h : ∀ v' w', w'.ownsRow base 63 2 v' (n + 1) (xs ++ [y, z]) → Below base w w' → Kept 63 w w' → wpList Tryd.prog ops Q rest (a.put o.dst v') w') : wpList Tryd.prog ops Q (o :: rest) a w := by
  obtain ⟨i0, hi, hz0, hz1, hz2⟩ := info_parts Tryd.info63
  refine wpList_append_own w hgd s x 59 ho base 63 i0 _ 2 32 Tryd.under37 hi hz0 hz1 hz2 rfl (by decide) v n xs hs hown ⟨g, 0, none⟩ 1 1 [y, z] hx (by simp) (fun j u hu => ?_) (by intro u hu; simp only [List.mem_cons, List.not_mem_nil, or_false] at hu; rcases hu with rfl | rfl <;> assumption) (by unfold maxLen; omega) (by omega) hbase ?_
  · rw [Addr.add_lit]
    match j, hu with
    | 0, hu => simp at hu; rw [← hu]; exact hc
    | 1, hu => simp at hu; rw [← hu]; exact hc2
    | j + 2, hu => simp at hu
  · intro v' w' h1 h2 _
    exact h v' w' h1 (row_grown hown (Below.refl _ _) h2 hbase) (kept_of_grown hown h2)
end Go.Proofs.YtgmbkelmgolkpaaDoor
/- What rulesOf answers. -/
namespace Go.Proofs.YtgmbkelmgolkpaaDoor
open Go.RowKit Go.Maps
set_option linter.unusedVariables false

/-- The slice in a cell lies in a block that is no older than N. -/
def FarS (N : Nat) (w : World) (p k : Nat) : Prop := ∀ g o n c, w.cell? ⟨p, k, none⟩ = some (.slice (some ⟨g, o, none⟩) n c) → N ≤ g
/-- The program's grammar is new memory: its names lie in a block no older than N, its rules in rows with their types. -/
def GfN (N : Nat) (w : World) (p : Nat) (R : List (Nat × List Int)) : Prop := FarS N w p 0 ∧ ∃ v B base xs, w.cell? ⟨p, 4, none⟩ = some v ∧ w.ownsRow base 63 2 v R.length xs ∧ RuB w B xs R
theorem own_far {w : World} {base e k n m c : Nat} {a : Option Addr} {xs : List Value} (h : w.ownsRow base e k (.slice a n c) m xs) : ∀ g o, a = some ⟨g, o, none⟩ → base ≤ g := by
  intro g o ha
  subst ha
  rcases h.2 with ⟨h0, _⟩ | ⟨b, cap, cur, hv, hb, _⟩
  · cases h0
  · cases hv; exact hb
def vaF (f : Tx → Option Int) (x : Tx) : Int := (f x).getD 0
/-- Is it a rule, by these numbers? -/
def roF (f : Tx → Option Int) (E : Nat) (r : List Tx) : Bool := decide (1 ≤ r.length) && decide ((E : Int) < vaF f (r.getD 0 [])) && (r.drop 1).all (fun x => (f x).isSome)
def rnF (f : Tx → Option Int) (r : List Tx) : Nat × List Int := ((vaF f (r.getD 0 [])).toNat, (r.drop 1).map (vaF f))
theorem all_good {L : List (List Tx)} {p : List Tx → Bool} (h : ∀ k, k < L.length → p (L.getD k []) = true) : L.all p = true := by
  rw [List.all_eq_true]
  intro x hx
  obtain ⟨q, hq, he⟩ := List.mem_iff_getElem.1 hx
  have := h q hq
  rwa [List.getD_eq_getElem?_getD, List.getElem?_eq_getElem hq, Option.getD_some, he] at this
theorem all_bad {L : List (List Tx)} {p : List Tx → Bool} {k : Nat} (hk : k < L.length) (h : p (L.getD k []) = false) : L.all p = false := by
  cases ha : L.all p with
  | false => rfl
  | true =>
    rw [List.all_eq_true] at ha
    have := ha (L.getD k []) (by rw [List.getD_eq_getElem?_getD, List.getElem?_eq_getElem hk]; exact List.getElem_mem hk)
    rw [h] at this; cases this
theorem map_take {L : List (List Tx)} {p : List Tx → Nat × List Int} {k : Nat} (hk : k < L.length) : (L.map p).take (k + 1) = (L.map p).take k ++ [p (L.getD k [])] := by
  rw [List.take_succ_eq_append_getElem (by rw [List.length_map]; exact hk), List.getElem_map, List.getD_eq_getElem?_getD, List.getElem?_eq_getElem hk]; rfl
theorem mapv_take {S : List Tx} {p : Tx → Int} {k : Nat} (hk : k < S.length) : (S.map p).take (k + 1) = (S.map p).take k ++ [p (S.getD k [])] := by
  rw [List.take_succ_eq_append_getElem (by rw [List.length_map]; exact hk), List.getElem_map, List.getD_eq_getElem?_getD, List.getElem?_eq_getElem hk]; rfl
theorem new_cell2 (w : World) (u v : Value) (t : TypeId) : (w.alloc (.cells #[u, v] t)).cell? ⟨w.heap.size, 0, none⟩ = some u ∧ (w.alloc (.cells #[u, v] t)).cell? ⟨w.heap.size, 1, none⟩ = some v := by
  have h : (w.alloc (.cells #[u, v] t)).heap[w.heap.size]? = some (.cells #[u, v] t (0, 0)) := heap_alloc_new _ _
  exact ⟨(cell_of_row _ _ _ _ _ _ h).trans rfl, (cell_of_row _ _ _ _ _ _ h).trans rfl⟩
set_option maxRecDepth 100000 in
set_option maxHeartbeats 1600000 in
theorem rulesOf_any (L : List (List Tx)) (hok : LxOk L) (hll : L.length ≤ 4398046511000) (hrl : ∀ r ∈ L, r.length ≤ 4398046511000) (f : Tx → Option Int) (hf0 : ∀ x, 0 ≤ vaF f x) (hf1 : ∀ x, vaF f x ≤ 4398046511104) (E : Nat) (hE : E ≤ 4398046511104) (b nb : Nat) (v : Value) (w : World) (h : RlAt w v L) (hm : MpAt w b nb f) : Calls Tryd.prog 58 #[v, .map (some b), .int .i64 E] w fun e w' =>
    (L.all (roF f E) = true → ∃ u B xs, e = .returned (.tuple #[u, .bool true]) ∧ w'.ownsRow w.heap.size 63 2 u L.length xs ∧ RuB w' B xs (L.map (rnF f))) ∧ (L.all (roF f E) = false → e = .returned (.tuple #[.slice none 0 0, .bool false])) ∧ Below w.heap.size w w' := by
  have HRL := hidD h
  obtain ⟨a, cap, rfl, hc1, hc2, _⟩ := h
  have HOK := hidD hok
  have HRB : Hid (∀ k, k < L.length → (L.getD k []).length ≤ 4398046511000) := fun k hk => hrl _ (by rw [List.getD_eq_getElem?_getD, List.getElem?_eq_getElem hk]; exact List.getElem_mem hk)
  have HMW := hidD hm
  have HF0 := hidD hf0
  have HF1 := hidD hf1
  have HAG : Hid ((∀ k, k < L.length → roF f E (L.getD k []) = true) → L.all (roF f E) = true) := all_good
  have HAB : Hid (∀ k, k < L.length → roF f E (L.getD k []) = false → L.all (roF f E) = false) := fun k hk => all_bad hk
  have HMT := hidD (fun k hk => map_take (L := L) (p := rnF f) (k := k) hk)
  have HRO : Hid (∀ r, roF f E r = (decide (1 ≤ r.length) && decide ((E : Int) < vaF f (r.getD 0 [])) && (r.drop 1).all (fun x => (f x).isSome))) := fun _ => rfl
  have HRN : Hid (∀ r, rnF f r = ((vaF f (r.getD 0 [])).toNat, (r.drop 1).map (vaF f))) := fun _ => rfl
  have HML : Hid ((L.map (rnF f)).take L.length = L.map (rnF f)) := by show _ = _; rw [← List.length_map (rnF f), List.take_length]
  have HVA : Hid (∀ x, (f x).getD 0 = vaF f x) := fun _ => rfl
  obtain ⟨i76, hi76, hz760, hz761, hz762⟩ := info_parts Tryd.info63
  obtain ⟨i3, hi3, hz30, hz31, hz32⟩ := info_parts Tryd.info3
  have HU3 : Hid (Tryd.prog.underlying 43 = some (.slice 3)) := Tryd.underlying43'
  clear hok hrl hf0 hf1 hm
  generalize hn : L.length = n at *
  have HN := hidD hn
  clear hn
  go_enter Tryd.func58, Tryd.ntmps58
  go_wp2_with (refine wpList_make_own w rfl _ _ 59 rfl w.heap.size 63 i76 _ 2 Tryd.under37 hi76 hz760 hz761 .i64 .i64 (n : Int) n rfl rfl rfl (by rw [hz762]; omega) (by unfold maxLen; omega) (Nat.le_refl _) ?_; intro w1 ho1 hg1; have HO1 := hidD ho1; have HB1 := hidD (below_none hg1); clear ho1 hg1)
  go_loopw [8, 21] (fun l i wr => ∃ (k B : Nat) (xs : List Value), k ≤ n ∧ i = .int .i64 k ∧ wr.ownsRow w.heap.size 63 2 l k xs ∧ RuB wr B xs ((L.map (rnF f)).take k) ∧ B ≤ wr.heap.size ∧ (∀ j, j < k → roF f E (L.getD j []) = true) ∧ Below w.heap.size w wr) (fun _ i _ => n - (intOf i).toNat)
  case atStart => exact ⟨0, 0, [], Nat.zero_le _, rfl, HO1.out, RuB.nil _ _, Nat.zero_le _, fun j hj => absurd hj (by omega), HB1.out⟩
  case round =>
    obtain ⟨k, B, xs, hk, rfl, hown, hru, hB, hall, hbel⟩ := hrel
    have HOW := hidD hown
    have HRU := hidD hru
    have HBB := hidD hB
    have HAL := hidD hall
    have HBW := hidD hbel
    have HMK := hidD (HMW.out.kept (hbel.block b HMW.out.lt))
    obtain ⟨a8, c8, h8⟩ := row_shape hown
    subst h8
    by_cases hlt : k < n
    · have hlti : (k : Int) < n := by omega
      obtain ⟨g, o, a2, c2, rfl, hg, f0, hsr⟩ := HRL.out.row (k := k) (by rw [HN.out]; exact hlt)
      have f2 : wr.cell? ⟨g, o + k, none⟩ = _ := (hbel.cell (p := ⟨g, o + k, none⟩) hg).trans f0
      have HSR := hidD (hsr.below hbel (Nat.le_refl _))
      have HXO := hidD (HOK.out.get (k := k) (by rw [HN.out]; exact hlt))
      have HNO := hidD (HAB.out k hlt)
      have HMN := hidD (HMT.out k hlt)
      have HRK := hidD (HRO.out (L.getD k []))
      have HNK := hidD (HRN.out (L.getD k []))
      have hrb := HRB.out k hlt
      have HST : Hid (roF f E (L.getD k []) = true → ∀ j, j < k + 1 → roF f E (L.getD j []) = true) := fun h j hj => by
        by_cases hjk : j = k
        · rw [hjk]; exact h
        · exact HAL.out j (by omega)
      clear f0 hsr hown hru hB hall hbel
      generalize L.getD k [] = RW at *
      generalize hln : RW.length = ln at *
      have HLN := hidD hln
      clear hln
      by_cases h1 : 1 ≤ ln
      · obtain ⟨g0, o0, rfl, hg0, _, f3⟩ := HSR.out.cell (k := 0) (by rw [HLN.out]; omega)
        have hx0 := HXO.out.get (k := 0) (by rw [HLN.out]; omega)
        have hlk0 := HMK.out.look hx0
        rw [HVA.out] at hlk0
        have hv0 := HF0.out (RW.getD 0 [])
        have hv1 := HF1.out (RW.getD 0 [])
        unfold encT at f3
        rw [Nat.add_zero] at f3
        obtain ⟨a5, c5, hs5, hl5⟩ := slice_from HSR.out 1 h1
        have hs5 : ∀ w, (Instr.sliceAt 35 (.slice (some ⟨g0, o0, none⟩) ln c2) (some (.int .i64 1)) none none).run Tryd.prog w = .ok (.slice a5 (ln - 1) c5) w := hs5
        have HL5 := hidD hl5
        have HXD : Hid (TxOk (RW.drop 1)) := fun x hx => HXO.out x (List.mem_of_mem_drop hx)
        have HDL : Hid ((RW.drop 1).length = ln - 1) := by show _ = _; rw [List.length_drop, HLN.out]
        rw [decide_eq_true h1, Bool.true_and] at HRK
        have hln0 : ((ln : Int) == 0) = false := beq_eq_false_iff_ne.2 (by omega)
        have hlnd : decide ((ln : Int) = 0) = false := decide_eq_false (by omega)
        have hln1 : ¬ (ln : Int) = 0 := by omega
        have hln2 : (1 : Int) ≤ ln := by omega
        clear hl5
        generalize hx : RW.getD 0 [] = x at *
        clear hx
        generalize hvx : vaF f x = vx at *
        have HVE := hidD hvx
        clear hvx
        generalize hDR : RW.drop 1 = DR at *
        clear hDR
        by_cases hEv : (E : Int) < vx
        · have hle : ¬ vx ≤ (E : Int) := by omega
          have hled : decide (vx ≤ (E : Int)) = false := decide_eq_false hle
          rw [decide_eq_true hEv, Bool.true_and] at HRK
          clear hEv
          have HMV := hidD (fun q hq => mapv_take (S := DR) (p := vaF f) (k := q) hq)
          have HMM : Hid ((DR.map (vaF f)).take (ln - 1) = DR.map (vaF f)) := by show _ = _; rw [← HDL.out, ← List.length_map (vaF f), List.take_length]
          have HTK : Hid (∀ q, q ≤ ln - 1 → ((DR.map (vaF f)).take q).length = q) := fun q hq => by rw [List.length_take, List.length_map, HDL.out]; omega
          obtain ⟨m, hm⟩ : ∃ m : Nat, m = ln - 1 := ⟨_, rfl⟩
          have HLM : Hid ((ln : Int) - 1 = (m : Int)) := by show _ = _; omega
          have hmb : m ≤ 4398046511000 := by omega
          rw [← hm] at HDL HMM HTK hs5 HL5
          clear hm
          go_upto_region 8 with (refine wpList_make_own wr rfl _ _ 43 rfl wr.heap.size 3 i3 _ 1 HU3.out hi3 hz30 hz31 .i64 .i64 ((ln : Int) - 1) m rfl rfl HLM.out (by rw [hz32]; omega) (by unfold maxLen; omega) (Nat.le_refl _) ?_; intro w3 ho3 hg3; have HO3 := hidD ho3; have HB3 := hidD (below_none hg3); clear ho3 hg3)
          obtain ⟨wk, hwk⟩ : ∃ wk, wk = wr := ⟨_, rfl⟩
          subst hwk
          go_wp2
          go_loopw [11, 44] (fun r i wr => ∃ q : Nat, q ≤ m ∧ i = .int .i64 q ∧ wr.ownsRow wk.heap.size 3 1 r q (((DR.map (vaF f)).take q).map encI) ∧ (∀ j, j < q → (f (DR.getD j [])).isSome = true) ∧ Below wk.heap.size wk wr) (fun _ i _ => m - (intOf i).toNat)
          case atStart => exact ⟨0, Nat.zero_le _, rfl, HO3.out, fun j hj => absurd hj (by omega), HB3.out⟩
          case round =>
            obtain ⟨q, hq, rfl, hown, hall, hbel⟩ := hrel
            have HOQ := hidD hown
            have HAQ := hidD hall
            have HBQ := hidD hbel
            obtain ⟨a9, c9, h9⟩ := row_shape hown
            subst h9
            have HMQ := hidD (HMK.out.next hbel)
            by_cases hqt : q < m
            · have hqti : (q : Int) < m := by omega
              obtain ⟨g5, o5, rfl, hg5, _, f4⟩ := HL5.out.cell (k := q) (by rw [HDL.out]; exact hqt)
              have f5 : wr.cell? ⟨g5, o5 + q, none⟩ = _ := (hbel.cell (p := ⟨g5, o5 + q, none⟩) hg5).trans f4
              have hyl := HXD.out.get (k := q) (by rw [HDL.out]; exact hqt)
              have hlk := HMQ.out.lookOk hyl
              rw [HVA.out] at hlk
              have hw0 := HF0.out (DR.getD q [])
              have hw1 := HF1.out (DR.getD q [])
              have HMX := hidD (HMV.out q (by rw [HDL.out]; exact hqt))
              have HSQ : Hid ((f (DR.getD q [])).isSome = true → ∀ j, j < q + 1 → (f (DR.getD j [])).isSome = true) := fun h j hj => by
                by_cases hjk : j = q
                · rw [hjk]; exact h
                · exact HAQ.out j (by omega)
              have HNQ : Hid ((f (DR.getD q [])).isSome = false → DR.all (fun x => (f x).isSome) = false) := fun h => all_txt_no (f := fun x => (f x).isSome) (by rw [HDL.out]; exact hqt) h
              unfold encT at f5
              clear f4 hown hall hbel
              generalize DR.getD q [] = y at *
              generalize vaF f y = vy at *
              cases hs : (f y).isSome with
              | true =>
                rw [hs] at hlk
                have HS1 := hidD (HSQ.out hs)
                clear hs
                have HO6 := hidD (fun o => HOQ.out.alloc o)
                go_wp2_with (at_builtin; refine wpList_append_one Tryd.info3 rfl (by decide) HU3.out rfl _ _ rfl wk.heap.size (.slice a9 q c9) q (((DR.map (vaF f)).take q).map encI) rfl (HO6.out _) wr.heap.size (.int .i64 vy) rfl (new_cell1 wr (.int .i64 vy) 3 0 _ rfl) rfl (by omega) (by have := HBQ.out.size; simp; omega) ?_; intro v8 w8 hown8 hb8 hk8; have HO8 := hidD hown8; have HB8 := hidD (Below.trans (Below.alloc HBQ.out HBQ.out.size _) hb8); clear hown8 hb8 hk8)
                go_roundw
                case rel => exact ⟨q + 1, by omega, by go_num, by rw [HMX.out, List.map_append]; exact HO8.out, HS1.out, HB8.out⟩
                case measure => simp [intOf]; omega
              | false =>
                rw [hs] at hlk
                have HF : Hid (L.all (roF f E) = false) := HNO.out (by rw [HRK.out]; exact HNQ.out hs)
                clear hs
                go_wp2
                refine bodyPost_ret (v := .tuple #[.slice none 0 0, .bool false]) (by simp [results, Tryd.results58, go_sem]) rfl ?_
                exact ⟨fun h => (by rw [HF.out] at h; cases h), fun _ => rfl, Below.next HBW.out HBQ.out⟩
            · obtain rfl : m = q := by omega
              have HAA : Hid (DR.all (fun x => (f x).isSome) = true) := all_txt (f := fun x => (f x).isSome) fun j hj => HAQ.out j (by rw [HDL.out] at hj; exact hj)
              have HSK := hidD (HST.out (by rw [HRK.out]; exact HAA.out))
              rw [HMM.out] at HOQ
              have HIR := hidD (ir_of_own (ss := DR.map (vaF f)) HOQ.out (by rw [List.length_map, HDL.out]))
              have HOK8 := hidD (row_below HOW.out HBQ.out)
              have HRK8 := hidD (HRU.out.next HBQ.out)
              have hlkl := HMQ.out.look hx0
              rw [HVA.out, HVE.out] at hlkl
              have f6 : wr.cell? ⟨g0, o0, none⟩ = _ := (hbel.cell (p := ⟨g0, o0, none⟩) hg0).trans f3
              have HVX : Hid (((vx.toNat : Nat) : Int) = vx) := Int.toNat_of_nonneg hv0
              have HO6 := hidD (fun o => HOK8.out.alloc o)
              have HAL6 : Hid (∀ o, Below wr.heap.size wr (wr.alloc o)) := fun o => (Below.refl _ _).alloc (Nat.le_refl _) o
              have HBWQ := hidD (Below.next HBW.out HBQ.out)
              have HNC := hidD (new_cell2 wr (.int .i64 vx) (.slice a9 m c9) 63)
              have HBS : Hid (B ≤ wr.heap.size) := Nat.le_trans HBB.out HBQ.out.size
              clear hown hall hbel
              go_wp2_with (at_builtin; refine wpList_append_rule rfl _ _ rfl w.heap.size (.slice a8 k c8) k xs rfl (HO6.out _) wr.heap.size (.int .i64 vx) (.slice a9 m c9) rfl HNC.out.1 HNC.out.2 rfl rfl (by omega) (by have := HBWQ.out.size; simp; omega) ?_; intro v8 w8 hown8 hb8 hk8; have HO8 := hidD hown8; have HB8 := hidD (Below.trans (Below.next HBWQ.out (HAL6.out _)) hb8); have HZ8 : Hid (B ≤ w8.heap.size) := Nat.le_trans HBS.out (Nat.le_trans (HAL6.out _).size hb8.size); have HR8 := hidD (((HRK8.out.next (HAL6.out _)).stay hk8 (by decide)).mono HZ8.out); have HI8 := hidD (((HIR.out.next (HAL6.out _)).stay hk8 (by decide)).all); clear hown8 hb8 hk8)
              go_roundw
              case rel =>
                refine ⟨k + 1, w8.heap.size, _, by omega, by go_num, HO8.out, ?_, Nat.le_refl _, HSK.out, HB8.out⟩
                rw [HMN.out, HNK.out]
                have := HR8.out.more (l := vx.toNat) HI8.out
                rw [HVX.out] at this
                exact this
              case measure => simp [intOf]; omega
        · have hle : vx ≤ (E : Int) := by omega
          have hled : decide (vx ≤ (E : Int)) = true := decide_eq_true hle
          rw [decide_eq_false hEv] at HRK
          have HF : Hid (L.all (roF f E) = false) := HNO.out HRK.out
          clear hEv
          go_wp2
          refine bodyPost_ret (v := .tuple #[.slice none 0 0, .bool false]) (by simp [results, Tryd.results58, go_sem]) rfl ?_
          exact ⟨fun h => (by rw [HF.out] at h; cases h), fun _ => rfl, HBW.out⟩
      · obtain rfl : ln = 0 := by omega
        have HF : Hid (L.all (roF f E) = false) := HNO.out (by rw [HRK.out]; rfl)
        go_wp2
        refine bodyPost_ret (v := .tuple #[.slice none 0 0, .bool false]) (by simp [results, Tryd.results58, go_sem]) rfl ?_
        exact ⟨fun h => (by rw [HF.out] at h; cases h), fun _ => rfl, HBW.out⟩
    · obtain rfl : n = k := by omega
      have HT : Hid (L.all (roF f E) = true) := HAG.out HAL.out
      rw [HML.out] at HRU
      clear hown hru hB hall hbel
      go_wp2
      refine bodyPost_ret (v := .tuple #[.slice a8 n c8, .bool true]) (by simp [results, Tryd.results58, go_sem]) rfl ?_
      exact ⟨fun _ => ⟨_, B, xs, rfl, HOW.out, HRU.out⟩, fun h => (by rw [HT.out] at h; cases h), HBW.out⟩
end Go.Proofs.YtgmbkelmgolkpaaDoor
