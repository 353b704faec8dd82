/- What tryRules needs. -/
import Derived.Test.YtgmbkelmgolkpabDoorRqb
namespace Go.Proofs.YtgmbkelmgolkpabDoor
open Go.RowKit Go.Maps
set_option linter.unusedVariables false

theorem sliceH27 (g o n c m : Nat) (hm : m ≤ c) (hc : 1 ≤ c) (w : World) : (Instr.sliceAt 27 (.slice (some ⟨g, o, none⟩) n c) none (some (.int .i64 (m : Int))) none).run Tryd.prog w = .ok (.slice (some ⟨g, o, none⟩) m c) w := by
  have hu : Tryd.prog.underlying 27 = some (.slice (Tryd.prog.elem 27)) := by kernel_rfl
  have he : Tryd.prog.elem 27 = 3 := by kernel_rfl
  obtain ⟨i0, hin, _, hz1, _⟩ := info_parts Tryd.info3
  rw [run_sliceAt_slice w 27 _ _ _ _ hu, run_slice_h w 27 _ n c hu .i64 (m : Int) (by omega) (by omega), he, run_sizeOf w hin, Result.andThen_ok]
  simp only [sliced, Int.toNat_natCast, Nat.zero_mul, Nat.sub_zero, Option.map_some, Addr.add_lit, Nat.add_zero]
  rw [if_neg (by omega)]
theorem sliceH104 (g o n c m : Nat) (hm : m ≤ c) (hc : 1 ≤ c) (w : World) : (Instr.sliceAt 104 (.slice (some ⟨g, o, none⟩) n c) none (some (.int .i64 (m : Int))) none).run Tryd.prog w = .ok (.slice (some ⟨g, o, none⟩) m c) w := by
  have hu : Tryd.prog.underlying 104 = some (.slice (Tryd.prog.elem 104)) := by kernel_rfl
  have he : Tryd.prog.elem 104 = 27 := by kernel_rfl
  obtain ⟨i0, hin, _, hz1, _⟩ := info_parts Tryd.info27
  rw [run_sliceAt_slice w 104 _ _ _ _ hu, run_slice_h w 104 _ n c hu .i64 (m : Int) (by omega) (by omega), he, run_sizeOf w hin, Result.andThen_ok]
  simp only [sliced, Int.toNat_natCast, Nat.zero_mul, Nat.sub_zero, Option.map_some, Addr.add_lit, Nat.add_zero]
  rw [if_neg (by omega)]
theorem IrAt.less {w : World} {B n c : Nat} {a : Option Addr} {l : List Int} (h : IrAt w B (.slice a n c) l) (m : Nat) (hm : m ≤ l.length) : IrAt w B (.slice a m c) (l.take m) := by
  obtain ⟨a', cap', e, h1, h2, h3⟩ := h
  cases e
  have hl : (l.take m).length = m := by rw [List.length_take]; omega
  refine ⟨a, c, by rw [hl], by omega, h2, fun k hk => ?_⟩
  rw [hl] at hk
  obtain ⟨g, o, cs, e1, e2, e3, e4⟩ := h3 k (by omega)
  exact ⟨g, o, cs, e1, e2, e3, by rw [List.getD_eq_getElem?_getD, List.getElem?_take, if_pos hk, ← List.getD_eq_getElem?_getD]; exact e4⟩
theorem IrAt.cell {w : World} {B n cap : Nat} {a : Option Addr} {ss : List Int} (h : IrAt w B (.slice a n cap) ss) {k : Nat} (hk : k < ss.length) : ∃ g o, a = some ⟨g, o, none⟩ ∧ g < w.heap.size ∧ w.cell? ⟨g, o + k, none⟩ = some (.int .i64 (ss.getD k 0)) ∧ ss.length ≤ cap := by
  obtain ⟨a2, cap2, h1, h0, _, h2⟩ := h
  cases h1
  obtain ⟨g, o, cs, e1, e2, e3, e4⟩ := h2 k hk
  exact ⟨g, o, e1, row_lt e3, (cell_of_row _ _ _ _ _ _ e3).trans e4, h0⟩
/-- A list that is pushed if it is filled. -/
def pfS (W : List (List Int)) (c : List Int) : List (List Int) := if c.length = 0 then W else W ++ [c]
theorem pf_flat (W : List (List Int)) (c : List Int) : (pfS W c).flatten = W.flatten ++ c := by
  unfold pfS; split
  · rename_i h; rw [List.eq_nil_of_length_eq_zero h, List.append_nil]
  · rw [List.flatten_append, List.flatten_singleton]
theorem pf_len (W : List (List Int)) (c : List Int) : (pfS W c).length ≤ W.length + 1 := by
  unfold pfS; split
  · omega
  · rw [List.length_append]; exact Nat.le_refl _
theorem pf_all {W : List (List Int)} {c : List Int} (h : ∀ r ∈ W, 1 ≤ r.length) : ∀ r ∈ pfS W c, 1 ≤ r.length := by
  unfold pfS; split
  · exact h
  · rename_i h0
    intro r hr
    rcases List.mem_append.1 hr with hr | hr
    · exact h r hr
    · rw [List.mem_singleton] at hr; subst hr; omega
theorem push_any {base : Nat} {v u : Value} {vs : List Value} {W : List (List Int)} {c : List Int} (w : World) (hn : W.length ≤ 4398046511000) (hown : w.ownsRow base 27 1 v W.length vs) (hiv : IvAt w w.heap.size vs W) (hir : IrAt w w.heap.size u c) (hbase : base ≤ w.heap.size) : Calls Tryd.prog 57 #[v, u] w fun e w' => ∃ v' vs', e = .returned v' ∧ w'.ownsRow base 27 1 v' (pfS W c).length vs' ∧ IvAt w' w'.heap.size vs' (pfS W c) ∧ Below base w w' ∧ Kept 27 w w' := by
  have hir' := hir
  obtain ⟨a, cap, rfl⟩ := hir'.shape
  by_cases h0 : c.length = 0
  · have hp : pfS W c = W := if_pos h0
    rw [h0]
    refine (push_empty v a cap w).mono fun e w' ⟨h1, h2⟩ => ⟨v, vs, h1, ?_, ?_, ?_, ?_⟩
    · rw [h2, hp]; exact hown
    · rw [h2, hp]; exact hiv
    · rw [h2]; exact Below.refl _ _
    · rw [h2]; exact fun _ _ _ => rfl
  · have hp : pfS W c = W ++ [c] := if_neg h0
    refine (push_some a c.length cap (by omega) hn w hown hbase).mono fun e w' ⟨u', h1, h2, h3, h4⟩ => ⟨u', vs ++ [.slice a c.length cap], h1, ?_, ?_, h3, h4⟩
    · rw [hp, List.length_append]; exact h2
    · rw [hp]; exact ((hiv.stay h4 (by decide)).mono h3.size).push ((hir.stay h4 (by decide)).mono h3.size)
/-- Rules that are tried: the nonterminals that wait, how long it gets. -/
def rgN (R : List (Nat × List Int)) (l : List Int) (k : Nat) : Nat × List Int := R.getD (l.getD k 0).toNat (0, [])
def pnTo (T : Nat) (R : List (Nat × List Int)) (st : Nat) (l : List Int) : Nat → List Int
  | 0 => [(st : Int)]
  | k + 1 => (pnTo T R st l k).dropLast ++ inS T (rgN R l k).2
def szTo (R : List (Nat × List Int)) (l : List Int) : Nat → Int
  | 0 => 1
  | k + 1 => szTo R l k + (((rgN R l k).2.length : Int) - 1)
def bgTo (R : List (Nat × List Int)) (l : List Int) : Nat → Bool
  | 0 => false
  | k + 1 => bgTo R l k || decide (1048576 < szTo R l (k + 1))
def fitS (T : Nat) (R : List (Nat × List Int)) (st : Nat) (l : List Int) (k : Nat) : Bool := decide (0 ≤ l.getD k 0) && decide (l.getD k 0 < (R.length : Int)) && decide (1 ≤ (pnTo T R st l k).length) && decide ((pnTo T R st l k).getD ((pnTo T R st l k).length - 1) 0 = ((rgN R l k).1 : Int))
def fitsS (T : Nat) (R : List (Nat × List Int)) (st : Nat) (l : List Int) : Bool := (List.range l.length).all (fitS T R st l)
def tryE (T : Nat) (R : List (Nat × List Int)) (st : Nat) (l : List Int) : Int := if fitsS T R st l then (if bgTo R l l.length then 3 else 0) else 1
theorem fits_true {T : Nat} {R : List (Nat × List Int)} {st : Nat} {l : List Int} (h : ∀ j, j < l.length → fitS T R st l j = true) : fitsS T R st l = true := by
  unfold fitsS
  rw [List.all_eq_true]
  exact fun j hj => h j (List.mem_range.1 hj)
theorem fits_false {T : Nat} {R : List (Nat × List Int)} {st : Nat} {l : List Int} {k : Nat} (hk : k < l.length) (h : fitS T R st l k = false) : fitsS T R st l = false := by
  unfold fitsS
  cases ha : (List.range l.length).all (fitS T R st l) with
  | false => rfl
  | true =>
    rw [List.all_eq_true] at ha
    rw [ha k (List.mem_range.2 hk)] at h; cases h
theorem last_of {α : Type} {l : List α} (h : 1 ≤ l.length) : ∃ l' x, l = l' ++ [x] := by
  rcases List.eq_nil_or_concat l with h1 | ⟨l', x, h1⟩
  · rw [h1] at h; simp at h
  · exact ⟨l', x, by rw [h1, List.concat_eq_append]⟩
theorem last_two {W : List (List Int)} (h1 : 1 ≤ W.length) (hne : ∀ r ∈ W, 1 ≤ r.length) : ∃ WI XI s, W = WI ++ [XI ++ [s]] := by
  obtain ⟨WI, X, rfl⟩ := last_of h1
  obtain ⟨XI, s, rfl⟩ := last_of (hne X (by simp))
  exact ⟨WI, XI, s, rfl⟩
theorem sz_bound {R : List (Nat × List Int)} {l : List Int} (h : ∀ k, (rgN R l k).2.length ≤ 1048576) : ∀ k : Nat, 1 - (k : Int) ≤ szTo R l k ∧ szTo R l k ≤ 1 + (k : Int) * 1048576
  | 0 => by simp [szTo]
  | k + 1 => by
    have ih := sz_bound h k
    have := h k
    rw [szTo]
    omega
theorem rg_len {R : List (Nat × List Int)} {n : Nat} (hR : RuOk R n) (l : List Int) (k : Nat) : (rgN R l k).2.length ≤ 1048576 := by
  unfold rgN
  by_cases h : (l.getD k 0).toNat < R.length
  · exact (hR _ h).2.1
  · rw [List.getD_eq_getElem?_getD, List.getElem?_eq_none (by omega)]; simp
end Go.Proofs.YtgmbkelmgolkpabDoor
