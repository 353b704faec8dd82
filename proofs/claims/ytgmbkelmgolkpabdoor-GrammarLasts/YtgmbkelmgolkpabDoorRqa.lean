/- Rows of rows of numbers; what pushFilled and innerSymbols answer. -/
import Derived.Test.YtgmbkelmgolkpabDoorGd
namespace Go.Proofs.YtgmbkelmgolkpabDoor
open Go.RowKit Go.Maps
set_option linter.unusedVariables false

theorem Tryd.info27 : (Tryd.prog.info? 27).map (fun i => (i.zero, i.size, i.bytes)) = some (some (.slice none 0 0), 1, 24) := by kernel_rfl
theorem Tryd.under104 : Tryd.prog.underlying 104 = some (.slice 27) := by kernel_rfl
/-- Values that read as rows of numbers. -/
def IvAt (w : World) (B : Nat) (vs : List Value) (L : List (List Int)) : Prop := vs.length = L.length ∧ ∀ k, k < L.length → ∃ u, vs[k]? = some u ∧ IrAt w B u (L.getD k [])
theorem IvAt.nil (w : World) (B : Nat) : IvAt w B [] [] := ⟨rfl, fun k hk => absurd hk (by simp)⟩
theorem IvAt.stay {w w' : World} {B : Nat} {vs : List Value} {L : List (List Int)} {e' : TypeId} (h : IvAt w B vs L) (hk : Kept e' w w') (hne : (3 : TypeId) ≠ e') : IvAt w' B vs L := ⟨h.1, fun k hk' => by
  obtain ⟨u, h1, h2⟩ := h.2 k hk'
  exact ⟨u, h1, h2.stay hk hne⟩⟩
theorem IvAt.below {w w' : World} {B B' : Nat} {vs : List Value} {L : List (List Int)} (h : IvAt w B vs L) (hb : Below B' w w') (hB : B ≤ B') : IvAt w' B vs L := ⟨h.1, fun k hk' => by
  obtain ⟨u, h1, h2⟩ := h.2 k hk'
  exact ⟨u, h1, h2.below hb hB⟩⟩
theorem IvAt.next {w w' : World} {B : Nat} {vs : List Value} {L : List (List Int)} (h : IvAt w B vs L) (hb : Below w.heap.size w w') : IvAt w' B vs L := ⟨h.1, fun k hk' => by
  obtain ⟨u, h1, h2⟩ := h.2 k hk'
  exact ⟨u, h1, h2.next hb⟩⟩
theorem IvAt.mono {w : World} {B B' : Nat} {vs : List Value} {L : List (List Int)} (h : IvAt w B vs L) (hB : B ≤ B') : IvAt w B' vs L := ⟨h.1, fun k hk' => by
  obtain ⟨u, h1, h2⟩ := h.2 k hk'
  exact ⟨u, h1, h2.mono hB⟩⟩
theorem IvAt.push {w : World} {B : Nat} {vs : List Value} {L : List (List Int)} {u : Value} {c : List Int} (h : IvAt w B vs L) (h2 : IrAt w B u c) : IvAt w B (vs ++ [u]) (L ++ [c]) := by
  refine ⟨by rw [List.length_append, List.length_append, h.1]; rfl, fun k hk => ?_⟩
  rw [List.length_append, List.length_singleton] at hk
  by_cases hl : k < L.length
  · obtain ⟨u', e1, e2⟩ := h.2 k hl
    refine ⟨u', by rw [List.getElem?_append_left (by rw [h.1]; exact hl)]; exact e1, ?_⟩
    rw [List.getD_eq_getElem?_getD, List.getElem?_append_left hl, ← List.getD_eq_getElem?_getD]; exact e2
  · obtain rfl : k = L.length := by omega
    refine ⟨u, by rw [List.getElem?_append_right (by rw [h.1]; omega), h.1, Nat.sub_self]; rfl, ?_⟩
    rw [List.getD_eq_getElem?_getD, List.getElem?_append_right (Nat.le_refl _), Nat.sub_self]; exact h2
theorem IvAt.take {w : World} {B : Nat} {vs : List Value} {L : List (List Int)} (h : IvAt w B vs L) (m : Nat) : IvAt w B (vs.take m) (L.take m) := by
  refine ⟨by rw [List.length_take, List.length_take, h.1], fun k hk => ?_⟩
  rw [List.length_take] at hk
  obtain ⟨u, e1, e2⟩ := h.2 k (by omega)
  refine ⟨u, by rw [List.getElem?_take, if_pos (by omega)]; exact e1, ?_⟩
  rw [List.getD_eq_getElem?_getD, List.getElem?_take, if_pos (by omega), ← List.getD_eq_getElem?_getD]; exact e2
/-- The first of a row's elements, in the same block. -/
theorem row_less {w : World} {base e n cap m : Nat} {a : Option Addr} {xs : List Value} (h : w.ownsRow base e 1 (.slice a n cap) n xs) (hm : m ≤ n) (h0 : a ≠ none) : w.ownsRow base e 1 (.slice a m cap) m (xs.take m) := by
  refine ⟨by rw [List.length_take, h.1]; omega, ?_⟩
  rcases h.2 with ⟨h1, _⟩ | ⟨g, c, cur, hv, hb, hg, hnc, hcm, hcs, htk⟩
  · cases h1; exact absurd rfl h0
  · cases hv
    refine .inr ⟨g, cap, cur, rfl, hb, hg, by omega, hcm, hcs, ?_⟩
    rw [← htk, List.take_take, Nat.mul_one, Nat.mul_one, Nat.min_eq_left hm]
set_option maxRecDepth 100000 in
set_option maxHeartbeats 800000 in
theorem push_empty (v : Value) (a : Option Addr) (c : Nat) (w : World) : Calls Tryd.prog 57 #[v, .slice a 0 c] w fun e w' => e = .returned v ∧ w' = w := by
  go_enter Tryd.func57, Tryd.ntmps57
  go_wp2
  go_ret
  exact ⟨rfl, rfl⟩
set_option maxRecDepth 100000 in
set_option maxHeartbeats 800000 in
theorem push_some {base n : Nat} {v : Value} {xs : List Value} (a : Option Addr) (m c : Nat) (hm : 1 ≤ m) (hn : n ≤ 4398046511000) (w : World) (hown : w.ownsRow base 27 1 v n xs) (hbase : base ≤ w.heap.size) : Calls Tryd.prog 57 #[v, .slice a m c] w fun e w' => ∃ u, e = .returned u ∧ w'.ownsRow base 27 1 u (n + 1) (xs ++ [.slice a m c]) ∧ Below base w w' ∧ Kept 27 w w' := by
  have HOW := hidD hown
  obtain ⟨a0, c0, rfl⟩ := row_shape hown
  have h0 : ¬ (m : Int) = 0 := by omega
  have h0b : ((m : Int) == 0) = false := beq_eq_false_iff_ne.2 h0
  have HBS := hidD hbase
  have HAL : Hid (∀ o, Below base w (w.alloc o)) := fun o => (Below.refl _ _).alloc hbase o
  have HKA : Hid (∀ o, Kept 27 w (w.alloc o)) := fun o b hb _ => heap_alloc_old w o hb
  clear hown
  go_enter Tryd.func57, Tryd.ntmps57
  go_wp2_with (at_builtin; refine wpList_append_one Tryd.info27 rfl (by decide) Tryd.under104 rfl _ _ rfl base (.slice a0 n c0) n xs rfl (HOW.out.alloc _) w.heap.size (.slice a m c) rfl (new_cell1 w (.slice a m c) 27 0 _ rfl) rfl (by omega) (by have := HBS.out; simp; omega) ?_; intro v8 w8 h81 h82 h83; have HX1 := hidD h81; have HX2 := hidD ((HAL.out _).trans h82); have HX3 : Hid (Kept 27 w w8) := (fun b hb hne => by { have e1 := heap_alloc_old w (.cells #[.slice a m c] (27 : TypeId)) hb; exact (h83 b (by simp; omega) (fun cs e => hne cs (e1 ▸ e))).trans e1 }); clear h81 h82 h83)
  go_ret
  exact ⟨_, rfl, HX1.out, HX2.out, HX3.out⟩
end Go.Proofs.YtgmbkelmgolkpabDoor
