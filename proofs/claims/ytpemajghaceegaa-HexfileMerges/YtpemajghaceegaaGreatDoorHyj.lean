/- Segments that are joined: every list of rising ones. Plain: joinG; in memory: SegsAt. -/
import Derived.Test.YtpemajghaceegaaGreatDoorHxv
namespace Go.Proofs.YtpemajghaceegaaGreatDoor
open Go.RowKit
set_option linter.unusedVariables false

/- places with their bytes -/
abbrev Pb := Int × List UInt8
def addL : List Pb → List UInt8 → List Pb
  | [], _ => []
  | [m], b => [(m.1, m.2 ++ b)]
  | m :: n :: r, b => m :: addL (n :: r) b
theorem addL_snoc : ∀ (M : List Pb) (m : Pb) (b : List UInt8), addL (M ++ [m]) b = M ++ [(m.1, m.2 ++ b)]
  | [], m, b => rfl
  | [x], m, b => rfl
  | x :: y :: r, m, b => by
    have := addL_snoc (y :: r) m b
    simp only [List.cons_append, addL] at this ⊢
    rw [this]
def joinG : List Pb → Int → List Pb → Option (List Pb)
  | M, e, [] => some M
  | M, e, x :: r => if x.1 < e then none else if e < x.1 then joinG (M ++ [x]) (x.1 + x.2.length) r else joinG (addL M x.2) (x.1 + x.2.length) r
/- a segment of one's own: its place, its slice, its bytes -/
abbrev Sgb := Int × Value × List UInt8
def encT (t : Sgb) : List Value := [.int .i64 t.1, t.2.1]
def flatB (T : List Sgb) : List Value := T.flatMap encT
def pbT (t : Sgb) : Pb := (t.1, t.2.2)
theorem flatB_app (A B : List Sgb) : flatB (A ++ B) = flatB A ++ flatB B := by unfold flatB; rw [List.flatMap_append]
theorem flatB_len : ∀ T : List Sgb, (flatB T).length = 2 * T.length
  | [] => rfl
  | t :: T => by show (encT t ++ flatB T).length = _; rw [List.length_append, flatB_len T]; simp only [encT, List.length_cons, List.length_nil]; omega
def RowB (w : World) (B : Nat) (t : Sgb) : Prop := w.ownsRow B 5 1 t.2.1 t.2.2.length (t.2.2.map encB) ∧ 0 < t.2.2.length
def SegsAt (e : TypeId) (B : Nat) (w : World) (l : Value) (T : List Sgb) : Prop := w.ownsRow B e 2 l T.length (flatB T) ∧ ∀ t ∈ T, RowB w B t
/- the last one's bytes lie behind all others' -/
def LastAt (w : World) (T : List Sgb) : Prop := ∀ T0 t, T = T0 ++ [t] → ∃ b0, w.ownsRow b0 5 1 t.2.1 t.2.2.length (t.2.2.map encB) ∧ ∀ s ∈ T0, ∀ k, s.2.1.ownBlock = some k → k < b0
theorem row_keep {w w' : World} {B : Nat} {e : TypeId} {k : Nat} {v : Value} {n : Nat} {xs : List Value} (h : w.ownsRow B e k v n xs) (hk : ∀ g, v.ownBlock = some g → w'.heap[g]? = w.heap[g]?) : w'.ownsRow B e k v n xs := by
  refine ⟨h.1, ?_⟩
  rcases h.2 with h0 | ⟨g, cap, cur, hv, hbg, hg, h3⟩
  · exact .inl h0
  · exact .inr ⟨g, cap, cur, hv, hbg, (hk g (by rw [hv]; rfl)).trans hg, h3⟩
/- what lies in an own row's block -/
theorem row_block {w : World} {B : Nat} {e : TypeId} {k : Nat} {v : Value} {n : Nat} {xs : List Value} (h : w.ownsRow B e k v n xs) {g : Nat} (hg : v.ownBlock = some g) : B ≤ g ∧ g < w.heap.size ∧ ∃ cur, w.heap[g]? = some (.cells cur e (0, 0)) := by
  rcases h.2 with ⟨rfl, _⟩ | ⟨b, cap, cur, rfl, hb, hh, _⟩
  · cases hg
  · cases hg; exact ⟨hb, row_lt hh, cur, hh⟩
theorem blocks_aparE {w : World} {B B' : Nat} {k k' n n' : Nat} {v v' : Value} {xs xs' : List Value} {e : TypeId} (he : e ≠ 5) (h : w.ownsRow B 5 k v n xs) (h' : w.ownsRow B' e k' v' n' xs') {g g' : Nat} (hg : v.ownBlock = some g) (hg' : v'.ownBlock = some g') : g ≠ g' := by
  obtain ⟨_, _, c, hc⟩ := row_block h hg
  obtain ⟨_, _, c', hc'⟩ := row_block h' hg'
  rintro rfl
  rw [hc] at hc'
  cases hc'
  exact he rfl
theorem blocks_apart {w : World} {B B' : Nat} {k k' n n' : Nat} {v v' : Value} {xs xs' : List Value} (h : w.ownsRow B 5 k v n xs) (h' : w.ownsRow B' 36 k' v' n' xs') {g g' : Nat} (hg : v.ownBlock = some g) (hg' : v'.ownBlock = some g') : g ≠ g' := blocks_aparE (by decide) h h' hg hg'
theorem row_at {w : World} {B : Nat} {e : TypeId} {k : Nat} {v : Value} {n : Nat} {xs : List Value} (h : w.ownsRow B e k v n xs) (hn : 0 < n) {b0 : Nat} (hb : ∀ g, v.ownBlock = some g → b0 ≤ g) : w.ownsRow b0 e k v n xs := by
  refine ⟨h.1, ?_⟩
  rcases h.2 with ⟨rfl, h0⟩ | ⟨g, cap, cur, hv, hbg, hg, h3⟩
  · omega
  · exact .inr ⟨g, cap, cur, hv, hb g (by rw [hv]; rfl), hg, h3⟩
/- the last one's slice is written anew -/
theorem segs_put {w : World} {B g cap n : Nat} {e : TypeId} {T0 : List Sgb} {t : Sgb} (h : w.ownsRow B e 2 (.slice (some ⟨g, 0, none⟩) n cap) n (flatB (T0 ++ [t]))) (hn : n = T0.length + 1) (y : Value) (bs : List UInt8) :
    (w.setCell ⟨g, T0.length * 2 + 1, none⟩ y).ownsRow B e 2 (.slice (some ⟨g, 0, none⟩) n cap) n (flatB (T0 ++ [(t.1, y, bs)])) := by
  rcases h.2 with ⟨h0, _⟩ | ⟨b, cap', cur, hv, hbg, hg, h1, h2, h3, h4⟩
  · cases h0
  · cases hv
    have hfl : (flatB (T0 ++ [(t.1, y, bs)])).length = n * 2 := by rw [flatB_len, List.length_append, hn]; simp; omega
    refine ⟨hfl, .inr ⟨g, cap, _, rfl, hbg, heap_setCell_same _ g (T0.length * 2 + 1) _ _ _ hg, h1, h2, by rw [Array.size_setIfInBounds]; exact h3, ?_⟩⟩
    rw [Array.toList_setIfInBounds, List.take_set, h4, flatB_app, flatB_app]
    rw [List.set_append_right _ _ (by rw [flatB_len]; omega), flatB_len, show T0.length * 2 + 1 - 2 * T0.length = 1 by omega]
    rfl
theorem flat_get {T0 : List Sgb} {t : Sgb} : (flatB (T0 ++ [t]))[T0.length * 2]? = some (.int .i64 t.1) ∧ (flatB (T0 ++ [t]))[T0.length * 2 + 1]? = some t.2.1 := by
  rw [flatB_app, List.getElem?_append_right (by rw [flatB_len]; omega), List.getElem?_append_right (by rw [flatB_len]; omega), flatB_len, show T0.length * 2 - 2 * T0.length = 0 by omega, show T0.length * 2 + 1 - 2 * T0.length = 1 by omega]
  exact ⟨rfl, rfl⟩
theorem row_set {w : World} {B g o : Nat} {e : TypeId} {k : Nat} {v : Value} {n : Nat} {xs : List Value} (h : w.ownsRow B e k v n xs) (hne : ∀ b, v.ownBlock = some b → b ≠ g) (y : Value) : (w.setCell ⟨g, o, none⟩ y).ownsRow B e k v n xs :=
  row_keep h fun b hb => heap_setCell_other w ⟨g, o, none⟩ b y (hne b hb)
theorem rowB_keep {w w' : World} {B : Nat} {t : Sgb} (h : RowB w B t) (hk : ∀ g, t.2.1.ownBlock = some g → w'.heap[g]? = w.heap[g]?) : RowB w' B t := ⟨row_keep h.1 hk, h.2⟩
/- the temporary copy of a segment is not the list's block -/
theorem temp_apart {w : World} {B g cap : Nat} {T : List Sgb} {sa : Int} {sp : Option Addr} {sn sc a : Nat} {y : Value} (h : w.ownsRow B 36 2 (.slice (some ⟨g, 0, none⟩) (T.length + 1) cap) (T.length + 1) (flatB (T ++ [(sa, y, [])])))
    (ha : w.heap[a]? = some (.cells #[.int .i64 sa, .slice sp sn sc] (36 : TypeId) (0, 0))) (hy : y ≠ .slice sp sn sc) : g ≠ a := by
  rintro rfl
  obtain ⟨g', cap', cur, e, hb, hg, h1, h2, h3⟩ := row_cells h (by omega)
  cases e
  rw [ha] at hg
  cases hg
  have := h3 (T.length * 2 + 1) (by omega)
  rw [flat_get.2] at this
  cases hT : T with
  | nil => rw [hT] at this; simp at this; exact hy this.symm
  | cons t r => rw [hT] at this; rw [Array.getElem?_eq_none (by simp; omega)] at this; cases this
theorem segs_last {w : World} {B g cap n : Nat} {e : TypeId} {T0 : List Sgb} {t : Sgb} (h : w.ownsRow B e 2 (.slice (some ⟨g, 0, none⟩) n cap) n (flatB (T0 ++ [t]))) (hn : n = T0.length + 1) :
    w.cell? ⟨g, T0.length * 2 + 1, none⟩ = some t.2.1 ∧ w.frozen? ⟨g, T0.length * 2 + 1, none⟩ = false ∧ g < w.heap.size ∧ B ≤ g := by
  obtain ⟨g', cap', cur, ee, hb, hg, h1, h2, h3⟩ := row_cells h (by omega)
  cases ee
  refine ⟨?_, frozen_of_row _ _ _ _ _ hg, row_lt hg, hb⟩
  rw [cell_of_row _ _ _ _ _ _ hg, h3 _ (by omega), flat_get.2]
end Go.Proofs.YtpemajghaceegaaGreatDoor
