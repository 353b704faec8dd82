/- Columns of cells that are not too wide: what the statement reckons. -/
import Derived.Test.YtmmlmpcalhfigabStd
namespace Go.Proofs.Ytmmlmpcalhfigab
open Go.RowKit Go.Maps Go.Sort
set_option linter.unusedVariables false

theorem upd_less {U : List Nat} {j wd : Nat} (h : (more U j).getD j 0 < wd) : (intsC (more U j)).set j (.int .i64 (wd : Int)) = intsC (upd U j wd) := by
  rw [← ints_set]
  congr 2
  omega
theorem set_same (l : List Nat) (j : Nat) : l.set j (l.getD j 0) = l := by
  apply List.ext_getElem?
  intro i
  by_cases h : j = i
  · subst h
    rw [List.getElem?_set]
    split
    · split
      · rename_i h1; rw [List.getD, List.getElem?_eq_getElem h1]; rfl
      · rename_i h1; rw [List.getElem?_eq_none (by omega)]
    · rfl
  · rw [List.getElem?_set_ne h]
theorem upd_not {U : List Nat} {j wd : Nat} (h : ¬ (more U j).getD j 0 < wd) : upd U j wd = more U j := by
  unfold upd
  rw [show max ((more U j).getD j 0) wd = (more U j).getD j 0 by omega, set_same]
theorem more_zero {U : List Nat} {j : Nat} (h : j = U.length) : (more U j).getD j 0 = 0 := by
  rw [more_app h]
  subst h
  simp
/-- No cell of the first n rows is too wide. -/
def Fits (L : List Rw) (n : Nat) : Prop := ∀ m, m < n → ∀ k, k < (L.getD m rw0).ss.length → wid ((L.getD m rw0).ss.getD k []) ≤ 255
theorem maxTo_fits {L : List Rw} (k : Nat) : ∀ n, Fits L n → maxTo L k n ≤ 255
  | 0, _ => by rw [maxTo]; omega
  | n + 1, h => by
    have h1 := maxTo_fits k n (fun m hm => h m (by omega))
    have h2 : widRow (L.getD n rw0) k ≤ 255 := by
      unfold widRow
      split
      · rename_i hk; exact h n (by omega) k hk
      · omega
    rw [maxTo]; omega
theorem maxTo_ge {L : List Rw} (k : Nat) : ∀ n m, m < n → k < (L.getD m rw0).ss.length → wid ((L.getD m rw0).ss.getD k []) ≤ maxTo L k n
  | 0, m, h, _ => by omega
  | n + 1, m, h, hk => by
    rw [maxTo]
    by_cases hm : m = n
    · subst hm
      have : widRow (L.getD m rw0) k = wid ((L.getD m rw0).ss.getD k []) := by unfold widRow; rw [if_pos hk]; rfl
      omega
    · have := maxTo_ge k n m (by omega) hk
      omega
theorem fits_ws {L : List Rw} (h : Fits L L.length) {m : Nat} (hm : m < L.length) : ∀ k, k < (L.getD m rw0).ss.length → wid ((L.getD m rw0).ss.getD k []) ≤ (wsTo L L.length).getD k 0 ∧ (wsTo L L.length).getD k 0 ≤ 255 := fun k hk => by
  rw [wsTo_at]
  exact ⟨maxTo_ge k _ m hm hk, maxTo_fits k _ h⟩
theorem Fits.more {L : List Rw} {n : Nat} (h : Fits L n) (hr : ∀ k, k < (L.getD n rw0).ss.length → wid ((L.getD n rw0).ss.getD k []) ≤ 255) : Fits L (n + 1) := fun m hm k hk => by
  by_cases e : m = n
  · subst e; exact hr k hk
  · exact h m (by omega) k hk
theorem offS_le {ws : List Nat} (h : ∀ k, ws.getD k 0 ≤ 255) : ∀ k, offS ws k ≤ k * 257
  | 0 => by rw [offS]; omega
  | k + 1 => by
    have := offS_le h k
    have := h k
    rw [offS]; omega
/-- What the walk asks of a cell of a line. -/
theorem cell_stands {L : List Rw} (h : Fits L L.length) {i : Nat} (hi : i < L.length) {k : Nat} (hk : k < (L.getD i rw0).ss.length) :
    offS (wsTo L L.length) k + (charsS ((L.getD i rw0).ss.getD k [])).length ≤ (charsS (lineOf L [] i)).length ∧ ∀ j, j < (charsS ((L.getD i rw0).ss.getD k [])).length → (charsS (lineOf L [] i)).getD (offS (wsTo L L.length) k + j) [] = (charsS ((L.getD i rw0).ss.getD k [])).getD j [] := by
  obtain ⟨A, B, h1, h2⟩ := line_stands (fits_ws h hi) k hk
  have := stands_at (C := charsS (lineOf L [] i)) (A := A) (X := charsS ((L.getD i rw0).ss.getD k [])) (B := B) h1
  rw [h2] at this
  exact this
theorem lineOf_len {L : List Rw} (hs : SmallRows L) {i : Nat} (hi : i < L.length) : (lineOf L [] i).length ≤ 1099781111808 := by
  have h1 := hs.cells _ (mem_getDR hi)
  have h2 := lineTo_len (hs.texts _ (mem_getDR hi)) (ws := wsTo L L.length) (rs := []) _ (Nat.le_refl _)
  unfold lineOf
  omega
end Go.Proofs.Ytmmlmpcalhfigab
