/- What line of the program answers: a row's cells behind each other. -/
import Derived.Test.YtmmlmpcalhfigabBld
namespace Go.Proofs.Ytmmlmpcalhfigab
open Go.RowKit Go.Maps Go.Sort
set_option linter.unusedVariables false

/-- A slice value whose cells are these. -/
def CellsOf (w : World) (sl : Value) (n : Nat) (cs : Nat → Value) : Prop :=
  (n = 0 ∧ ∃ a cap, sl = .slice a 0 cap) ∨ ∃ g off cap, sl = .slice (some ⟨g, off, none⟩) n cap ∧ g < w.heap.size ∧ ∀ j, j < n → w.cell? ⟨g, off + j, none⟩ = some (cs j)
theorem CellsOf.below {B : Nat} {w w' : World} {sl : Value} {n : Nat} {cs : Nat → Value} (h : CellsOf w sl n cs) (hb : Below B w w') (hB : w.heap.size ≤ B) : CellsOf w' sl n cs := by
  rcases h with h | ⟨g, off, cap, rfl, hg, hc⟩
  · exact .inl h
  · exact .inr ⟨g, off, cap, rfl, Nat.lt_of_lt_of_le hg hb.size, fun j hj => (hb.cell (p := ⟨g, off + j, none⟩) (Nat.lt_of_lt_of_le hg hB)).trans (hc j hj)⟩
def intAt (ws : List Nat) (j : Nat) : Value := .int .i64 ((ws.getD j 0 : Nat) : Int)
def boolAt (rs : List Bool) (j : Nat) : Value := .bool (rs.getD j false)

/-- A cell as it stands in its line. -/
def cellS (ss : List (List UInt8)) (ws : List Nat) (rs : List Bool) (k : Nat) : List UInt8 :=
  if k < rs.length ∧ rs.getD k false = true then rightS (ss.getD k []) (ws.getD k 0 : Nat) else if k + 1 < ss.length then leftS (ss.getD k []) (ws.getD k 0 : Nat) else ss.getD k []
def gapS (k : Nat) : List UInt8 := if 0 < k then [32, 32] else []
def lineTo (ss : List (List UInt8)) (ws : List Nat) (rs : List Bool) : Nat → List UInt8
  | 0 => []
  | k + 1 => lineTo ss ws rs k ++ gapS k ++ cellS ss ws rs k
theorem left_len (x : List UInt8) (width : Int) : (leftS x width).length ≤ x.length + 255 := by
  have := missS_le ⟨x.toArray⟩ width
  unfold leftS; simp; omega
theorem right_len (x : List UInt8) (width : Int) : (rightS x width).length ≤ x.length + 255 := by
  have := missS_le ⟨x.toArray⟩ width
  unfold rightS; simp; omega
theorem cellS_len {ss : List (List UInt8)} {ws : List Nat} {rs : List Bool} {k : Nat} (h : ∀ x ∈ ss, x.length ≤ 1048576) (hk : k < ss.length) : (cellS ss ws rs k).length ≤ 1048831 := by
  have h1 := h _ (mem_getDS hk)
  have h2 := left_len (ss.getD k []) (ws.getD k 0 : Nat)
  have h3 := right_len (ss.getD k []) (ws.getD k 0 : Nat)
  unfold cellS
  split
  · omega
  · split <;> omega
theorem lineTo_len {ss : List (List UInt8)} {ws : List Nat} {rs : List Bool} (h : ∀ x ∈ ss, x.length ≤ 1048576) : ∀ k, k ≤ ss.length → (lineTo ss ws rs k).length ≤ k * 1048833
  | 0, _ => by simp [lineTo]
  | k + 1, hk => by
    have h1 := lineTo_len h (ws := ws) (rs := rs) k (by omega)
    have h2 := cellS_len h (ws := ws) (rs := rs) (k := k) (by omega)
    have h3 : (gapS k).length ≤ 2 := by unfold gapS; split <;> simp
    rw [lineTo, List.length_append, List.length_append]
    omega
end Go.Proofs.Ytmmlmpcalhfigab
