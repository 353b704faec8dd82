/- The plain functions of columns: how wide each is. -/
import Derived.Test.YtmmlmpcalhfigabWdt
namespace Go.Proofs.Ytmmlmpcalhfigab
open Go.RowKit Go.Maps Go.Sort
set_option linter.unusedVariables false

def wid (x : List UInt8) : Nat := widS ⟨x.toArray⟩ 0
/-- A column that is reached for the first time has width 0. -/
def more (ws : List Nat) (k : Nat) : List Nat := if k = ws.length then ws ++ [0] else ws
def upd (ws : List Nat) (k x : Nat) : List Nat := (more ws k).set k (max ((more ws k).getD k 0) x)
def updRow (ws : List Nat) (r : Rw) : Nat → List Nat
  | 0 => ws
  | j + 1 => upd (updRow ws r j) j (wid (r.ss.getD j []))
def wsTo (L : List Rw) : Nat → List Nat
  | 0 => []
  | n + 1 => updRow (wsTo L n) (L.getD n rw0) (L.getD n rw0).ss.length
def intsC (ws : List Nat) : List Value := ws.map fun n : Nat => Value.int .i64 (n : Int)
theorem intsC_len (ws : List Nat) : (intsC ws).length = ws.length := by simp [intsC]
theorem more_len (ws : List Nat) (k : Nat) (h : k ≤ ws.length) : (more ws k).length = max ws.length (k + 1) := by
  unfold more
  split
  · simp; omega
  · omega
theorem more_lt (ws : List Nat) (k : Nat) (h : k ≤ ws.length) : k < (more ws k).length := by
  rw [more_len ws k h]; omega
theorem upd_len (ws : List Nat) (k x : Nat) (h : k ≤ ws.length) : (upd ws k x).length = max ws.length (k + 1) := by
  unfold upd; rw [List.length_set, more_len ws k h]
theorem updRow_len (ws : List Nat) (r : Rw) : ∀ j, (updRow ws r j).length = max ws.length j
  | 0 => by simp [updRow]
  | j + 1 => by
    have h := updRow_len ws r j
    rw [updRow, upd_len _ _ _ (by omega), h]
    omega
theorem wsTo_len {L : List Rw} (h : SmallRows L) : ∀ n, n ≤ L.length → (wsTo L n).length ≤ 1048576
  | 0, _ => by simp [wsTo]
  | n + 1, hn => by
    have h1 := wsTo_len h n (by omega)
    have h2 := h.cells _ (mem_getDR (L := L) (k := n) (by omega))
    rw [wsTo, updRow_len]
    omega
theorem more_at (ws : List Nat) (k i : Nat) : (more ws k).getD i 0 = ws.getD i 0 := by
  unfold more
  split
  · rename_i h
    subst h
    rw [List.getD, List.getD]
    rcases Nat.lt_trichotomy i ws.length with h1 | h1 | h1
    · rw [List.getElem?_append_left h1]
    · subst h1; simp
    · rw [List.getElem?_append_right (by omega), List.getElem?_eq_none (by simp; omega), List.getElem?_eq_none (by omega)]
  · rfl
theorem upd_at (ws : List Nat) (k x i : Nat) (h : k ≤ ws.length) : (upd ws k x).getD i 0 = if i = k then max (ws.getD k 0) x else ws.getD i 0 := by
  unfold upd
  rw [more_at]
  by_cases hi : i = k
  · subst hi
    rw [if_pos rfl, List.getD, List.getElem?_set_self (more_lt ws i h)]
    rfl
  · rw [if_neg hi, List.getD, List.getElem?_set_ne (fun q => hi q.symm), ← List.getD, more_at]
theorem updRow_at (ws : List Nat) (r : Rw) : ∀ j i, (updRow ws r j).getD i 0 = if i < j then max (ws.getD i 0) (wid (r.ss.getD i [])) else ws.getD i 0
  | 0, i => by simp [updRow]
  | j + 1, i => by
    have hl := updRow_len ws r j
    rw [updRow, upd_at _ _ _ _ (by omega), updRow_at ws r j j, updRow_at ws r j i, if_neg (Nat.lt_irrefl j)]
    by_cases hi : i = j
    · subst hi; rw [if_pos rfl, if_pos (by omega)]
    · rw [if_neg hi]
      by_cases h2 : i < j
      · rw [if_pos h2, if_pos (by omega)]
      · rw [if_neg h2, if_neg (by omega)]
/-- What the program's widths are: the widest cell of each column. -/
theorem wsTo_at (L : List Rw) (k : Nat) : ∀ n, (wsTo L n).getD k 0 = maxTo L k n
  | 0 => by simp [wsTo, maxTo]
  | n + 1 => by
    rw [wsTo, updRow_at, maxTo, wsTo_at L k n, widRow]
    split
    · rfl
    · omega
theorem more_app {ws : List Nat} {k : Nat} (h : k = ws.length) : more ws k = ws ++ [0] := by unfold more; rw [if_pos h]
theorem more_same {ws : List Nat} {k : Nat} (h : ¬ k = ws.length) : more ws k = ws := by unfold more; rw [if_neg h]
theorem ints_set (ws : List Nat) (k x : Nat) : (intsC (more ws k)).set k (.int .i64 (max (((more ws k).getD k 0 : Nat) : Int) (x : Int))) = intsC (upd ws k x) := by
  unfold upd intsC
  rw [List.map_set]
  congr 2
  omega
theorem ints_at (ws : List Nat) (k : Nat) (h : k < ws.length) : (intsC ws)[k]? = some (.int .i64 ((ws.getD k 0 : Nat) : Int)) := by
  unfold intsC
  rw [List.getElem?_map, List.getD, List.getElem?_eq_getElem h]
  rfl
/-- A row that has come into the columns is no longer than they are many. -/
theorem wsTo_row (L : List Rw) : ∀ n m, m < n → (L.getD m rw0).ss.length ≤ (wsTo L n).length
  | 0, m, h => by omega
  | n + 1, m, h => by
    rw [wsTo, updRow_len]
    by_cases hm : m = n
    · subst hm; omega
    · have := wsTo_row L n m (by omega)
      omega
end Go.Proofs.Ytmmlmpcalhfigab
