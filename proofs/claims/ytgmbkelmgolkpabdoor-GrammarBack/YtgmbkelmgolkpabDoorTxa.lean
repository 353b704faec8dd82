/- Texts in memory that are read; rows of texts. -/
import Derived.Test.YtgmbkelmgolkpabDoorBase
import Derived.Test.YtgmbkelmgolkpabDoorGsp
import Derived.Laws.Strings
namespace Go.Proofs.YtgmbkelmgolkpabDoor
open Go.RowKit
set_option linter.unusedVariables false

def bA (x : Tx) : ByteArray := ⟨x.toArray⟩
def encT (x : Tx) : Value := .string (bA x)
/-- Texts in memory, in blocks below B. -/
def SrAt (w : World) (B : Nat) (v : Value) (ss : List Tx) : Prop := ∃ a cap, v = .slice a ss.length cap ∧ ss.length ≤ cap ∧ (cap ≤ 9223372036854775807 ∧ (a = none → cap = 0)) ∧ ∀ k, k < ss.length → ∃ g o cs, a = some ⟨g, o, none⟩ ∧ g < B ∧ w.heap[g]? = some (.cells cs 9 (0, 0)) ∧ cs[o + k]? = some (encT (ss.getD k []))
theorem SrAt.shape {w : World} {B : Nat} {v : Value} {ss : List Tx} (h : SrAt w B v ss) : ∃ a cap, v = .slice a ss.length cap := by
  obtain ⟨a, cap, h1, _⟩ := h
  exact ⟨a, cap, h1⟩
theorem SrAt.cell {w : World} {B n cap : Nat} {a : Option Addr} {ss : List Tx} (h : SrAt w B (.slice a n cap) ss) {k : Nat} (hk : k < ss.length) : ∃ g o, a = some ⟨g, o, none⟩ ∧ g < w.heap.size ∧ g < B ∧ w.cell? ⟨g, o + k, none⟩ = some (encT (ss.getD k [])) := by
  obtain ⟨a2, cap2, h1, _, _, h2⟩ := h
  cases h1
  obtain ⟨g, o, cs, e1, e2, e3, e4⟩ := h2 k hk
  exact ⟨g, o, e1, row_lt e3, e2, (cell_of_row _ _ _ _ _ _ e3).trans e4⟩
theorem SrAt.kept {w w' : World} {B : Nat} {v : Value} {ss : List Tx} (h : SrAt w B v ss) (hb : ∀ g, g < B → g < w.heap.size → (∃ cs, w.heap[g]? = some (.cells cs 9 (0, 0))) → w'.heap[g]? = w.heap[g]?) : SrAt w' B v ss := by
  obtain ⟨a, cap, h1, h2, h3, h4⟩ := h
  refine ⟨a, cap, h1, h2, h3, fun k hk => ?_⟩
  obtain ⟨g, o, cs, e1, e2, e3, e4⟩ := h4 k hk
  exact ⟨g, o, cs, e1, e2, (hb g e2 (row_lt e3) ⟨cs, e3⟩).trans e3, e4⟩
theorem SrAt.next {w w' : World} {B : Nat} {v : Value} {ss : List Tx} (h : SrAt w B v ss) (hb : Below w.heap.size w w') : SrAt w' B v ss := h.kept fun g _ hg _ => hb.block g hg
theorem SrAt.mono {w : World} {B B' : Nat} {v : Value} {ss : List Tx} (h : SrAt w B v ss) (hB : B ≤ B') : SrAt w B' v ss := by
  obtain ⟨a, cap, h1, h2, h3, h4⟩ := h
  refine ⟨a, cap, h1, h2, h3, fun k hk => ?_⟩
  obtain ⟨g, o, cs, e1, e2, e3, e4⟩ := h4 k hk
  exact ⟨g, o, cs, e1, by omega, e3, e4⟩
theorem SrAt.all {w : World} {B : Nat} {v : Value} {ss : List Tx} (h : SrAt w B v ss) : SrAt w w.heap.size v ss := by
  obtain ⟨a, cap, h1, h2, h3, h4⟩ := h
  refine ⟨a, cap, h1, h2, h3, fun k hk => ?_⟩
  obtain ⟨g, o, cs, e1, e2, e3, e4⟩ := h4 k hk
  exact ⟨g, o, cs, e1, row_lt e3, e3, e4⟩
theorem sr_of_own {w : World} {base n : Nat} {v : Value} {ss : List Tx} (h : w.ownsRow base 9 1 v n (ss.map encT)) (hn : n = ss.length) : SrAt w w.heap.size v ss := by
  subst hn
  rcases h.2 with ⟨rfl, h0⟩ | ⟨g, cap, cur, rfl, hb, hg, hnc, hcm, hcs, htk⟩
  · exact ⟨none, 0, by rw [h0], by omega, ⟨by omega, fun _ => rfl⟩, fun k hk => absurd hk (by omega)⟩
  · refine ⟨_, cap, rfl, hnc, ⟨by unfold maxLen at hcm; omega, nofun⟩, fun k hk => ⟨g, 0, cur, rfl, row_lt hg, hg, ?_⟩⟩
    have h5 : (cur.toList.take (ss.length * 1))[k]? = (ss.map encT)[k]? := by rw [htk]
    rw [List.getElem?_take, if_pos (by omega), List.getElem?_map, List.getElem?_eq_getElem hk, Array.getElem?_toList] at h5
    rw [Nat.zero_add, h5, List.getD_eq_getElem?_getD, List.getElem?_eq_getElem hk]
    rfl
/-- Rows of texts in memory. -/
def RlAt (w : World) (v : Value) (L : List (List Tx)) : Prop := ∃ a cap, v = .slice a L.length cap ∧ L.length ≤ cap ∧ cap ≤ 9223372036854775807 ∧ ∀ k, k < L.length → ∃ g o u, a = some ⟨g, o, none⟩ ∧ g < w.heap.size ∧ w.cell? ⟨g, o + k, none⟩ = some u ∧ SrAt w w.heap.size u (L.getD k [])
theorem RlAt.next {w w' : World} {v : Value} {L : List (List Tx)} (h : RlAt w v L) (hb : Below w.heap.size w w') : RlAt w' v L := by
  obtain ⟨a, cap, h1, h2, h3, h4⟩ := h
  refine ⟨a, cap, h1, h2, h3, fun k hk => ?_⟩
  obtain ⟨g, o, u, e1, e2, e3, e4⟩ := h4 k hk
  exact ⟨g, o, u, e1, Nat.lt_of_lt_of_le e2 hb.size, (hb.cell (p := ⟨g, o + k, none⟩) e2).trans e3, (e4.next hb).mono hb.size⟩
/-- Lengths that a text may have. -/
def TxOk (ss : List Tx) : Prop := ∀ x ∈ ss, x.length ≤ maxLen
theorem TxOk.get {ss : List Tx} (h : TxOk ss) {k : Nat} (hk : k < ss.length) : (ss.getD k []).length ≤ maxLen := h _ (by rw [List.getD_eq_getElem?_getD, List.getElem?_eq_getElem hk]; exact List.getElem_mem hk)
theorem ba_size (l : Tx) : (bA l).size = l.length := by simp [bA, ByteArray.size]
theorem ba_get (l : Tx) (k : Nat) (h : k < (bA l).size) : (bA l)[k] = l.getD k 0 := by
  have h' : k < l.length := by rw [← ba_size l]; exact h
  show l.toArray[k] = _
  simp [List.getD, List.getElem?_eq_getElem h']
theorem ba_list (l : Tx) : (bA l).toList = l := by rw [ByteArray.toList_eq]; rfl
theorem ba_inj {l m : Tx} : bA l = bA m ↔ l = m := ⟨fun h => by rw [← ba_list l, h, ba_list], fun h => by rw [h]⟩
end Go.Proofs.YtgmbkelmgolkpabDoor
