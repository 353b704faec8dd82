/- Texts of one proof, one behind the other. -/
import Derived.ProofKit
import Derived.Lib.FieldsP
import Derived.Lib.Split
import Derived.Test.YtgmbkelmgolkpaaDoorBase
import Derived.Laws.Strings
/- Plain: names, lines, alternatives, the names that rules have, their numbers. -/
namespace Go.Proofs.YtgmbkelmgolkpaaDoor
open Go.RowKit
set_option linter.unusedVariables false

abbrev Tx := List UInt8
def tEnd : Tx := [36]
def tArr : Tx := [45, 62]
def tOr : Tx := [124]
def okC (b : UInt8) : Bool := decide (32 < b.toNat) && decide (b.toNat < 127)
/-- Is it a name? -/
def nmS (x : Tx) : Bool := decide (1 ≤ x.length) && decide (x.length ≤ 32) && x.all okC && !(x == tEnd) && !(x == tArr) && !(x == tOr)
/-- Is it a line of a grammar? -/
def lnS (ws : List Tx) : Bool := decide (2 ≤ ws.length) && nmS (ws.getD 0 []) && (ws.getD 1 [] == tArr) && (ws.drop 2).all (fun x => x == tOr || nmS x)
/-- The alternatives of a line: those that have ended among the first k words, and the one that has not. -/
def alTo (ws : List Tx) : Nat → List (List Tx) × List Tx
  | 0 => ([], [ws.getD 0 []])
  | k + 1 => if ws.getD (2 + k) [] == tOr then ((alTo ws k).1 ++ [(alTo ws k).2], [ws.getD 0 []]) else ((alTo ws k).1, (alTo ws k).2 ++ [ws.getD (2 + k) []])
def alS (ws : List Tx) : List (List Tx) := (alTo ws (ws.length - 2)).1 ++ [(alTo ws (ws.length - 2)).2]
/-- What is met first, among the first k. -/
def frTo (N : List Tx) : Nat → List Tx
  | 0 => []
  | k + 1 => if (frTo N k).contains (N.getD k []) then frTo N k else frTo N k ++ [N.getD k []]
def leftsS (L : List (List Tx)) : List Tx := L.map fun r => r.getD 0 []
def teS (L : List (List Tx)) : List Tx := (frTo L.flatten L.flatten.length).filter fun x => !(leftsS L).contains x
def otS (L : List (List Tx)) : List Tx := (frTo L.flatten L.flatten.length).filter fun x => (leftsS L).contains x
/-- The number of a name: of terminals and others, with a gap for the end. -/
def nuS (T O : List Tx) (x : Tx) : Int := if T.contains x then (T.idxOf x : Int) else if O.contains x then ((T.length + 1 + O.idxOf x : Nat) : Int) else 0
/-- Rules with numbers for names. -/
def rnS (T O : List Tx) (r : List Tx) : Nat × List Int := ((nuS T O (r.getD 0 [])).toNat, (r.drop 1).map (nuS T O))
def roS (T O : List Tx) (r : List Tx) : Bool := !r.isEmpty && O.contains (r.getD 0 []) && (r.drop 1).all (fun x => T.contains x || O.contains x)
theorem fr_mem (N : List Tx) : ∀ k x, x ∈ frTo N k → x ∈ N ∨ x = []
  | 0, x, h => by cases h
  | k + 1, x, h => by
    rw [frTo] at h
    split at h
    · exact fr_mem N k x h
    · rcases List.mem_append.1 h with h | h
      · exact fr_mem N k x h
      · rw [List.mem_singleton] at h
        subst h
        by_cases hk : k < N.length
        · rw [List.getD_eq_getElem?_getD, List.getElem?_eq_getElem hk]
          exact .inl (List.getElem_mem hk)
        · exact .inr (by rw [List.getD_eq_getElem?_getD, List.getElem?_eq_none (by omega)]; rfl)
theorem getD_take {N : List Tx} {k : Nat} (hk : k < N.length) : N.take (k + 1) = N.take k ++ [N.getD k []] := by
  rw [List.take_succ_eq_append_getElem hk, List.getD_eq_getElem?_getD, List.getElem?_eq_getElem hk]; rfl
theorem fr_iff (N : List Tx) (x : Tx) : ∀ k, k ≤ N.length → (x ∈ frTo N k ↔ x ∈ N.take k)
  | 0, _ => by simp [frTo]
  | k + 1, hk => by
    have ih := fr_iff N x k (by omega)
    have ihk := fr_iff N (N.getD k []) k (by omega)
    rw [getD_take (by omega), frTo, List.mem_append, List.mem_singleton]
    split
    · rename_i h
      have hm := List.contains_iff_mem.1 h
      rw [ih]
      constructor
      · exact .inl
      · rintro (h1 | h1)
        · exact h1
        · rw [h1]; exact ihk.1 hm
    · rw [List.mem_append, List.mem_singleton, ih]
theorem fr_nodup (N : List Tx) : ∀ k, (frTo N k).Nodup
  | 0 => List.nodup_nil
  | k + 1 => by
    rw [frTo]
    split
    · exact fr_nodup N k
    · rename_i h
      rw [List.nodup_append]
      refine ⟨fr_nodup N k, by simp, fun a ha b hb e => ?_⟩
      rw [List.mem_singleton] at hb
      subst hb; subst e
      exact h (List.contains_iff_mem.2 ha)
theorem fr_len (N : List Tx) : ∀ k, (frTo N k).length ≤ k
  | 0 => Nat.le_refl _
  | k + 1 => by
    have := fr_len N k
    rw [frTo]; split
    · omega
    · rw [List.length_append, List.length_singleton]; omega
theorem al_len (ws : List Tx) : ∀ k, (alTo ws k).1.length ≤ k
  | 0 => Nat.le_refl _
  | k + 1 => by
    have := al_len ws k
    rw [alTo]; split
    · rw [List.length_append, List.length_singleton]; omega
    · show (alTo ws k).1.length ≤ _; omega
theorem al_cur (ws : List Tx) : ∀ k, 1 ≤ (alTo ws k).2.length ∧ (alTo ws k).2.length ≤ k + 1
  | 0 => by simp [alTo]
  | k + 1 => by
    have := al_cur ws k
    rw [alTo]; split
    · simp
    · simp only [List.length_append, List.length_singleton]; omega
theorem al_all (ws : List Tx) : ∀ k, (alTo ws k).1.flatten.length + (alTo ws k).2.length ≤ 2 * k + 1
  | 0 => by simp [alTo]
  | k + 1 => by
    have := al_all ws k
    rw [alTo]; split
    · simp only [List.flatten_append, List.length_append, List.flatten_singleton, List.length_singleton]; omega
    · simp only [List.length_append, List.length_singleton]; omega
theorem al_pos (ws : List Tx) : ∀ k, ∀ r ∈ (alTo ws k).1, 1 ≤ r.length
  | 0, r, h => by cases h
  | k + 1, r, h => by
    rw [alTo] at h
    split at h
    · rcases List.mem_append.1 h with h | h
      · exact al_pos ws k r h
      · rw [List.mem_singleton] at h; subst h; exact (al_cur ws k).1
    · exact al_pos ws k r h
theorem alS_len {ws : List Tx} (h : 2 ≤ ws.length) : (alS ws).length ≤ ws.length := by
  unfold alS
  have := al_len ws (ws.length - 2)
  rw [List.length_append, List.length_singleton]; omega
theorem alS_all {ws : List Tx} (h : 2 ≤ ws.length) : (alS ws).flatten.length ≤ 2 * ws.length := by
  unfold alS
  have := al_all ws (ws.length - 2)
  rw [List.flatten_append, List.flatten_singleton, List.length_append]; omega
theorem alS_pos {ws : List Tx} : ∀ r ∈ alS ws, 1 ≤ r.length := by
  intro r h
  unfold alS at h
  rcases List.mem_append.1 h with h | h
  · exact al_pos ws _ r h
  · rw [List.mem_singleton] at h; subst h; exact (al_cur ws _).1
/-- Words of a line: blanks part them. -/
def isBl (c : Nat) : Bool := c == 32 || c == 9
def fldS (l : Tx) : List Tx := (Lib.goFieldsP isBl ⟨l.toArray⟩).map fun b => b.data.toList
def skipS (ws : List Tx) : Bool := ws.isEmpty || (ws.getD 0 []).getD 0 0 == 35
/-- The rules of the first k lines. -/
def rdTo (ls : List Tx) : Nat → List (List Tx)
  | 0 => []
  | k + 1 => if skipS (fldS (ls.getD k [])) then rdTo ls k else rdTo ls k ++ alS (fldS (ls.getD k []))
def goodL (ls : List Tx) (k : Nat) : Bool := skipS (fldS (ls.getD k [])) || lnS (fldS (ls.getD k []))
end Go.Proofs.YtgmbkelmgolkpaaDoor
/- Texts in memory that are read; rows of texts. -/
namespace Go.Proofs.YtgmbkelmgolkpaaDoor
open Go.RowKit
set_option linter.unusedVariables false

def bA (x : Tx) : ByteArray := ⟨x.toArray⟩
def encT (x : Tx) : Value := .string (bA x)
/-- Texts in memory, in blocks below B. -/
def SrAt (w : World) (B : Nat) (v : Value) (ss : List Tx) : Prop := ∃ a cap, v = .slice a ss.length cap ∧ ss.length ≤ cap ∧ (cap ≤ 9223372036854775807 ∧ (a = none → cap = 0)) ∧ ∀ k, k < ss.length → ∃ g o cs, a = some ⟨g, o, none⟩ ∧ g < B ∧ w.heap[g]? = some (.cells cs 9 (0, 0)) ∧ cs[o + k]? = some (encT (ss.getD k []))
theorem SrAt.shape {w : World} {B : Nat} {v : Value} {ss : List Tx} (h : SrAt w B v ss) : ∃ a cap, v = .slice a ss.length cap := by
  obtain ⟨a, cap, h1, _⟩ := h
  exact ⟨a, cap, h1⟩
theorem SrAt.cell {w : World} {B n cap : Nat} {a : Option Addr} {ss : List Tx} (h : SrAt w B (.slice a n cap) ss) {k : Nat} (hk : k < ss.length) : ∃ g o, a = some ⟨g, o, none⟩ ∧ g < w.heap.size ∧ g < B ∧ w.cell? ⟨g, o + k, none⟩ = some (encT (ss.getD k [])) := by
  obtain ⟨a2, cap2, h1, _, _, h2⟩ := h
  cases h1
  obtain ⟨g, o, cs, e1, e2, e3, e4⟩ := h2 k hk
  exact ⟨g, o, e1, row_lt e3, e2, (cell_of_row _ _ _ _ _ _ e3).trans e4⟩
theorem SrAt.kept {w w' : World} {B : Nat} {v : Value} {ss : List Tx} (h : SrAt w B v ss) (hb : ∀ g, g < B → g < w.heap.size → (∃ cs, w.heap[g]? = some (.cells cs 9 (0, 0))) → w'.heap[g]? = w.heap[g]?) : SrAt w' B v ss := by
  obtain ⟨a, cap, h1, h2, h3, h4⟩ := h
  refine ⟨a, cap, h1, h2, h3, fun k hk => ?_⟩
  obtain ⟨g, o, cs, e1, e2, e3, e4⟩ := h4 k hk
  exact ⟨g, o, cs, e1, e2, (hb g e2 (row_lt e3) ⟨cs, e3⟩).trans e3, e4⟩
theorem SrAt.next {w w' : World} {B : Nat} {v : Value} {ss : List Tx} (h : SrAt w B v ss) (hb : Below w.heap.size w w') : SrAt w' B v ss := h.kept fun g _ hg _ => hb.block g hg
theorem SrAt.mono {w : World} {B B' : Nat} {v : Value} {ss : List Tx} (h : SrAt w B v ss) (hB : B ≤ B') : SrAt w B' v ss := by
  obtain ⟨a, cap, h1, h2, h3, h4⟩ := h
  refine ⟨a, cap, h1, h2, h3, fun k hk => ?_⟩
  obtain ⟨g, o, cs, e1, e2, e3, e4⟩ := h4 k hk
  exact ⟨g, o, cs, e1, by omega, e3, e4⟩
theorem SrAt.all {w : World} {B : Nat} {v : Value} {ss : List Tx} (h : SrAt w B v ss) : SrAt w w.heap.size v ss := by
  obtain ⟨a, cap, h1, h2, h3, h4⟩ := h
  refine ⟨a, cap, h1, h2, h3, fun k hk => ?_⟩
  obtain ⟨g, o, cs, e1, e2, e3, e4⟩ := h4 k hk
  exact ⟨g, o, cs, e1, row_lt e3, e3, e4⟩
theorem sr_of_own {w : World} {base n : Nat} {v : Value} {ss : List Tx} (h : w.ownsRow base 9 1 v n (ss.map encT)) (hn : n = ss.length) : SrAt w w.heap.size v ss := by
  subst hn
  rcases h.2 with ⟨rfl, h0⟩ | ⟨g, cap, cur, rfl, hb, hg, hnc, hcm, hcs, htk⟩
  · exact ⟨none, 0, by rw [h0], by omega, ⟨by omega, fun _ => rfl⟩, fun k hk => absurd hk (by omega)⟩
  · refine ⟨_, cap, rfl, hnc, ⟨by unfold maxLen at hcm; omega, nofun⟩, fun k hk => ⟨g, 0, cur, rfl, row_lt hg, hg, ?_⟩⟩
    have h5 : (cur.toList.take (ss.length * 1))[k]? = (ss.map encT)[k]? := by rw [htk]
    rw [List.getElem?_take, if_pos (by omega), List.getElem?_map, List.getElem?_eq_getElem hk, Array.getElem?_toList] at h5
    rw [Nat.zero_add, h5, List.getD_eq_getElem?_getD, List.getElem?_eq_getElem hk]
    rfl
/-- Rows of texts in memory. -/
def RlAt (w : World) (v : Value) (L : List (List Tx)) : Prop := ∃ a cap, v = .slice a L.length cap ∧ L.length ≤ cap ∧ cap ≤ 9223372036854775807 ∧ ∀ k, k < L.length → ∃ g o u, a = some ⟨g, o, none⟩ ∧ g < w.heap.size ∧ w.cell? ⟨g, o + k, none⟩ = some u ∧ SrAt w w.heap.size u (L.getD k [])
theorem RlAt.next {w w' : World} {v : Value} {L : List (List Tx)} (h : RlAt w v L) (hb : Below w.heap.size w w') : RlAt w' v L := by
  obtain ⟨a, cap, h1, h2, h3, h4⟩ := h
  refine ⟨a, cap, h1, h2, h3, fun k hk => ?_⟩
  obtain ⟨g, o, u, e1, e2, e3, e4⟩ := h4 k hk
  exact ⟨g, o, u, e1, Nat.lt_of_lt_of_le e2 hb.size, (hb.cell (p := ⟨g, o + k, none⟩) e2).trans e3, (e4.next hb).mono hb.size⟩
/-- Texts in memory, wherever they lie (the number says nothing). -/
def StAt (w : World) (B : Nat) (v : Value) (ss : List Tx) : Prop := ∃ a cap, v = .slice a ss.length cap ∧ ss.length ≤ cap ∧ (cap ≤ 9223372036854775807 ∧ (a = none → cap = 0)) ∧ ∀ k, k < ss.length → ∃ g o, a = some ⟨g, o, none⟩ ∧ g < w.heap.size ∧ w.cell? ⟨g, o + k, none⟩ = some (encT (ss.getD k []))
theorem StAt.shape {w : World} {B : Nat} {v : Value} {ss : List Tx} (h : StAt w B v ss) : ∃ a cap, v = .slice a ss.length cap := by
  obtain ⟨a, cap, h1, _⟩ := h
  exact ⟨a, cap, h1⟩
theorem StAt.cell {w : World} {B n cap : Nat} {a : Option Addr} {ss : List Tx} (h : StAt w B (.slice a n cap) ss) {k : Nat} (hk : k < ss.length) : ∃ g o, a = some ⟨g, o, none⟩ ∧ g < w.heap.size ∧ True ∧ w.cell? ⟨g, o + k, none⟩ = some (encT (ss.getD k [])) := by
  obtain ⟨a2, cap2, h1, _, _, h2⟩ := h
  cases h1
  obtain ⟨g, o, e1, e2, e3⟩ := h2 k hk
  exact ⟨g, o, e1, e2, trivial, e3⟩
theorem StAt.next {w w' : World} {B : Nat} {v : Value} {ss : List Tx} (h : StAt w B v ss) (hb : Below w.heap.size w w') : StAt w' B v ss := by
  obtain ⟨a, cap, h1, h2, h3, h4⟩ := h
  refine ⟨a, cap, h1, h2, h3, fun k hk => ?_⟩
  obtain ⟨g, o, e1, e2, e3⟩ := h4 k hk
  exact ⟨g, o, e1, Nat.lt_of_lt_of_le e2 hb.size, (hb.cell (p := ⟨g, o + k, none⟩) e2).trans e3⟩
theorem SrAt.st {w : World} {B : Nat} {v : Value} {ss : List Tx} (h : SrAt w B v ss) : StAt w B v ss := by
  obtain ⟨a, cap, h1, h2, h3, h4⟩ := h
  refine ⟨a, cap, h1, h2, h3, fun k hk => ?_⟩
  obtain ⟨g, o, cs, e1, e2, e3, e4⟩ := h4 k hk
  exact ⟨g, o, e1, row_lt e3, (cell_of_row _ _ _ _ _ _ e3).trans e4⟩
/-- Rows of texts in memory, wherever they lie. -/
def RqAt (w : World) (v : Value) (L : List (List Tx)) : Prop := ∃ a cap, v = .slice a L.length cap ∧ L.length ≤ cap ∧ cap ≤ 9223372036854775807 ∧ ∀ k, k < L.length → ∃ g o u, a = some ⟨g, o, none⟩ ∧ g < w.heap.size ∧ w.cell? ⟨g, o + k, none⟩ = some u ∧ StAt w w.heap.size u (L.getD k [])
theorem RqAt.next {w w' : World} {v : Value} {L : List (List Tx)} (h : RqAt w v L) (hb : Below w.heap.size w w') : RqAt w' v L := by
  obtain ⟨a, cap, h1, h2, h3, h4⟩ := h
  refine ⟨a, cap, h1, h2, h3, fun k hk => ?_⟩
  obtain ⟨g, o, u, e1, e2, e3, e4⟩ := h4 k hk
  exact ⟨g, o, u, e1, Nat.lt_of_lt_of_le e2 hb.size, (hb.cell (p := ⟨g, o + k, none⟩) e2).trans e3, e4.next hb⟩
theorem RlAt.rq {w : World} {v : Value} {L : List (List Tx)} (h : RlAt w v L) : RqAt w v L := by
  obtain ⟨a, cap, h1, h2, h3, h4⟩ := h
  refine ⟨a, cap, h1, h2, h3, fun k hk => ?_⟩
  obtain ⟨g, o, u, e1, e2, e3, e4⟩ := h4 k hk
  exact ⟨g, o, u, e1, e2, e3, e4.st⟩
/-- Lengths that a text may have. -/
def TxOk (ss : List Tx) : Prop := ∀ x ∈ ss, x.length ≤ maxLen
theorem TxOk.get {ss : List Tx} (h : TxOk ss) {k : Nat} (hk : k < ss.length) : (ss.getD k []).length ≤ maxLen := h _ (by rw [List.getD_eq_getElem?_getD, List.getElem?_eq_getElem hk]; exact List.getElem_mem hk)
theorem ba_size (l : Tx) : (bA l).size = l.length := by simp [bA, ByteArray.size]
theorem ba_get (l : Tx) (k : Nat) (h : k < (bA l).size) : (bA l)[k] = l.getD k 0 := by
  have h' : k < l.length := by rw [← ba_size l]; exact h
  show l.toArray[k] = _
  simp [List.getD, List.getElem?_eq_getElem h']
theorem ba_list (l : Tx) : (bA l).toList = l := by rw [ByteArray.toList_eq]; rfl
theorem ba_inj {l m : Tx} : bA l = bA m ↔ l = m := ⟨fun h => by rw [← ba_list l, h, ba_list], fun h => by rw [h]⟩
end Go.Proofs.YtgmbkelmgolkpaaDoor
