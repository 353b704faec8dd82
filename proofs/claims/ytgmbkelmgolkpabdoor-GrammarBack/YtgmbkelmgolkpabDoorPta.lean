/- Plain: places in rows that are laid behind one another; what is counted; terminals and others so far. Rows apart from one another. -/
import Derived.Test.YtgmbkelmgolkpabDoorMpa
import Derived.Deep.AppendLies
namespace Go.Proofs.YtgmbkelmgolkpabDoor
open Go.RowKit Go.Maps
set_option linter.unusedVariables false

def posS (L : List (List Tx)) (r : Nat) : Nat := (L.take r).flatten.length
theorem pos_zero (L : List (List Tx)) : posS L 0 = 0 := by simp [posS]
theorem take_one {L : List (List Tx)} {r : Nat} (hr : r < L.length) : L.take (r + 1) = L.take r ++ [L.getD r []] := by
  rw [List.take_succ_eq_append_getElem hr, List.getD_eq_getElem?_getD, List.getElem?_eq_getElem hr]; rfl
theorem pos_next {L : List (List Tx)} {r : Nat} (hr : r < L.length) : posS L (r + 1) = posS L r + (L.getD r []).length := by
  unfold posS
  rw [take_one hr, List.flatten_append, List.flatten_singleton, List.length_append]
theorem pos_all (L : List (List Tx)) : posS L L.length = L.flatten.length := by unfold posS; rw [List.take_length]
theorem pos_mono (L : List (List Tx)) {r : Nat} (hr : r < L.length) : posS L r + (L.getD r []).length ≤ L.flatten.length := by
  rw [← pos_next hr]
  unfold posS
  conv => rhs; rw [← List.take_append_drop (r + 1) L, List.flatten_append, List.length_append]
  omega
theorem pos_get {L : List (List Tx)} {r j : Nat} (hr : r < L.length) (hj : j < (L.getD r []).length) : L.flatten.getD (posS L r + j) [] = (L.getD r []).getD j [] := by
  have h1 : L = L.take r ++ (L.getD r [] :: L.drop (r + 1)) := by
    conv => lhs; rw [← List.take_append_drop r L, List.drop_eq_getElem_cons hr]
    rw [List.getD_eq_getElem?_getD, List.getElem?_eq_getElem hr]; rfl
  have h2 : L.flatten = (L.take r).flatten ++ (L.getD r [] ++ (L.drop (r + 1)).flatten) := by
    conv => lhs; rw [h1]
    rw [List.flatten_append, List.flatten_cons]
  rw [h2, List.getD_eq_getElem?_getD, List.getElem?_append_right (by unfold posS; omega)]
  unfold posS
  rw [Nat.add_sub_cancel_left, List.getElem?_append_left hj, ← List.getD_eq_getElem?_getD]
/-- How often. -/
def cnS (l : List Tx) (x : Tx) : Option Int := if l.contains x then some (l.count x : Int) else none
theorem cn_get (l : List Tx) (x : Tx) : (cnS l x).getD 0 = (l.count x : Int) := by
  unfold cnS
  split
  · rfl
  · rename_i h
    rw [List.count_eq_zero.2 (fun hm => h (List.contains_iff_mem.2 hm))]; rfl
theorem cn_next (l : List Tx) (y x : Tx) : (if x = y then some ((l.count y : Int) + 1) else cnS l x) = cnS (l ++ [y]) x := by
  unfold cnS
  by_cases h : x = y
  · subst h
    rw [if_pos rfl, if_pos (by simp), List.count_append, List.count_singleton_self]
    rfl
  · rw [if_neg h]
    have e1 : (l ++ [y]).contains x = l.contains x := by
      rw [Bool.eq_iff_iff]
      simp only [List.contains_eq_mem, List.mem_append, List.mem_singleton, h, or_false]
    have e2 : (l ++ [y]).count x = l.count x := by rw [List.count_append, List.count_singleton, if_neg (by simpa using fun e => h e.symm)]; rfl
    rw [e1, e2]
def teTo (L : List (List Tx)) (k : Nat) : List Tx := (frTo L.flatten k).filter fun x => !(leftsS L).contains x
def otTo (L : List (List Tx)) (k : Nat) : List Tx := (frTo L.flatten k).filter fun x => (leftsS L).contains x
theorem te_old {L : List (List Tx)} {k : Nat} (hk : k < L.flatten.length) (h : L.flatten.getD k [] ∈ L.flatten.take k) : teTo L (k + 1) = teTo L k ∧ otTo L (k + 1) = otTo L k := by
  have := (fr_iff L.flatten (L.flatten.getD k []) k (by omega)).2 h
  unfold teTo otTo
  rw [frTo, if_pos (List.contains_iff_mem.2 this)]
  exact ⟨rfl, rfl⟩
theorem te_left {L : List (List Tx)} {k : Nat} (hk : k < L.flatten.length) (h : L.flatten.getD k [] ∉ L.flatten.take k) (hl : L.flatten.getD k [] ∈ leftsS L) : teTo L (k + 1) = teTo L k ∧ otTo L (k + 1) = otTo L k ++ [L.flatten.getD k []] := by
  have : L.flatten.getD k [] ∉ frTo L.flatten k := fun hm => h ((fr_iff L.flatten _ k (by omega)).1 hm)
  unfold teTo otTo
  rw [frTo, if_neg (fun hc => this (List.contains_iff_mem.1 hc)), List.filter_append, List.filter_append]
  generalize L.flatten.getD k [] = x at *
  have hc := List.contains_iff_mem.2 hl
  simp only [List.filter_cons, List.filter_nil, hc]
  simp
theorem te_right {L : List (List Tx)} {k : Nat} (hk : k < L.flatten.length) (h : L.flatten.getD k [] ∉ L.flatten.take k) (hl : L.flatten.getD k [] ∉ leftsS L) : teTo L (k + 1) = teTo L k ++ [L.flatten.getD k []] ∧ otTo L (k + 1) = otTo L k := by
  have : L.flatten.getD k [] ∉ frTo L.flatten k := fun hm => h ((fr_iff L.flatten _ k (by omega)).1 hm)
  have hc : (leftsS L).contains (L.flatten.getD k []) = false := by
    cases hb : (leftsS L).contains (L.flatten.getD k []) with
    | false => rfl
    | true => exact absurd (List.contains_iff_mem.1 hb) hl
  unfold teTo otTo
  rw [frTo, if_neg (fun hc => this (List.contains_iff_mem.1 hc)), List.filter_append, List.filter_append]
  generalize L.flatten.getD k [] = x at *
  simp only [List.filter_cons, List.filter_nil, hc]
  simp
theorem te_len (L : List (List Tx)) (k : Nat) : (teTo L k).length ≤ k ∧ (otTo L k).length ≤ k := ⟨Nat.le_trans (List.length_filter_le _ _) (fr_len _ k), Nat.le_trans (List.length_filter_le _ _) (fr_len _ k)⟩
theorem lefts_len (L : List (List Tx)) : (leftsS L).length = L.length := by unfold leftsS; rw [List.length_map]
theorem lefts_get {L : List (List Tx)} {r : Nat} (hr : r < L.length) : (leftsS L).getD r [] = (L.getD r []).getD 0 [] := by
  unfold leftsS
  rw [List.getD_eq_getElem?_getD, List.getElem?_map, List.getElem?_eq_getElem hr, List.getD_eq_getElem?_getD (l := L), List.getElem?_eq_getElem hr]
  rfl
/-- Two rows lie in blocks of their own. -/
def Apart (u v : Value) : Prop := ∀ g, u.ownBlock = some g → v.ownBlock ≠ some g
theorem Apart.symm {u v : Value} (h : Apart u v) : Apart v u := fun g h1 h2 => h g h2 h1
/-- A text that is put behind a row of one's own, another row being apart from it. -/
theorem wpList_append_apart {ops : Array Oper} {rest : List Oper} {o : Oper} {a : Act} {Q : Exit → Act → World → Prop} {w : World} (hgd : o.guard = none) (s x : Operand)
    (ho : o.op = .call { callee := .builtin .append, args := #[s, x], argTypes := #[48, 48] }) (base : Nat) (v : Value) (n : Nat) (c : List Tx)
    (hs : a.eval s = v) (hown : w.ownsRow base 9 1 v n (c.map encT)) (u : Value) (m : Nat) (us : List Value) (hu : w.ownsRow base 9 1 u m us) (hap : Apart v u) (g : Nat) (y : Tx) (hx : a.eval x = .slice (some ⟨g, 0, none⟩) 1 1) (hc : w.cell? ⟨g, 0, none⟩ = some (encT y)) (hl : n ≤ 4398046511104) (hbase : base ≤ w.heap.size)
    (h : ∀ v' w', w'.ownsRow base 9 1 v' (n + 1) ((c ++ [y]).map encT) → w'.ownsRow base 9 1 u m us → Apart v' u → Below base w w' → Kept 9 w w' → wpList Tryd.prog ops Q rest (a.put o.dst v') w') : wpList Tryd.prog ops Q (o :: rest) a w := by
  obtain ⟨i0, hi, hz0, hz1, hz2⟩ := info_parts Tryd.info9
  refine wpList_append_lies w hgd s x 48 ho base 9 i0 _ 1 16 Tryd.under48 hi hz0 hz1 hz2 rfl (by decide) v n (c.map encT) hs hown ⟨g, 0, none⟩ 1 1 [encT y] hx (by simp) (fun j u hu => ?_) (by intro u hu; rw [List.mem_singleton] at hu; rw [hu]; rfl) (by decide) (by unfold maxLen; omega) (by omega) hbase w.heap.size rfl ?_
  · match j, hu with
    | 0, hu =>
      rw [Go.WideShapes.add_plain]
      simp at hu
      rw [← hu]; exact hc
    | j + 1, hu => simp at hu
  · intro g' cap' w' h1 h2 h3 h4
    refine h _ w' (by rw [List.map_append]; exact h1) (hu.kept h2 ?_) ?_ (row_grown hown (Below.refl _ _) h2 hbase) (kept_of_grown hown h2)
    · cases hob : u.ownBlock with
      | none => exact .inl rfl
      | some k => exact .inr fun e => hap k e.symm hob
    · intro k hk
      simp only [Value.ownBlock, Option.some.injEq] at hk
      subst hk
      rcases h3 with h3 | h3
      · exact hap _ h3
      · intro e
        have := (hu.lt _ e).2
        omega
end Go.Proofs.YtgmbkelmgolkpabDoor
