/- What the walk of ShelfCopies asks of the parts: each note of a shelf is the first right one of the list with its name; rows that are written into stay rows. -/
import Derived.Test.YtnjjpahpaeblfabFirst
import Derived.Test.YtnjjpahpaeblfabNotes
import Derived.Test.YtnjjpahpaeblfabClone
import Derived.Test.YtnjjpahpaeblfabTexts
import Derived.Test.YtnjjpahpaeblfabQuietB
namespace Go.Proofs.Ytnjjpahpaeblfab
open Go.RowKit Go.Maps Go.Sort
set_option linter.unusedVariables false

theorem addI_zero {S : List Nt} {n : Nt} (h : addI S n = 0) : rightI n = 0 ∧ n.name ∉ S.map Nt.name ∧ S.length < 64 := by
  unfold addI at h
  by_cases h1 : rightI n = 0
  · rw [if_neg (by simp [h1])] at h
    by_cases h2 : (S.map Nt.name).contains n.name = true
    · rw [if_pos h2] at h; exact absurd h (by decide)
    · rw [if_neg h2] at h
      by_cases h3 : 64 ≤ S.length
      · rw [if_pos h3] at h; exact absurd h (by decide)
      · exact ⟨h1, fun hm => h2 (List.contains_iff_mem.2 hm), by omega⟩
  · rw [if_pos h1] at h; exact absurd h h1
theorem addI_not {S : List Nt} {n : Nt} (h : addI S n ≠ 0) (hr : rightI n = 0) : n.name ∈ S.map Nt.name ∨ 64 ≤ S.length := by
  unfold addI at h
  rw [if_neg (by simp [hr])] at h
  by_cases h2 : (S.map Nt.name).contains n.name = true
  · exact .inl (List.contains_iff_mem.1 h2)
  · rw [if_neg h2] at h
    by_cases h3 : 64 ≤ S.length
    · exact .inr h3
    · rw [if_neg h3] at h; exact absurd rfl h

/-- What a shelf holds once the first k of L were added. -/
structure Tracked (S : List Nt) (L : List Ne) (k : Nat) : Prop where
  p1 : ∀ n ∈ S, ∃ j, j < k ∧ (L.getD j ne0).n = n ∧ firstI L n.name = j
  p2 : ∀ i, i < k → rightI (L.getD i ne0).n = 0 → (L.getD i ne0).n.name ∈ S.map Nt.name ∨ 64 ≤ S.length

theorem Tracked.start (L : List Ne) : Tracked [] L 0 := ⟨by simp, fun i hi => by omega⟩
theorem Tracked.step {S : List Nt} {L : List Ne} {k : Nat} (h : Tracked S L k) (hk : k < L.length) : Tracked (addS S (L.getD k ne0).n) L (k + 1) := by
  by_cases h0 : addI S (L.getD k ne0).n = 0
  · have hS : addS S (L.getD k ne0).n = S ++ [(L.getD k ne0).n] := by unfold addS; rw [if_pos h0]
    obtain ⟨hr, hx, hl⟩ := addI_zero h0
    rw [hS]
    refine ⟨fun n hn => ?_, fun i hi hri => ?_⟩
    · rcases List.mem_append.1 hn with hn | hn
      · obtain ⟨j, h1, h2, h3⟩ := h.p1 n hn
        exact ⟨j, by omega, h2, h3⟩
      · rw [List.mem_singleton] at hn
        subst hn
        refine ⟨k, by omega, rfl, firstI_at hk (by unfold goodE; rw [hr]; simp) (fun j hj => ?_)⟩
        cases hg : goodE (L.getD k ne0).n.name (L.getD j ne0) with
        | false => rfl
        | true =>
          unfold goodE at hg
          rw [Bool.and_eq_true, beq_iff_eq, beq_iff_eq] at hg
          rcases h.p2 j hj hg.2 with h4 | h4
          · rw [hg.1] at h4; exact absurd h4 hx
          · omega
    · by_cases e : i = k
      · subst e; exact .inl (by simp)
      · rcases h.p2 i (by omega) hri with h4 | h4
        · left; rw [List.map_append]; exact List.mem_append_left _ h4
        · right; simp; omega
  · have hS : addS S (L.getD k ne0).n = S := by unfold addS; rw [if_neg h0]
    rw [hS]
    refine ⟨fun n hn => ?_, fun i hi hri => ?_⟩
    · obtain ⟨j, h1, h2, h3⟩ := h.p1 n hn
      exact ⟨j, by omega, h2, h3⟩
    · by_cases e : i = k
      · subst e; exact addI_not h0 hri
      · exact h.p2 i (by omega) hri
theorem Tracked.same {S : List Nt} {L : List Ne} {q k : Nat} (h : Tracked S L q) {m : Nt} (hm : m ∈ S) (h1 : ((L.getD k ne0).n.name == m.name) = true) (h3 : firstI L (L.getD k ne0).n.name = k) : (L.getD k ne0).n = m := by
  obtain ⟨j, _, h4, h5⟩ := h.p1 m hm
  rw [beq_iff_eq] at h1
  rw [h1, h5] at h3
  have : j = k := by omega
  rw [← this]; exact h4

theorem mem_notes {w : World} {p b : Nat} {F : Nat → Prop} {S : List Nt} {D : DataW Value} (h : SH w p b F S D) {T : List Ne} (hT : T.map Ne.n = notesOf S) {i : Nat} (hi : i < T.length) : (T.getD i ne0).n ∈ S := by
  have h1 : (T.getD i ne0).n ∈ T.map Ne.n := List.mem_map.2 ⟨_, mem_getD1 hi, rfl⟩
  rw [hT, notesOf] at h1
  obtain ⟨x, hx, he⟩ := List.mem_map.1 h1
  have hx2 : x ∈ S.map Nt.name := (List.mergeSort_perm _ _).mem_iff.1 hx
  obtain ⟨n, hn, rfl⟩ := List.mem_map.1 hx2
  rw [← he, getNt_in h hn]
  exact hn
theorem same_at {T U : List Ne} (h : T.map Ne.n = U.map Ne.n) {i : Nat} (hi : i < T.length) : (U.getD i ne0).n = (T.getD i ne0).n := by
  have hU : i < U.length := by have := congrArg List.length h; simp at this; omega
  have h3 : (T.map Ne.n)[i]? = (U.map Ne.n)[i]? := by rw [h]
  rw [List.getElem?_map, List.getElem?_map, List.getElem?_eq_getElem hi, List.getElem?_eq_getElem hU] at h3
  rw [List.getD, List.getD, List.getElem?_eq_getElem hi, List.getElem?_eq_getElem hU]
  simpa using h3.symm

theorem row_cellsN {w : World} {base cap t : Nat} {a : Option Addr} {T : List Ne} (h : w.ownsRow base t 4 (.slice a T.length cap) T.length (allCells T)) {j : Nat} (hj : j < T.length) : ∃ g, a = some ⟨g, 0, none⟩ ∧ CellsAt w g (j * 4) (T.getD j ne0) := by
  rcases h.2 with ⟨_, h0⟩ | ⟨g, cap', cur, hv, _⟩
  · omega
  · cases hv
    have f : ∀ q u, q < 4 → (neCells (T.getD j ne0))[q]? = some u → w.cell? ⟨g, j * 4 + q, none⟩ = some u := fun q u hq hu => by
      have := h.cells (g := g) rfl (j * 4 + q) u (by rw [allCells_get T j q hj hq]; exact hu)
      rwa [show (⟨g, 0, none⟩ : Addr).add (j * 4 + q) = ⟨g, 0 + (j * 4 + q), none⟩ from Addr.add_lit .., Nat.zero_add] at this
    exact ⟨g, rfl, f 0 _ (by omega) rfl, f 1 _ (by omega) rfl, f 2 _ (by omega) rfl, f 3 _ (by omega) rfl⟩

theorem row_some_set {w : World} {base e size n : Nat} {v : Value} (h : ∃ xs, w.ownsRow base e size v n xs) (g j : Nat) (u : Value) : ∃ xs, (w.setCell ⟨g, j, none⟩ u).ownsRow base e size v n xs := by
  obtain ⟨xs, h⟩ := h
  by_cases hb : v.ownBlock = some g
  · rcases h.2 with ⟨h1, _⟩ | ⟨g', cap, cur, h1, _⟩
    · rw [h1] at hb; cases hb
    · subst h1
      simp only [Value.ownBlock, Option.some.injEq] at hb
      subst hb
      exact ⟨_, (h.stored j u).1⟩
  · exact ⟨_, h.kept (grown_setCell w ⟨g, j, none⟩ u) (Or.inr hb)⟩

/-- A row of notes that was handed out, into whose names and leans the caller writes. -/
structure Told (w : World) (base : Nat) (v : Value) (T : List Ne) : Prop where
  row : ∃ xs, w.ownsRow base 30 4 v T.length xs ∧ ∀ i, i < T.length → xs[i * 4 + 3]? = some (.slice (T.getD i ne0).a (T.getD i ne0).n.leans.length (T.getD i ne0).cap)
  leans : ∀ e ∈ T, ∃ xs, w.ownsRow base 9 1 (.slice e.a e.n.leans.length e.cap) e.n.leans.length xs

theorem Told.of {w : World} {base : Nat} {v : Value} {T : List Ne} (h : w.ownsRow base 30 4 v T.length (allCells T)) (hl : LeansAt w base T) : Told w base v T :=
  ⟨⟨_, h, fun i hi => by rw [allCells_get T i 3 hi (by omega)]; rfl⟩, fun e he => ⟨_, hl e he⟩⟩
theorem Told.at_ {w : World} {base : Nat} {v : Value} {T : List Ne} (h : Told w base v T) {i : Nat} (hi : i < T.length) : ∃ g c, v = .slice (some ⟨g, 0, none⟩) T.length c ∧ base ≤ g ∧ (∃ u, w.cell? ⟨g, i * 4, none⟩ = some u) ∧ w.frozen? ⟨g, i * 4, none⟩ = false ∧ w.cell? ⟨g, i * 4 + 3, none⟩ = some (.slice (T.getD i ne0).a (T.getD i ne0).n.leans.length (T.getD i ne0).cap) := by
  obtain ⟨xs, h1, h2⟩ := h.row
  rcases h1.2 with ⟨_, h0⟩ | ⟨g, c, cur, rfl, hb, _⟩
  · omega
  · have hl : xs.length = T.length * 4 := h1.1
    exact ⟨g, c, rfl, hb, ⟨_, (h1.cellAt (i * 4) (by omega)).trans (List.getElem?_eq_getElem (by omega))⟩, h1.frozenAt _, (h1.cellAt (i * 4 + 3) (by omega)).trans (h2 i hi)⟩
theorem Told.name {w : World} {base g c : Nat} {T : List Ne} (h : Told w base (.slice (some ⟨g, 0, none⟩) T.length c) T) (i : Nat) (u : Value) : Told (w.setCell ⟨g, i * 4, none⟩ u) base (.slice (some ⟨g, 0, none⟩) T.length c) T := by
  obtain ⟨xs, h1, h2⟩ := h.row
  refine ⟨⟨_, (h1.stored (i * 4) u).1, fun j hj => ?_⟩, fun e he => row_some_set (h.leans e he) _ _ _⟩
  rw [List.getElem?_set_ne (by omega)]
  exact h2 j hj
theorem Told.lean_ {w : World} {base : Nat} {v : Value} {T : List Ne} (h : Told w base v T) {e : Ne} (he : e ∈ T) {g : Nat} (hg : (Value.slice e.a e.n.leans.length e.cap).ownBlock = some g) (j : Nat) (u : Value) : Told (w.setCell ⟨g, j, none⟩ u) base v T := by
  obtain ⟨xs, h1, h2⟩ := h.row
  obtain ⟨ys, h3⟩ := h.leans e he
  refine ⟨⟨xs, h1.kept (grown_setCell w ⟨g, j, none⟩ u) ?_, h2⟩, fun e he => row_some_set (h.leans e he) _ _ _⟩
  rcases row_ne_type h1 h3 (by decide) with h4 | h4
  · exact .inl h4
  · right; rw [hg] at h4; exact h4
theorem Told.leanAt {w : World} {base : Nat} {v : Value} {T : List Ne} (h : Told w base v T) {e : Ne} (he : e ∈ T) {j : Nat} (hj : j < e.n.leans.length) : ∃ g, e.a = some ⟨g, 0, none⟩ ∧ base ≤ g ∧ (∃ u, w.cell? ⟨g, j, none⟩ = some u) ∧ w.frozen? ⟨g, j, none⟩ = false := by
  obtain ⟨xs, h1⟩ := h.leans e he
  rcases h1.2 with ⟨_, h0⟩ | ⟨g, c, cur, hv, hb, _⟩
  · omega
  · rw [hv] at h1
    rw [Value.slice.injEq] at hv
    have hl : xs.length = e.n.leans.length * 1 := h1.1
    exact ⟨g, hv.1, hb, ⟨_, (h1.cellAt j (by omega)).trans (List.getElem?_eq_getElem (by omega))⟩, h1.frozenAt _⟩

theorem texts_same (o : List (List UInt8)) (ho : StrsOk o) (a1 a2 : Option Addr) (c1 c2 : Nat) (w : World) (h1 : StrsAt w (.slice a1 o.length c1) o) (h2 : StrsAt w (.slice a2 o.length c2) o) :
    Calls Try.prog 11 #[.slice a1 o.length c1, .slice a2 o.length c2] w fun e w' => e = .returned (.bool true) ∧ Below w.heap.size w w' := by
  have := texts_any o o ho ho a1 a2 c1 c2 w h1 h2
  simpa using this
end Go.Proofs.Ytnjjpahpaeblfab
