/- A slice of notes of the statements in memory, and a new shelf with its blocks told. -/
import Derived.Test.YtnjjpahpaeblfabAdd
import Derived.Test.YtnjjpahpaeblfabOpen
import Derived.Deep.Slices
namespace Go.Proofs.Ytnjjpahpaeblfab
open Go.RowKit Go.Maps Go.Joins
set_option linter.unusedVariables false

/-- A note in memory: the note, and where its leans lie. -/
structure Ne where
  n : Nt
  a : Option Addr
  cap : Nat
def ne0 : Ne := ⟨⟨[], 0, 0, []⟩, none, 0⟩
def neCells (e : Ne) : List Value := [.string ⟨e.n.name.toArray⟩, .int .i64 e.n.words, .int .u32 e.n.sum, .slice e.a e.n.leans.length e.cap]
structure NeOk (w : World) (e : Ne) : Prop where
  ok : NtOk e.n
  le : e.n.leans.length ≤ e.cap
  max : e.cap ≤ maxLen
  at_ : StrsAt w (.slice e.a e.n.leans.length e.cap) e.n.leans
/-- The four cells of an element. -/
def CellsAt (w : World) (g o : Nat) (e : Ne) : Prop := w.cell? ⟨g, o, none⟩ = some (.string ⟨e.n.name.toArray⟩) ∧ w.cell? ⟨g, o + 1, none⟩ = some (.int .i64 e.n.words) ∧ w.cell? ⟨g, o + 2, none⟩ = some (.int .u32 e.n.sum) ∧ w.cell? ⟨g, o + 3, none⟩ = some (.slice e.a e.n.leans.length e.cap)
/-- A slice of notes. -/
def NotesAt (w : World) (sl : Value) (L : List Ne) : Prop :=
  ((L = [] ∧ ∃ a cap, sl = .slice a 0 cap) ∨ ∃ g off cap, sl = .slice (some ⟨g, off, none⟩) L.length cap ∧ g < w.heap.size ∧ ∀ i, i < L.length → CellsAt w g (off + i * 4) (L.getD i ne0)) ∧ L.length ≤ 8796093022208 ∧ ∀ e ∈ L, NeOk w e

theorem NeOk.below {B : Nat} {w w' : World} {e : Ne} (h : NeOk w e) (hb : Below B w w') (hB : w.heap.size ≤ B) : NeOk w' e := ⟨h.ok, h.le, h.max, h.at_.below hb hB⟩
theorem CellsAt.below {B : Nat} {w w' : World} {g o : Nat} {e : Ne} (h : CellsAt w g o e) (hb : Below B w w') (hg : g < B) : CellsAt w' g o e :=
  ⟨(hb.cell (p := ⟨g, o, none⟩) hg).trans h.1, (hb.cell (p := ⟨g, o + 1, none⟩) hg).trans h.2.1, (hb.cell (p := ⟨g, o + 2, none⟩) hg).trans h.2.2.1, (hb.cell (p := ⟨g, o + 3, none⟩) hg).trans h.2.2.2⟩
theorem NotesAt.below {B : Nat} {w w' : World} {sl : Value} {L : List Ne} (h : NotesAt w sl L) (hb : Below B w w') (hB : w.heap.size ≤ B) : NotesAt w' sl L := by
  refine ⟨?_, h.2.1, fun e he => (h.2.2 e he).below hb hB⟩
  rcases h.1 with h | ⟨g, off, cap, rfl, hg, hc⟩
  · exact .inl h
  · exact .inr ⟨g, off, cap, rfl, Nat.lt_of_lt_of_le hg hb.size, fun i hi => (hc i hi).below hb (by omega)⟩
theorem mem_getD1 {L : List Ne} {k : Nat} (h : k < L.length) : L.getD k ne0 ∈ L := by
  rw [List.getD, List.getElem?_eq_getElem h]; exact List.getElem_mem h

theorem Try.cells22 : Try.prog.cellsOf 26 = 4 := by kernel_rfl
theorem Try.bytes26 : Try.prog.bytesOf 26 = 56 := by kernel_rfl

theorem array4' {α : Type} {cs : List α} (h : cs.length = 4) : ∃ a b c d, cs = [a, b, c, d] := by
  match cs, h with
  | [a, b, c, d], _ => exact ⟨a, b, c, d, rfl⟩

theorem Try.cells3 : Try.prog.cellsOf 3 = 1 := by kernel_rfl
theorem Try.cells23 : Try.prog.cellsOf 23 = 1 := by kernel_rfl
theorem Try.cells24 : Try.prog.cellsOf 24 = 1 := by kernel_rfl

theorem exists_list (n : Nat) (P : Nat → Ne → Prop) (h : ∀ i, i < n → ∃ e, P i e) : ∃ L : List Ne, L.length = n ∧ ∀ i, i < n → P i (L.getD i ne0) := by
  induction n with
  | zero => exact ⟨[], rfl, fun i hi => by omega⟩
  | succ n ih =>
    obtain ⟨L, hL, hP⟩ := ih (fun i hi => h i (by omega))
    obtain ⟨e, he⟩ := h n (by omega)
    refine ⟨L ++ [e], by simp [hL], fun i hi => ?_⟩
    by_cases hin : i < n
    · have := hP i hin
      rwa [List.getD, List.getElem?_append_left (by omega)]
    · obtain rfl : i = n := by omega
      rw [List.getD, List.getElem?_append_right (by omega)]
      simpa [hL] using he

theorem mem_weightsAll {H : Type} {P : Program} {t : TypeId} {x : Nat} {d : DataW H} (hx : x ∈ DataW.weights P t d) : ∀ {l : List (DataW H)}, d ∈ l → x ∈ DataW.weightsAll P t l
  | e :: r, hd => by
    rw [DataW.weightsAll]
    rcases List.mem_cons.1 hd with rfl | hd
    · exact List.mem_append_left _ hx
    · exact List.mem_append_right _ (mem_weightsAll hx hd)

/-- A slice of notes among the arguments. -/
theorem open_notes {H : Type} {enc : TypeId × Value → H} {W : World} {base : Nat} {spare : Nat → Bool} {held : Bool} {m : Nat} {v : Value} {y : DataW H × List MemPlace}
    (h : DataW.trod enc Try.prog W base spare held m 22 [v] = some y) (hr : ∀ x ∈ DataW.weights Try.prog 22 y.1, x ≤ reachBytes) (hsp : ∀ b, spare b = true) :
    ∃ (L : List Ne), NotesAt W v L := by
  rcases Deep.open_slice Try.underlying22 h with ⟨hcs, hx⟩ | ⟨a, len, cap, mm, nn, D, Pl, hcs, _, hl, hm, hmm, hx, hel⟩
  · simp only [List.cons.injEq, and_true] at hcs
    exact ⟨[], .inl ⟨rfl, none, 0, hcs⟩, by simp, by simp⟩
  · simp only [List.cons.injEq, and_true] at hcs
    rw [hsp] at hmm
    simp only [if_true] at hmm
    subst hmm
    rw [Try.cells22] at hel
    have hw : ∀ i, i < len → ∀ x ∈ DataW.weights Try.prog 26 (D i), x ≤ reachBytes := fun i hi x hx' => hr x (by
      rw [hx]
      simp only [DataW.weights, Try.underlying22]
      refine List.mem_cons_of_mem _ (List.mem_append_left _ (mem_weightsAll hx' ?_))
      exact List.mem_map.2 ⟨i, List.mem_range.2 hi, rfl⟩)
    have hlen : len ≤ 8796093022208 := by
      have h1 := hr (((List.range len).map D).length * 56 + ((List.range (mm - len)).map fun j => D (len + j)).length * 56) (by
        rw [hx]
        simp only [DataW.weights, Try.underlying22, Try.bytes26]
        refine List.mem_cons.2 (.inl ?_)
        omega)
      have hrb : reachBytes = 140737488351232 := by decide
      rw [hrb] at h1
      simp only [List.length_map, List.length_range] at h1
      omega
    by_cases h0 : len = 0
    · subst h0
      exact ⟨[], .inl ⟨rfl, some a, mm, hcs⟩, by simp, by simp⟩
    have each : ∀ i, i < len → ∃ e : Ne, (∀ j u, (neCells e)[j]? = some u → W.cell? ((a.add (i * 4)).add j) = some u) ∧ NeOk W e := by
      intro i hi
      obtain ⟨cs', hc, ht⟩ := hel i (by omega)
      obtain ⟨y0, y1, y2, y3, n4, hxx, hl4, t0, t1, t2, t3⟩ := trod_struct4 Try.underlying26 ht
      rw [Try.cells26] at hl4
      obtain ⟨c0, c1, c2, c3, rfl⟩ := array4' hl4
      have k0 : DataW.trod enc Try.prog W base spare held n4 9 [c0] = some y0 := by simpa [Try.cells9] using t0
      have k1 : DataW.trod enc Try.prog W base spare held n4 3 [c1] = some y1 := by simpa [Try.cells3] using t1
      have k2 : DataW.trod enc Try.prog W base spare held n4 23 [c2] = some y2 := by simpa [Try.cells23] using t2
      have k3 : DataW.trod enc Try.prog W base spare held n4 24 [c3] = some y3 := by simpa [Try.cells24] using t3
      have hD : D i = .agg [y0.1, y1.1, y2.1, y3.1] := congrArg Prod.fst hxx
      obtain ⟨n, a', cap', rfl, rfl, rfl, rfl, q1, q2, q3, q4⟩ := open_fields k0 k1 k2 k3 (fun x hx' => hw i hi x (by rw [hD]; simp [DataW.weights, Try.underlying26, DataW.weightsEach, hx'])) hsp
      refine ⟨⟨n, a', cap'⟩, ?_, q1, q2, q3, q4⟩
      intro j u hu
      have := (World.cells?_some hc).2.2 j (by
        have := (List.getElem?_eq_some_iff.1 hu).1
        simpa [neCells] using this)
      rw [this]
      exact hu
    obtain ⟨L, hL, hLe⟩ := exists_list len _ each
    obtain ⟨g, off, spot⟩ := a
    have hspot : spot = none := by
      have := (hLe 0 (by omega)).1 0 _ (by simp [neCells]; rfl)
      have := World.cell?_spot this
      simpa [Addr.add] using this
    subst hspot
    refine ⟨L, .inr ⟨g, off, mm, by rw [hL]; exact hcs, ?_, fun i hi => ?_⟩, by omega, fun e he => ?_⟩
    · have := (hLe 0 (by omega)).1 0 _ (by simp [neCells]; rfl)
      have h1 := World.block_lt_of_cell? W _ this
      simpa [Addr.add] using h1
    · rw [hL] at hi
      have h4 := (hLe i hi).1
      rw [show (⟨g, off, none⟩ : Addr).add (i * 4) = ⟨g, off + i * 4, none⟩ from Addr.add_lit ..] at h4
      have f : ∀ j u, (neCells (L.getD i ne0))[j]? = some u → W.cell? ⟨g, off + i * 4 + j, none⟩ = some u := fun j u hu => by
        have := h4 j u hu
        rwa [show (⟨g, off + i * 4, none⟩ : Addr).add j = ⟨g, off + i * 4 + j, none⟩ from Addr.add_lit ..] at this
      exact ⟨f 0 _ rfl, f 1 _ rfl, f 2 _ rfl, f 3 _ rfl⟩
    · obtain ⟨i, hi, rfl⟩ := List.mem_iff_getElem.1 he
      have := (hLe i (by omega)).2
      rwa [List.getD, List.getElem?_eq_getElem hi] at this

set_option maxRecDepth 100000 in
set_option maxHeartbeats 400000 in
theorem new_at (w : World) : Calls Try.prog 5 #[] w fun e w' => e = .returned (.pointer (some ⟨w.heap.size + 1, 0, none⟩)) ∧ SH w' (w.heap.size + 1) w.heap.size (fun k => k = w.heap.size + 1 ∨ k = w.heap.size) [] (.map []) ∧ Below w.heap.size w w' ∧ w'.heap.size = w.heap.size + 2 := by
  have hmm := @run_makeMap Try.prog
  go_enter Try.func5, Try.ntmps5
  go_wp2
  go_ret
  refine ⟨rfl, ?_, ((Below.refl _ _).alloc (Nat.le_refl _) _).alloc (by simp) _, by simp⟩
  refine ⟨by simp, (World.ownsMap_made _ _ _ _).alloc _, rfl, by simp, fun x _ => rfl, by simp, by simp, by simp, by simp⟩

theorem add_agg (n : Nt) (hn : NtOk n) (a : Option Addr) (cap : Nat) (w : World) (hs : StrsAt w (.slice a n.leans.length cap) n.leans) (p b : Nat) (F : Nat → Prop) (S : List Nt) (D : DataW Value) (h : SH w p b F S D) :
    Calls Try.prog 7 #[.pointer (some ⟨p, 0, none⟩), .agg #[.string ⟨n.name.toArray⟩, .int .i64 n.words, .int .u32 n.sum, .slice a n.leans.length cap]] w fun e w' => ∃ F' D', e = .returned (.int .i64 (addI S n)) ∧ SH w' p b F' (addS S n) D' ∧ (∀ k, F' k → F k ∨ (w.heap.size ≤ k ∧ k < w'.heap.size)) ∧ (∀ k, F k → F' k) ∧ w.grownBy w' (some b) := add_any n hn _ w hs p b F S D h
end Go.Proofs.Ytnjjpahpaeblfab
