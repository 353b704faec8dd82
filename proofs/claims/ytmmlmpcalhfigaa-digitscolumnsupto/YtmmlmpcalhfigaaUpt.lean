/- How rows of texts and rows of bools among the arguments read, and what the bulk of a reading bounds. -/
import Derived.Test.YtmmlmpcalhfigaaRows
import Derived.Test.YtmmlmpcalhfigaaLnS
import Derived.Test.YtmmlmpcalhfigaaBase
import Derived.SliceStrings
import Derived.Deep.Slices
import Derived.Deep.Grids
namespace Go.Proofs.Ytmmlmpcalhfigaa
open Go.ChangeShapes Go.WideShapes Go.ChangeAt Go.RowKit Go.Deep
set_option linter.unusedVariables false
theorem Try.cells9 : Try.prog.cellsOf 9 = 1 := by kernel_rfl
theorem Try.cells37 : Try.prog.cellsOf 37 = 1 := by kernel_rfl
theorem Try.cells4 : Try.prog.cellsOf 4 = 1 := by kernel_rfl
theorem bulk_one {H : Type} (d : DataW H) : 1 ≤ Rows.uptoBulk d := by
  cases d with
  | lit l => cases l <;> simp [Rows.uptoBulk]
  | nil => simp [Rows.uptoBulk]
  | ptr d => simp [Rows.uptoBulk]
  | slice elems spare => simp [Rows.uptoBulk]
  | agg parts => simp [Rows.uptoBulk]
  | iface t d => simp [Rows.uptoBulk]
  | map entries => simp [Rows.uptoBulk]
  | held h => simp [Rows.uptoBulk]
theorem bulk_part {H : Type} {d : DataW H} {l : List (DataW H)} (h : d ∈ l) : Rows.uptoBulk d ≤ Rows.uptoBulkAll l := by
  induction l with
  | nil => cases h
  | cons x r ih =>
    simp only [Rows.uptoBulkAll]
    rcases List.mem_cons.1 h with e | e
    · subst e; omega
    · have := ih e; omega
theorem bulk_len {H : Type} (l : List (DataW H)) : l.length ≤ Rows.uptoBulkAll l := by
  induction l with
  | nil => simp [Rows.uptoBulkAll]
  | cons x r ih => have := bulk_one x; simp only [Rows.uptoBulkAll, List.length_cons]; omega
theorem bulk_elems {H : Type} (e s : List (DataW H)) : Rows.uptoBulkAll e ≤ Rows.uptoBulk (.slice e s) := by simp only [Rows.uptoBulk]; omega

/-- A row of texts. -/
theorem open_strsU {H : Type} {enc : TypeId × Value → H} {W : World} {base : Nat} {held : Bool} {m : Nat} {v : Value} {y : DataW H × List MemPlace}
    (h : DataW.trod enc Try.prog W base (fun _ => true) held m 37 [v] = some y) :
    ∃ (ss : List (List UInt8)) (a : Option Addr) (cap : Nat), v = .slice a ss.length cap ∧ StrsAt W (.slice a ss.length cap) ss ∧ ss.length ≤ Rows.uptoBulk y.1 ∧ ∀ x ∈ ss, x.length ≤ Rows.uptoBulk y.1 := by
  rcases open_strings Try.underlying37 Try.underlying9 Try.cells9 h with ⟨hcs, hx⟩ | ⟨a, len, cap, ss, hcs, _, hl, hm, hz, hx, hcell, hws⟩
  · simp only [List.cons.injEq, and_true] at hcs
    exact ⟨[], none, 0, hcs, .inl ⟨rfl, none, 0, rfl, fun _ => rfl⟩, by simp, by simp⟩
  · simp only [List.cons.injEq, and_true] at hcs
    simp only [if_true] at hz
    have hlen : ((ss.take len).map fun s : ByteArray => s.data.toList).length = len := by simp; omega
    subst hx
    refine ⟨(ss.take len).map fun s : ByteArray => s.data.toList, some a, cap, by rw [hlen]; exact hcs, ?_, ?_, ?_⟩
    · by_cases h0 : len = 0
      · subst h0
        exact .inl ⟨by simp, some a, cap, by simp, nofun⟩
      · have h00 := hcell 0 (by omega)
        obtain ⟨g, off, spot⟩ := a
        have hspot : spot = none := by simpa [Addr.add] using World.cell?_spot h00
        subst hspot
        rw [hlen]
        refine .inr ⟨g, off, cap, by first | rfl | rw [hlen], ?_, fun j hj => ?_⟩
        · have h1 := World.block_lt_of_cell? W _ h00
          simpa [Addr.add] using h1
        · rw [hlen] at hj
          have := hcell j (by omega)
          rw [show (⟨g, off, none⟩ : Addr).add j = ⟨g, off + j, none⟩ from Addr.add_lit ..] at this
          rw [this]
          have hj' : j < ss.length := by omega
          simp [encStr, List.getD, hj, hj']
    · rw [hlen]
      dsimp only
      have h1 := bulk_elems (H := H) (strs (ss.take len)) (strs (ss.drop len))
      have h2 := bulk_len (H := H) (strs (ss.take len))
      have h3 : (strs (H := H) (ss.take len)).length = len := by simp [strs]; omega
      omega
    · intro x hx'
      obtain ⟨s, hs, rfl⟩ := List.mem_map.1 hx'
      have h1 := bulk_elems (H := H) (strs (ss.take len)) (strs (ss.drop len))
      have h2 := bulk_part (H := H) (d := .lit (.string s.data.toList)) (l := strs (ss.take len)) (by unfold strs; exact List.mem_map.2 ⟨s, hs, rfl⟩)
      simp only [Rows.uptoBulk] at h1 h2 ⊢
      omega
instance : Inhabited Rw := ⟨rw0⟩
/-- A slice of rows of texts. -/
theorem open_rowsU {H : Type} {enc : TypeId × Value → H} {W : World} {base : Nat} {held : Bool} {m : Nat} {v : Value} {y : DataW H × List MemPlace}
    (h : DataW.trod enc Try.prog W base (fun _ => true) held m 35 [v] = some y) :
    ∃ (L : List Rw) (a : Option Addr) (cap : Nat), v = .slice a L.length cap ∧ RowsAt W (.slice a L.length cap) L ∧ L.length ≤ Rows.uptoBulk y.1 ∧ (∀ r ∈ L, r.ss.length ≤ Rows.uptoBulk y.1) ∧ ∀ r ∈ L, ∀ x ∈ r.ss, x.length ≤ Rows.uptoBulk y.1 := by
  rcases open_slice1 Try.underlying35 Try.cells37 h with ⟨hcs, hx⟩ | ⟨a, len, cap, m', n, V, D, Pl, hcs, hb, hl, hm, hmm, hx, hel⟩
  · simp only [List.cons.injEq, and_true] at hcs
    exact ⟨[], none, 0, hcs, ⟨.inl ⟨rfl, none, 0, rfl⟩, by simp⟩, by simp, by simp, by simp⟩
  · simp only [List.cons.injEq, and_true] at hcs
    simp only [if_true] at hmm
    have hmm' := hmm.symm
    subst hmm'
    have each : ∀ i, i < cap → ∃ r : Rw, V i = .slice r.a r.ss.length r.cap ∧ StrsAt W (.slice r.a r.ss.length r.cap) r.ss ∧ r.ss.length ≤ Rows.uptoBulk (D i) ∧ ∀ x ∈ r.ss, x.length ≤ Rows.uptoBulk (D i) := fun i hi => by
      obtain ⟨ss, a', cap', h1, h2, h3, h4⟩ := open_strsU (hel i hi).2
      exact ⟨⟨a', cap', ss⟩, h1, h2, h3, h4⟩
    obtain ⟨f, hf⟩ := choose_lt each
    subst hx
    have hlen : ((List.range len).map f).length = len := by simp
    have hat : ∀ i, i < len → ((List.range len).map f).getD i rw0 = f i := fun i hi => by
      rw [List.getD, List.getElem?_map, List.getElem?_range hi]; rfl
    have hD : ∀ i, i < len → Rows.uptoBulk (D i) ≤ Rows.uptoBulk (.slice ((List.range len).map D) ((List.range (cap - len)).map fun j => D (len + j))) := fun i hi => by
      refine Nat.le_trans (bulk_part (List.mem_map.2 ⟨i, List.mem_range.2 hi, rfl⟩)) (bulk_elems _ _)
    refine ⟨(List.range len).map f, some a, cap, by rw [hlen]; exact hcs, ⟨?_, ?_⟩, ?_, ?_, ?_⟩
    · by_cases h0 : len = 0
      · subst h0
        exact .inl ⟨by simp, some a, cap, by simp⟩
      · have h00 := (hel 0 (by omega)).1
        obtain ⟨g, off, spot⟩ := a
        have hspot : spot = none := by simpa [Addr.add] using World.cell?_spot h00
        subst hspot
        rw [hlen]
        refine .inr ⟨g, off, cap, by first | rfl | rw [hlen], ?_, fun j hj => ?_⟩
        · have h1 := World.block_lt_of_cell? W _ h00
          simpa [Addr.add] using h1
        · have hj : j < len := by simpa using hj
          have := (hel j (by omega)).1
          rw [show (⟨g, off, none⟩ : Addr).add j = ⟨g, off + j, none⟩ from Addr.add_lit ..] at this
          rw [this, hat j hj, (hf j (by omega)).1]
    · intro r hr
      obtain ⟨i, hi, rfl⟩ := List.mem_map.1 hr
      have hi' := List.mem_range.1 hi
      exact (hf i (by omega)).2.1
    · rw [hlen]
      dsimp only
      have h1 := bulk_elems ((List.range len).map D) ((List.range (cap - len)).map fun j => D (len + j))
      have h2 := bulk_len ((List.range len).map D)
      rw [List.length_map, List.length_range] at h2
      omega
    · intro r hr
      obtain ⟨i, hi, rfl⟩ := List.mem_map.1 hr
      have hi' := List.mem_range.1 hi
      exact Nat.le_trans (hf i (by omega)).2.2.1 (hD i hi')
    · intro r hr x hx
      obtain ⟨i, hi, rfl⟩ := List.mem_map.1 hr
      have hi' := List.mem_range.1 hi
      exact Nat.le_trans ((hf i (by omega)).2.2.2 x hx) (hD i hi')
/-- A row of bools. -/
theorem open_boolsU {H : Type} {enc : TypeId × Value → H} {W : World} {base : Nat} {held : Bool} {m : Nat} {v : Value} {y : DataW H × List MemPlace}
    (h : DataW.trod enc Try.prog W base (fun _ => true) held m 36 [v] = some y) :
    ∃ (rs : List Bool) (a : Option Addr) (cap : Nat), v = .slice a rs.length cap ∧ CellsOf W (.slice a rs.length cap) rs.length (boolAt rs) ∧ (a = none → cap = 0) ∧ rs.length ≤ Rows.uptoBulk y.1 := by
  rcases open_bools Try.underlying36 Try.underlying4 Try.cells4 h with ⟨hcs, hx⟩ | ⟨a, len, cap, B, hcs, hb, hl, hm, hx, hel⟩
  · simp only [List.cons.injEq, and_true] at hcs
    exact ⟨[], none, 0, hcs, .inl ⟨rfl, none, 0, rfl⟩, fun _ => rfl, by simp⟩
  · simp only [List.cons.injEq, and_true] at hcs
    subst hx
    have hlen : ((List.range len).map B).length = len := by simp
    refine ⟨(List.range len).map B, some a, cap, by rw [hlen]; exact hcs, ?_, nofun, ?_⟩
    · by_cases h0 : len = 0
      · subst h0
        exact .inl ⟨by simp, some a, cap, by simp⟩
      · have h00 := hel 0 (by omega)
        obtain ⟨g, off, spot⟩ := a
        have hspot : spot = none := by simpa [Addr.add] using World.cell?_spot h00
        subst hspot
        rw [hlen]
        refine .inr ⟨g, off, cap, rfl, ?_, fun j hj => ?_⟩
        · have h1 := World.block_lt_of_cell? W _ h00
          simpa [Addr.add] using h1
        · have := hel j (by omega)
          rw [show (⟨g, off, none⟩ : Addr).add j = ⟨g, off + j, none⟩ from Addr.add_lit ..] at this
          rw [this, boolAt, List.getD, List.getElem?_map, List.getElem?_range hj]; rfl
    · rw [hlen]
      simp only [boolRow]
      refine Nat.le_trans ?_ (bulk_elems _ _)
      refine Nat.le_trans ?_ (bulk_len _)
      simp
theorem bulk_of {H : Type} {l : List (DataW H)} (hk : Rows.uptoSmall H l = true) : Rows.uptoBulkAll l ≤ 1048576 := of_decide_eq_true hk
end Go.Proofs.Ytmmlmpcalhfigaa
