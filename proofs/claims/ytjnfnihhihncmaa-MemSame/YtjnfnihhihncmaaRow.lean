/- Bytes in memory: slices that are read, rows of one's own, one block that is written. -/
import Derived.Test.YtjnfnihhihncmaaBase
import Derived.Test.YtjnfnihhihncmaaQuietB
import Derived.Laws.AppendOwnNone
import Derived.Laws.CopyOwn
import Derived.OwnWalk
import Derived.Deep.QuietTactic
import Derived.Deep.RegionWith
import Derived.Deep.OwnRows
import Derived.Laws.Slices
namespace Go.Proofs.Ytjnfnihhihncmaa
open Go.RowKit
set_option linter.unusedVariables false

def encB (b : UInt8) : Value := .int .u8 (b.toNat : Int)
/-- A slice value reads as these bytes. -/
def ByAt (w : World) (sl : Value) (bs : List UInt8) : Prop :=
  (bs = [] ∧ ∃ a cap, sl = .slice a 0 cap ∧ (a = none → cap = 0)) ∨
  ∃ g off cap, sl = .slice (some ⟨g, off, none⟩) bs.length cap ∧ g < w.heap.size ∧ ∀ j, j < bs.length → w.cell? ⟨g, off + j, none⟩ = some (encB (bs.getD j 0))
theorem ByAt.below {B : Nat} {w w' : World} {sl : Value} {bs : List UInt8} (h : ByAt w sl bs) (hb : Below B w w') (hB : w.heap.size ≤ B) : ByAt w' sl bs := by
  rcases h with h | ⟨g, off, cap, rfl, hg, hc⟩
  · exact .inl h
  · refine .inr ⟨g, off, cap, rfl, Nat.lt_of_lt_of_le hg hb.size, fun j hj => ?_⟩
    rw [hb.cell (p := ⟨g, off + j, none⟩) (Nat.lt_of_lt_of_le hg hB)]
    exact hc j hj

theorem ByAt.shape {w : World} {sl : Value} {bs : List UInt8} (h : ByAt w sl bs) : ∃ a cap, sl = .slice a bs.length cap ∧ ∀ k, k < bs.length → ∃ g off, a = some ⟨g, off, none⟩ ∧ g < w.heap.size ∧ w.cell? ⟨g, off + k, none⟩ = some (.int .u8 ((bs.getD k 0).toNat : Int)) := by
  rcases h with ⟨rfl, a, cap, rfl, _⟩ | ⟨g, off, cap, rfl, hg, hc⟩
  · exact ⟨a, cap, rfl, fun k hk => by simp at hk⟩
  · exact ⟨_, cap, rfl, fun k hk => ⟨g, off, rfl, hg, hc k hk⟩⟩
theorem ByAt.take {w : World} {a : Option Addr} {n cap : Nat} {bs : List UInt8} (h : ByAt w (.slice a bs.length cap) bs) (hn : n ≤ bs.length) : ByAt w (.slice a n cap) (bs.take n) := by
  have hl : (bs.take n).length = n := by simp; omega
  rcases h with ⟨rfl, a', c', he, hcap⟩ | ⟨g, off, c', he, hg, hc⟩
  · cases he
    have : n = 0 := by simpa using hn
    subst this
    exact .inl ⟨by simp, a, cap, rfl, hcap⟩
  · cases he
    refine .inr ⟨g, off, cap, by rw [hl], hg, fun j hj => ?_⟩
    rw [hl] at hj
    rw [hc j (by omega), List.getD_eq_getElem?_getD, List.getD_eq_getElem?_getD, List.getElem?_take, if_pos hj]
theorem Try.info5 : (Try.prog.info? 5).map (fun i => (i.zero, i.size, i.bytes)) = some (some (.int .u8 0), 1, 1) := by kernel_rfl
theorem bytes_oneCell (bs : List UInt8) : ∀ u ∈ bs.map encB, u.oneCell' = true := by
  intro u hu
  obtain ⟨x, _, rfl⟩ := List.mem_map.1 hu
  rfl
theorem row_lt {w : World} {g : Nat} {o : Obj} (h : w.heap[g]? = some o) : g < w.heap.size := by
  rcases Nat.lt_or_ge g w.heap.size with h' | h'
  · exact h'
  · rw [Array.getElem?_eq_none h'] at h; cases h
theorem row_shapeC {w : World} {base e size n : Nat} {v : Value} {xs : List Value} (h : w.ownsRow base e size v n xs) (hn : 0 < n) : ∃ g cap, v = .slice (some ⟨g, 0, none⟩) n cap ∧ base ≤ g ∧ g < w.heap.size ∧ n ≤ cap := by
  rcases h.2 with ⟨rfl, rfl⟩ | ⟨g, cap, cur, rfl, hb, hg, hc, _⟩
  · omega
  · exact ⟨g, cap, rfl, hb, row_lt hg, hc⟩
theorem row_shape {w : World} {base e size n : Nat} {v : Value} {xs : List Value} (h : w.ownsRow base e size v n xs) : ∃ a cap, v = .slice a n cap := by
  rcases h.2 with ⟨rfl, rfl⟩ | ⟨g, cap, cur, rfl, _⟩
  · exact ⟨none, 0, rfl⟩
  · exact ⟨_, cap, rfl⟩
theorem row_below {B : Nat} {e : TypeId} {k : Nat} {v : Value} {n : Nat} {xs : List Value} {w w' : World} (h : w.ownsRow B e k v n xs) (hb : Below w.heap.size w w') : w'.ownsRow B e k v n xs := by
  refine ⟨h.1, ?_⟩
  rcases h.2 with h0 | ⟨g, cap, cur, hv, hbg, hg, h3, h4, h5, h6⟩
  · exact .inl h0
  · exact .inr ⟨g, cap, cur, hv, hbg, by rw [hb.block g (row_lt hg)]; exact hg, h3, h4, h5, h6⟩
theorem row_mono {w : World} {base base' e size n : Nat} {v : Value} {xs : List Value} (h : w.ownsRow base e size v n xs) (hb : base' ≤ base) : w.ownsRow base' e size v n xs := by
  refine ⟨h.1, ?_⟩
  rcases h.2 with h | ⟨g, cap, cur, h1, h2, h3⟩
  · exact .inl h
  · exact .inr ⟨g, cap, cur, h1, by omega, h3⟩
theorem row_grown {w w' a : World} {base e size n : Nat} {v : Value} {xs : List Value} (h : w.ownsRow base e size v n xs) (hb : Below base a w) (hg : w.grownBy w' v.ownBlock) (hB : base ≤ w.heap.size) : Below base a w' :=
  hb.grown hg hB fun k hk => by
    rcases h.2 with ⟨rfl, _⟩ | ⟨g, cap, cur, rfl, hbg, _⟩
    · simp [Value.ownBlock] at hk
    · simp [Value.ownBlock] at hk; omega
theorem row_by {w : World} {base : Nat} {v : Value} {bs : List UInt8} {e : TypeId} (h : w.ownsRow base e 1 v bs.length (bs.map encB)) : ByAt w v bs := by
  rcases h.2 with ⟨rfl, h0⟩ | ⟨g, cap, cur, rfl, hb, hg, _⟩
  · exact .inl ⟨List.length_eq_zero_iff.1 h0, none, 0, rfl, fun _ => rfl⟩
  · refine .inr ⟨g, 0, cap, rfl, row_lt hg, fun j hj => ?_⟩
    have := h.cells (g := g) rfl j (encB (bs.getD j 0)) (by rw [List.getElem?_map, List.getElem?_eq_getElem hj, List.getD_eq_getElem?_getD, List.getElem?_eq_getElem hj]; rfl)
    rwa [show (⟨g, 0, none⟩ : Addr).add j = ⟨g, 0 + j, none⟩ from Addr.add_lit ..] at this
theorem below_drewN {B : Nat} {a w : World} (h : Below B a w) (n : Nat) : Below B a (w.drewN n) := h.trans ⟨rfl, rfl, rfl, Nat.le_refl _, fun _ _ => rfl⟩
theorem new_cell1 (w : World) (u : Value) (t : TypeId) : ∀ j v, [u][j]? = some v → (w.alloc (.cells #[u] t)).cell? ((⟨w.heap.size, 0, none⟩ : Addr).add j) = some v := fun j v h => by
  rw [Go.WideShapes.add_plain, World.cell?_alloc_new]
  cases j with
  | zero => simpa using h
  | succ j => simp at h

theorem row_full {w : World} {base e g n : Nat} {xs : List Value} (h : w.ownsRow base e 1 (.slice (some ⟨g, 0, none⟩) n n) n xs) : w.heap[g]? = some (.cells xs.toArray e (0, 0)) := by
  rcases h.2 with ⟨h', _⟩ | ⟨g', cap', cur, h', hb, hg, hnc, hcm, hcs, htake⟩
  · simp at h'
  · simp only [Value.slice.injEq, Option.some.injEq, Addr.mk.injEq, and_true, true_and] at h'
    obtain ⟨rfl, rfl⟩ := h'
    rw [hg]
    have : cur.toList = xs := by rw [← htake, List.take_of_length_le]; rw [Array.length_toList]; omega
    rw [← this]
theorem full_row {w : World} {base e g n : Nat} {xs : List Value} (hb : base ≤ g) (hl : xs.length = n) (hm : n ≤ maxLen) (h : w.heap[g]? = some (.cells xs.toArray e (0, 0))) : w.ownsRow base e 1 (.slice (some ⟨g, 0, none⟩) n n) n xs :=
  ⟨by omega, .inr ⟨g, n, xs.toArray, rfl, hb, h, Nat.le_refl _, hm, by simp [hl], by rw [Nat.mul_one, ← hl]; simp⟩⟩

/-- All that was there is as it was, but for one block. -/
structure But (g : Nat) (w w' : World) : Prop where
  bel : Below g w w'
  rest : ∀ b, b < w.heap.size → b ≠ g → w'.heap[b]? = w.heap[b]?
theorem But.refl (g : Nat) (w : World) : But g w w := ⟨Below.refl _ _, fun _ _ _ => rfl⟩
theorem But.trans {g : Nat} {a b c : World} (h : But g a b) (k : But g b c) : But g a c := ⟨h.bel.trans k.bel, fun i hi hn => (k.rest i (Nat.lt_of_lt_of_le hi h.bel.size) hn).trans (h.rest i hi hn)⟩
theorem But.of {g : Nat} {a b : World} (h : Below a.heap.size a b) (hg : g ≤ a.heap.size) : But g a b := ⟨h.mono hg, fun i hi _ => h.block i hi⟩
theorem But.put {g : Nat} {a b : World} (h : But g a b) (k : Nat) (u : Value) : But g a (b.setCell ⟨g, k, none⟩ u) :=
  ⟨h.bel.setCell (p := ⟨g, k, none⟩) (Nat.le_refl _) u, fun i hi hn => (heap_setCell_other b ⟨g, k, none⟩ i u hn).trans (h.rest i hi hn)⟩
theorem But.cell {g : Nat} {a b : World} (h : But g a b) {i o : Nat} (hi : i < a.heap.size) (hn : i ≠ g) : b.cell? ⟨i, o, none⟩ = a.cell? ⟨i, o, none⟩ := by
  simp only [World.cell?, h.rest i hi hn]

theorem But.below {g : Nat} {a b c : World} (h : But g a b) (k : Below b.heap.size b c) (hg : g ≤ a.heap.size) : But g a c := h.trans (But.of k (Nat.le_trans hg h.bel.size))
def RowAt (w : World) (g : Nat) (L : List UInt8) : Prop := w.heap[g]? = some (.cells (L.map encB).toArray (5 : TypeId) (0, 0))
theorem RowAt.lt {w : World} {g : Nat} {L : List UInt8} (h : RowAt w g L) : g < w.heap.size := row_lt h
theorem RowAt.cell {w : World} {g : Nat} {L : List UInt8} (h : RowAt w g L) {k : Nat} (hk : k < L.length) : w.cell? ⟨g, k, none⟩ = some (.int .u8 ((L.getD k 0).toNat : Int)) := by
  rw [cell_of_row _ _ _ _ _ _ h, List.getElem?_toArray, List.getElem?_map, List.getElem?_eq_getElem hk, List.getD_eq_getElem?_getD, List.getElem?_eq_getElem hk]; rfl
theorem RowAt.frozen {w : World} {g : Nat} {L : List UInt8} (h : RowAt w g L) (k : Nat) : w.frozen? ⟨g, k, none⟩ = false := frozen_of_row _ _ _ _ _ h
theorem RowAt.set {w : World} {g : Nat} {L : List UInt8} (h : RowAt w g L) (k : Nat) (v : UInt8) : RowAt (w.setCell ⟨g, k, none⟩ (.int .u8 (v.toNat : Int))) g (L.set k v) := by
  unfold RowAt
  rw [heap_setCell_same w g k _ _ _ h]
  congr 2
  apply Array.toList_inj.1
  simp [encB, List.map_set]
theorem RowAt.below {w w' : World} {g n : Nat} {L : List UInt8} (h : RowAt w g L) (hb : Below n w w') (hn : g < n) : RowAt w' g L := (hb.block g hn).trans h
theorem RowAt.next {w w' : World} {g : Nat} {L : List UInt8} (h : RowAt w g L) (hb : Below w.heap.size w w') : RowAt w' g L := h.below hb h.lt
theorem RowAt.by {w : World} {g : Nat} {L : List UInt8} (h : RowAt w g L) (off n cap : Nat) (hn : off + n ≤ L.length) : ByAt w (.slice (some ⟨g, off, none⟩) n cap) ((L.drop off).take n) := by
  have hl : ((L.drop off).take n).length = n := by rw [List.length_take, List.length_drop]; omega
  refine .inr ⟨g, off, cap, by rw [hl], h.lt, fun j hj => ?_⟩
  rw [hl] at hj
  rw [h.cell (by omega)]
  unfold encB
  congr 4
  rw [List.getD_eq_getElem?_getD, List.getD_eq_getElem?_getD, List.getElem?_take, if_pos hj, List.getElem?_drop]
/-- A slice keeps its bytes where its block is another than the one that is written. -/
def Off (sl : Value) (g : Nat) : Prop := ∀ h o n c, sl = .slice (some ⟨h, o, none⟩) n c → h ≠ g
theorem ByAt.but {g : Nat} {w w' : World} {sl : Value} {bs : List UInt8} (h : ByAt w sl bs) (hb : But g w w') (hn : Off sl g) : ByAt w' sl bs := by
  rcases h with h | ⟨k, off, cap, rfl, hg, hc⟩
  · exact .inl h
  · refine .inr ⟨k, off, cap, rfl, Nat.lt_of_lt_of_le hg hb.bel.size, fun j hj => ?_⟩
    rw [hb.cell hg (hn _ _ _ _ rfl)]
    exact hc j hj
theorem ByAt.off {w : World} {sl : Value} {bs : List UInt8} (h : ByAt w sl bs) {g : Nat} (hg : w.heap.size ≤ g) (hne : bs ≠ []) : Off sl g := by
  intro k o n c he hk
  rcases h with ⟨h0, _⟩ | ⟨k', off, cap, he', hg', hc⟩
  · exact hne h0
  · rw [he'] at he
    simp only [Value.slice.injEq, Option.some.injEq, Addr.mk.injEq] at he
    omega
theorem ByAt.next {w w' : World} {sl : Value} {bs : List UInt8} (h : ByAt w sl bs) (hb : Below w.heap.size w w') : ByAt w' sl bs := h.below hb (Nat.le_refl _)
end Go.Proofs.Ytjnfnihhihncmaa
