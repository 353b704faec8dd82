/- Rows of words: of one's own, in arrays of 256. -/
import Derived.Test.YtiipfljdkbdbbaaBase
import Derived.Laws.AppendOwnNone
import Derived.OwnWalk
import Derived.Below
import Derived.Deep.QuietTactic
import Derived.Deep.WholeRow
import Derived.Deep.OwnRows
import Derived.Laws.Alloc2
import Derived.Laws.Slices
namespace Go.Proofs.Ytiipfljdkbdbbaa
open Go.RowKit
set_option linter.unusedVariables false

theorem Below.next {w a b : World} (h : Below w.heap.size w a) (k : Below a.heap.size a b) : Below w.heap.size w b := h.trans (k.mono h.size)
theorem Below.more {w a : World} (h : Below w.heap.size w a) (o : Obj) : Below w.heap.size w (a.alloc o) := h.alloc h.size o
theorem row_lt {w : World} {g : Nat} {o : Obj} (h : w.heap[g]? = some o) : g < w.heap.size := by
  rcases Nat.lt_or_ge g w.heap.size with h' | h'
  · exact h'
  · rw [Array.getElem?_eq_none h'] at h; cases h
theorem row_shapeC {w : World} {base e size n : Nat} {v : Value} {xs : List Value} (h : w.ownsRow base e size v n xs) (hn : 0 < n) : ∃ g cap, v = .slice (some ⟨g, 0, none⟩) n cap ∧ base ≤ g ∧ g < w.heap.size ∧ n ≤ cap := by
  rcases h.2 with ⟨rfl, rfl⟩ | ⟨g, cap, cur, rfl, hb, hg, hc, _⟩
  · omega
  · exact ⟨g, cap, rfl, hb, row_lt hg, hc⟩
theorem row_shape {w : World} {base e size n : Nat} {v : Value} {xs : List Value} (h : w.ownsRow base e size v n xs) : ∃ a cap, v = .slice a n cap := by
  rcases h.2 with ⟨rfl, rfl⟩ | ⟨g, cap, cur, rfl, _⟩
  · exact ⟨none, 0, rfl⟩
  · exact ⟨_, cap, rfl⟩
theorem row_below {B : Nat} {e : TypeId} {k : Nat} {v : Value} {n : Nat} {xs : List Value} {w w' : World} (h : w.ownsRow B e k v n xs) (hb : Below w.heap.size w w') : w'.ownsRow B e k v n xs := by
  refine ⟨h.1, ?_⟩
  rcases h.2 with h0 | ⟨g, cap, cur, hv, hbg, hg, h3, h4, h5, h6⟩
  · exact .inl h0
  · exact .inr ⟨g, cap, cur, hv, hbg, by rw [hb.block g (row_lt hg)]; exact hg, h3, h4, h5, h6⟩
theorem row_mono {w : World} {base base' e size n : Nat} {v : Value} {xs : List Value} (h : w.ownsRow base e size v n xs) (hb : base' ≤ base) : w.ownsRow base' e size v n xs := by
  refine ⟨h.1, ?_⟩
  rcases h.2 with h | ⟨g, cap, cur, h1, h2, h3⟩
  · exact .inl h
  · exact .inr ⟨g, cap, cur, h1, by omega, h3⟩
theorem row_grown {w w' a : World} {base e size n : Nat} {v : Value} {xs : List Value} (h : w.ownsRow base e size v n xs) (hb : Below base a w) (hg : w.grownBy w' v.ownBlock) (hB : base ≤ w.heap.size) : Below base a w' :=
  hb.grown hg hB fun k hk => by
    rcases h.2 with ⟨rfl, _⟩ | ⟨g, cap, cur, rfl, hbg, _⟩
    · simp [Value.ownBlock] at hk
    · simp [Value.ownBlock] at hk; omega
theorem below_drewN {B : Nat} {a w : World} (h : Below B a w) (n : Nat) : Below B a (w.drewN n) := h.trans ⟨rfl, rfl, rfl, Nat.le_refl _, fun _ _ => rfl⟩
theorem new_cell1 (w : World) (u : Value) (t : TypeId) : ∀ j v, [u][j]? = some v → (w.alloc (.cells #[u] t)).cell? ((⟨w.heap.size, 0, none⟩ : Addr).add j) = some v := fun j v h => by
  rw [Go.WideShapes.add_plain, World.cell?_alloc_new]
  cases j with
  | zero => simpa using h
  | succ j => simp at h

/-- A row of 256 numbers of which k are laid. -/
def fillL (kd : IntKind) (f : Nat → Nat) (k : Nat) : List Value := (List.range k).map (fun i => .int kd (f i : Int)) ++ List.replicate (256 - k) (.int kd 0)
def fillC (kd : IntKind) (f : Nat → Nat) (k : Nat) : Array Value := (fillL kd f k).toArray
theorem fill_size (kd : IntKind) (f : Nat → Nat) (k : Nat) (h : k ≤ 256) : (fillC kd f k).size = 256 := by simp [fillC, fillL]; omega
theorem fill_set (kd : IntKind) (f : Nat → Nat) (k : Nat) (h : k < 256) : (fillC kd f k).setIfInBounds k (.int kd (f k : Int)) = fillC kd f (k + 1) := by
  unfold fillC fillL
  apply Array.toList_inj.1
  rw [Array.toList_setIfInBounds]
  simp only []
  rw [show 256 - k = (256 - (k + 1)) + 1 by omega, List.replicate_succ, List.set_append_right _ _ (by simp), List.range_succ, List.map_append]
  simp
theorem fill_zero (kd : IntKind) (f : Nat → Nat) (k : Nat) (h : k < 256) : (fillC kd f k)[k]? = some (.int kd 0) := by
  unfold fillC fillL
  rw [List.getElem?_toArray, List.getElem?_append_right (by simp), List.getElem?_replicate, if_pos (by simp; omega)]
theorem fill_at (kd : IntKind) (f : Nat → Nat) (i : Nat) (h : i < 256) : (fillC kd f 256)[i]? = some (.int kd (f i : Int)) := by
  unfold fillC fillL
  rw [List.getElem?_toArray, List.getElem?_append_left (by simpa using h), List.getElem?_map, List.getElem?_range h]
  rfl
theorem fill_one (kd : IntKind) (f : Nat → Nat) (k : Nat) : (fillC kd f k).all (·.oneCell') = true := by
  rw [Array.all_eq_true_iff_forall_mem]
  intro v hv
  simp only [fillC, fillL, List.mem_toArray, List.mem_append, List.mem_map, List.mem_replicate] at hv
  rcases hv with ⟨i, _, rfl⟩ | ⟨_, rfl⟩ <;> rfl

theorem below_setRow {B g : Nat} {a w : World} (h : Below B a w) (hg : B ≤ g) (cs : Array Value) : Below B a (w.setRow g cs) :=
  h.trans ⟨by simp, by simp, by simp, by simp, fun k hk => setRow_other _ _ _ _ (by omega)⟩
def rangeC (kd : IntKind) (f : Nat → Nat) (k : Nat) : List Value := (List.range k).map fun i => .int kd (f i : Int)
theorem rangeC_next (kd : IntKind) (f : Nat → Nat) (k : Nat) : rangeC kd f (k + 1) = rangeC kd f k ++ [.int kd (f k : Int)] := by simp [rangeC, List.range_succ]
/-- A block of which the first 256 words are these. -/
def WbAt (w : World) (g : Nat) (f : Nat → Nat) : Prop := ∃ cs ty, w.heap[g]? = some (.cells cs ty (0, 0)) ∧ ∀ j, j < 256 → cs[j]? = some (.int .u32 (f j : Int))
theorem WbAt.lt {w : World} {g : Nat} {f : Nat → Nat} (h : WbAt w g f) : g < w.heap.size := by obtain ⟨cs, ty, h, _⟩ := h; exact row_lt h
theorem WbAt.cell {w : World} {g : Nat} {f : Nat → Nat} (h : WbAt w g f) {k : Nat} (hk : k < 256) : w.cell? ⟨g, k, none⟩ = some (.int .u32 (f k : Int)) := by
  obtain ⟨cs, ty, h, hc⟩ := h
  rw [cell_of_row _ _ _ _ _ _ h]; exact hc k hk
theorem WbAt.frozen {w : World} {g : Nat} {f : Nat → Nat} (h : WbAt w g f) (k : Nat) : w.frozen? ⟨g, k, none⟩ = false := by
  obtain ⟨cs, ty, h, _⟩ := h; exact frozen_of_row _ _ _ _ _ h
theorem WbAt.next {w w' : World} {g : Nat} {f : Nat → Nat} (h : WbAt w g f) (hb : Below w.heap.size w w') : WbAt w' g f := by
  have hl := h.lt
  obtain ⟨cs, ty, h, hc⟩ := h
  exact ⟨cs, ty, (hb.block g hl).trans h, hc⟩
theorem WbAt.put {w : World} {g k : Nat} {f : Nat → Nat} (h : WbAt w g f) (hn : g ≠ k) (i : Nat) (v : Value) : WbAt (w.setCell ⟨k, i, none⟩ v) g f := by
  obtain ⟨cs, ty, h, hc⟩ := h
  exact ⟨cs, ty, (Below.heap_setCell w ⟨k, i, none⟩ v g hn).trans h, hc⟩
theorem WbAt.fill {w : World} {g : Nat} {t : TypeId} {f : Nat → Nat} (h : w.heap[g]? = some (.cells (fillC .u32 f 256) t (0, 0))) : WbAt w g f := ⟨_, _, h, fun j hj => fill_at _ _ j hj⟩
theorem below_setCell {B g : Nat} {a w : World} (h : Below B a w) (hg : B ≤ g) (k : Nat) (v : Value) : Below B a (w.setCell ⟨g, k, none⟩ v) := h.setCell (p := ⟨g, k, none⟩) hg v
end Go.Proofs.Ytiipfljdkbdbbaa
