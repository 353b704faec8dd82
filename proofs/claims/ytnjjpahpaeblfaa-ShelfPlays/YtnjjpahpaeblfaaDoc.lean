/- The document's shelf with the blocks that are its own: what a store elsewhere leaves as it is, and what its Add leaves. -/
import Derived.Test.YtnjjpahpaeblfaaRefAdd
import Derived.Test.YtnjjpahpaeblfaaGrow
namespace Go.Proofs.Ytnjjpahpaeblfaa
open Go.RowKit Go.Maps Go.Sort
set_option linter.unusedVariables false

/-- The document's shelf: its struct at r, its row v, its notes T; G: the blocks that are its own. -/
structure RSF (w : World) (r base : Nat) (G : Nat → Prop) (v : Value) (T : List Ne) : Prop where
  cell : w.cell? ⟨r, 0, none⟩ = some v
  fr : w.frozen? ⟨r, 0, none⟩ = false
  row : w.ownsRow base 29 4 v T.length (allCells T)
  ok : ∀ e ∈ T, NeOk w e
  gr : G r
  gv : ∀ k, v.ownBlock = some k → G k
  gl : ∀ e ∈ T, ∀ k, (Value.slice e.a e.n.leans.length e.cap).ownBlock = some k → G k ∧ k ≠ r
  lt : ∀ k, G k → k < w.heap.size

theorem frozen_of_block {w w' : World} {b o : Nat} (h : w'.heap[b]? = w.heap[b]?) : w'.frozen? ⟨b, o, none⟩ = w.frozen? ⟨b, o, none⟩ := by
  simp [World.frozen?, h]

theorem RSF.kept {w w' : World} {r base : Nat} {G : Nat → Prop} {v : Value} {T : List Ne} (h : RSF w r base G v T) (hs : w.heap.size ≤ w'.heap.size) (hG : ∀ k, G k → k < w.heap.size → w'.heap[k]? = w.heap[k]?) : RSF w' r base G v T := by
  have hr : r < w.heap.size := World.block_lt_of_cell? w _ h.cell
  refine ⟨?_, ?_, ?_, ?_, h.gr, h.gv, h.gl, fun k hk => Nat.lt_of_lt_of_le (h.lt k hk) hs⟩
  · rw [World.cell?_of_block (a := ⟨r, 0, none⟩) (hG r h.gr hr)]; exact h.cell
  · rw [frozen_of_block (hG r h.gr hr)]; exact h.fr
  · refine ⟨h.row.1, ?_⟩
    rcases h.row.2 with h1 | ⟨g, cap, cur, h1, h2, h3, h4⟩
    · exact .inl h1
    · exact .inr ⟨g, cap, cur, h1, h2, (hG g (h.gv g (by rw [h1]; rfl)) (Array.getElem?_eq_some_iff.1 h3).1).trans h3, h4⟩
  · intro e he
    have h1 := h.ok e he
    exact ⟨h1.ok, h1.le, h1.max, h1.at_.kept hs (fun g hg hlt => hG g (h.gl e he g hg).1 hlt)⟩

theorem RSF.below {B : Nat} {w w' : World} {r base : Nat} {G : Nat → Prop} {v : Value} {T : List Ne} (h : RSF w r base G v T) (hb : Below B w w') (hB : w.heap.size ≤ B) : RSF w' r base G v T :=
  h.kept hb.size (fun k _ hk => hb.block k (Nat.lt_of_lt_of_le hk hB))
theorem RSF.rs {w : World} {r base : Nat} {G : Nat → Prop} {v : Value} {T : List Ne} (h : RSF w r base G v T) (h64 : T.length ≤ 64) : RS w r T := by
  obtain ⟨a, cap, rfl⟩ := row_shape h.row
  exact ⟨a, cap, h.cell, NotesAt.of_row h.row h.ok (by omega)⟩

theorem set_other (w : World) (r : Nat) (v : Value) {k : Nat} (h : k ≠ r) : (w.setCell ⟨r, 0, none⟩ v).heap[k]? = w.heap[k]? := Below.heap_setCell w ⟨r, 0, none⟩ v k h

/-- What Add of the document's shelf leaves, where it takes the note. -/
theorem RSF.add {w W : World} {r base : Nat} {G : Nat → Prop} {v v' : Value} {T : List Ne} {n : Nt} {k : Nat} {a' : Option Addr} {c' : Nat} (h : RSF w r base G v T) (hn : NtOk n) (hbase : base ≤ w.heap.size) (hb : Below w.heap.size w W) (hrow : W.ownsRow w.heap.size 29 4 v' (T.length + 1) (allCells (T.take k ++ ⟨n, a', c'⟩ :: T.drop k)))
    (hl : W.ownsRow w.heap.size 9 1 (.slice a' n.leans.length c') n.leans.length (n.leans.map encStr)) (hk : k ≤ T.length) :
    RSF (W.setCell ⟨r, 0, none⟩ v') r base (fun j => G j ∨ (w.heap.size ≤ j ∧ j < (W.setCell ⟨r, 0, none⟩ v').heap.size)) v' (T.take k ++ ⟨n, a', c'⟩ :: T.drop k) := by
  have hr : r < w.heap.size := World.block_lt_of_cell? w _ h.cell
  have hrW : r < W.heap.size := Nat.lt_of_lt_of_le hr hb.size
  have hcW : W.cell? ⟨r, 0, none⟩ = some v := ((bcell hb).1 r 0 hr).trans h.cell
  have hfW : W.frozen? ⟨r, 0, none⟩ = false := ((bcell hb).2 r 0 hr).trans h.fr
  have hsz : (W.setCell ⟨r, 0, none⟩ v').heap.size = W.heap.size := by simp
  have hlen : (T.take k ++ (⟨n, a', c'⟩ : Ne) :: T.drop k).length = T.length + 1 := by
    rw [List.length_append, List.length_cons, List.length_take, List.length_drop]; omega
  have hmem : ∀ e ∈ T.take k ++ (⟨n, a', c'⟩ : Ne) :: T.drop k, e ∈ T ∨ e = ⟨n, a', c'⟩ := fun e he => by
    rcases List.mem_append.1 he with he | he
    · exact .inl (List.mem_of_mem_take he)
    · rcases List.mem_cons.1 he with he | he
      · exact .inr he
      · exact .inl (List.mem_of_mem_drop he)
  refine ⟨?_, ?_, ?_, ?_, .inl h.gr, ?_, ?_, ?_⟩
  · simp [go_sem, hcW]
  · simp [go_sem, hfW]
  · rw [hlen]
    exact row_mono (row_setCell hrow (a := ⟨r, 0, none⟩) hr v') hbase
  · intro e he
    rcases hmem e he with h1 | rfl
    · have h2 := h.ok e h1
      refine ⟨h2.ok, h2.le, h2.max, h2.at_.kept (by rw [hsz]; exact hb.size) (fun g hg hlt => ?_)⟩
      rw [set_other W r v' (h.gl e h1 g hg).2]
      exact hb.block g hlt
    · have h3 := row_cap hl
      exact ⟨hn, h3.1, h3.2, (StrsAt.of_row hl).kept (by rw [hsz]; exact Nat.le_refl _) (fun g hg hlt => set_other W r v' (by have := (hl.lt g hg).1; omega))⟩
  · intro j hj
    have := hrow.lt j hj
    exact .inr ⟨this.1, by rw [hsz]; exact this.2⟩
  · intro e he j hj
    rcases hmem e he with h1 | rfl
    · exact ⟨.inl (h.gl e h1 j hj).1, (h.gl e h1 j hj).2⟩
    · have := hl.lt j hj
      exact ⟨.inr ⟨this.1, by rw [hsz]; exact this.2⟩, by omega⟩
  · rintro j (hj | hj)
    · have := h.lt j hj
      rw [hsz]; exact Nat.lt_of_lt_of_le this hb.size
    · exact hj.2

/-- The right notes of a shelf are few and small. -/
theorem SH.few' {w : World} {p b : Nat} {F : Nat → Prop} {S : List Nt} {D : DataW Value} (h : SH w p b F S D) : Few S := by
  refine ⟨h.few, fun n hn => ?_⟩
  obtain ⟨_, hr, _⟩ := h.inn n hn
  refine ⟨h.leans8 hn, ?_⟩
  have hrl : rlB n.name n.leans = true := by
    unfold rightI at hr
    cases hc : rlB n.name n.leans with
    | true => rfl
    | false => rw [hc] at hr; simp at hr
  rw [List.nodup_iff_pairwise_ne, List.pairwise_iff_getElem]
  intro i j hi hj hij e
  have h1 := (rlB_iff _ _).1 hrl j hj
  unfold goodAt at h1
  simp only [Bool.and_eq_true, Bool.not_eq_true'] at h1
  have h2 : (n.leans.take j).contains (n.leans.getD j []) = true := by
    rw [List.contains_iff_mem, List.getD, List.getElem?_eq_getElem hj, Option.getD_some, ← e]
    exact List.mem_iff_getElem.2 ⟨i, by rw [List.length_take]; omega, by rw [List.getElem_take]⟩
  rw [h2] at h1
  exact absurd h1.2 (by simp)
end Go.Proofs.Ytnjjpahpaeblfaa
