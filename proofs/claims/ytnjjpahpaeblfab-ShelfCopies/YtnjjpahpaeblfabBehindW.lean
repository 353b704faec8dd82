/- Small facts on slices of notes in memory, and on orders. -/
import Derived.Test.YtnjjpahpaeblfabAlive
import Derived.Test.YtnjjpahpaeblfabOwnN
import Derived.Test.YtnjjpahpaeblfabRefB
import Derived.Test.YtnjjpahpaeblfabGet
import Derived.Test.YtnjjpahpaeblfabPlain
import Derived.Test.YtnjjpahpaeblfabNe
import Derived.Deep.AppendLies
namespace Go.Proofs.Ytnjjpahpaeblfab
open Go.RowKit Go.Maps Go.Sort
set_option linter.unusedVariables false

theorem Try.info26 : (Try.prog.info? 26).map (fun i => (i.zero, i.size, i.bytes)) = some (some (.agg #[.string ⟨#[]⟩, .int .i64 0, .int .u32 0, .slice none 0 0]), 4, 56) := by kernel_rfl

/-- The cells of a list of notes. -/
def allCells (T : List Ne) : List Value := T.flatMap neCells
theorem allCells_length (T : List Ne) : (allCells T).length = T.length * 4 := by
  induction T with
  | nil => rfl
  | cons e r ih => simp [allCells, neCells] at ih ⊢; omega

theorem allCells_snoc (T : List Ne) (e : Ne) : allCells (T ++ [e]) = allCells T ++ neCells e := by simp [allCells]
theorem ne_oneCell (e : Ne) : ∀ u ∈ neCells e, u.oneCell' = true := by
  intro u hu
  simp only [neCells, List.mem_cons, List.not_mem_nil, or_false] at hu
  rcases hu with rfl | rfl | rfl | rfl <;> rfl
theorem cells4_new (w : World) (v0 v1 v2 v3 : Value) (t : TypeId) : ∀ j u, [v0, v1, v2, v3][j]? = some u → (w.alloc (.cells #[v0, v1, v2, v3] t)).cell? ((⟨w.heap.size, 0, none⟩ : Addr).add j) = some u := by
  intro j u hu
  rw [show (⟨w.heap.size, 0, none⟩ : Addr).add j = ⟨w.heap.size, 0 + j, none⟩ from Addr.add_lit ..]
  have hj := (List.getElem?_eq_some_iff.1 hu).1
  have hj' : j = 0 ∨ j = 1 ∨ j = 2 ∨ j = 3 := by simp at hj; omega
  rcases hj' with rfl | rfl | rfl | rfl <;> simp at hu <;> simp [hu]

theorem allCells_get : ∀ (T : List Ne) (j q : Nat), j < T.length → q < 4 → (allCells T)[j * 4 + q]? = (neCells (T.getD j ne0))[q]?
  | [], j, q, hj, _ => by simp at hj
  | e :: r, 0, q, _, hq => by
    simp only [allCells, List.flatMap_cons, Nat.zero_mul, Nat.zero_add]
    rw [List.getElem?_append_left (by simpa [neCells] using hq)]
    rfl
  | e :: r, j + 1, q, hj, hq => by
    have ih := allCells_get r j q (by simpa using hj) hq
    simp only [allCells, List.flatMap_cons]
    rw [List.getElem?_append_right (by simp [neCells]; omega)]
    have : (j + 1) * 4 + q - (neCells e).length = j * 4 + q := by simp [neCells]; omega
    rw [this]
    simpa [allCells] using ih

theorem row_cells4 {w : World} {base cap : Nat} {a : Option Addr} {T : List Ne} (h : w.ownsRow base 26 4 (.slice a T.length cap) T.length (allCells T)) {j : Nat} (hj : j < T.length) : ∃ g, a = some ⟨g, 0, none⟩ ∧ CellsAt w g (j * 4) (T.getD j ne0) := by
  rcases h.2 with ⟨_, h0⟩ | ⟨g, cap', cur, hv, _⟩
  · omega
  · cases hv
    have f : ∀ q u, q < 4 → (neCells (T.getD j ne0))[q]? = some u → w.cell? ⟨g, j * 4 + q, none⟩ = some u := fun q u hq hu => by
      have := h.cells (g := g) rfl (j * 4 + q) u (by rw [allCells_get T j q hj hq]; exact hu)
      rwa [show (⟨g, 0, none⟩ : Addr).add (j * 4 + q) = ⟨g, 0 + (j * 4 + q), none⟩ from Addr.add_lit .., Nat.zero_add] at this
    exact ⟨g, rfl, f 0 _ (by omega) rfl, f 1 _ (by omega) rfl, f 2 _ (by omega) rfl, f 3 _ (by omega) rfl⟩

theorem row_cap {w : World} {base e size n cap : Nat} {a : Option Addr} {xs : List Value} (h : w.ownsRow base e size (.slice a n cap) n xs) : n ≤ cap ∧ cap ≤ maxLen := by
  rcases h.2 with ⟨hv, h0⟩ | ⟨g, cap', cur, hv, _, _, h1, h2, _⟩
  · cases hv; exact ⟨by omega, by simp⟩
  · cases hv; exact ⟨h1, h2⟩

theorem order_ok {w : World} {p b : Nat} {F : Nat → Prop} {S : List Nt} {D : DataW Value} (h : SH w p b F S D) : StrsOk (orderOf S).1 := by
  rcases orderOf_cases S with ⟨_, h1, h2⟩ | ⟨_, h1⟩
  · refine ⟨by rw [h1]; have := h.few; omega, fun x hx => ?_⟩
    obtain ⟨i, hi, rfl⟩ := List.mem_iff_getElem.1 hx
    have := (h2 i hi).1
    rw [List.getD, List.getElem?_eq_getElem hi] at this
    obtain ⟨n, hn, hnx⟩ := List.mem_map.1 this
    have h3 := (h.inn n hn).1.name
    rw [hnx] at h3
    exact h3
  · rw [h1]; simp [StrsOk]

theorem getNt_leans (S : List Nt) (x : List UInt8) : (getNt S x).leans = leansOf S x := by
  unfold getNt leansOf
  cases S.find? (fun n => n.name == x) <;> rfl

theorem among_take {w : World} {g off cap k : Nat} {o : List (List UInt8)} (hg : g < w.heap.size) (hc : ∀ j, j < o.length → w.cell? ⟨g, off + j, none⟩ = some (encStr (o.getD j []))) (hk : k ≤ o.length) (hl : o.length ≤ 8796093022208) :
    ∀ (y : List UInt8) (b : Bool), (o.take k).contains y = b → ∀ (w2 : World), Below w.heap.size w w2 → Calls Try.prog 20 #[.slice (some ⟨g, off, none⟩) k cap, .string ⟨y.toArray⟩] w2 fun e w' => e = .returned (.bool b) ∧ w' = w2 := by
  intro y b hb w2 hw2
  have hlk : (o.take k).length = k := by rw [List.length_take]; omega
  have := among_any (o.take k) (by omega) y (some ⟨g, off, none⟩) cap w2 (by rw [hlk]; exact (StrsAt.take hg hc hk).below hw2 (Nat.le_refl _))
  rw [hlk, hb] at this
  exact this

theorem drop_rev {T : List Ne} {j : Nat} (hj : j < T.length) : T.drop j = T.getD j ne0 :: T.drop (j + 1) := by
  rw [List.drop_eq_getElem_cons hj, List.getD, List.getElem?_eq_getElem hj]; rfl

theorem addI_rev {w : World} {p b : Nat} {F : Nat → Prop} {T : List Ne} {D : DataW Value} (h : SH w p b F (T.map Ne.n) D) {j : Nat} (hj : j < T.length) : addI ((T.drop (j + 1)).reverse.map Ne.n) (T.getD j ne0).n = 0 := by
  have hm : (T.getD j ne0).n ∈ T.map Ne.n := List.mem_map_of_mem (mem_getD1 hj)
  have hr := (h.inn _ hm).2.1
  have hl : T.length ≤ 64 := by have := h.few; simpa using this
  have hn : ((T.drop j).map fun e => e.n.name).Nodup := by
    have h1 := h.nodup
    rw [List.map_map] at h1
    have h2 : ((T.drop j).map fun e => e.n.name) = (T.map (Nt.name ∘ Ne.n)).drop j := by rw [List.map_drop]; rfl
    rw [h2]
    exact h1.sublist (List.drop_sublist _ _)
  rw [drop_rev hj, List.map_cons, List.nodup_cons] at hn
  have hc : (((T.drop (j + 1)).reverse.map Ne.n).map Nt.name).contains (T.getD j ne0).n.name = false := by
    cases hcc : (((T.drop (j + 1)).reverse.map Ne.n).map Nt.name).contains (T.getD j ne0).n.name with
    | false => rfl
    | true =>
      have := List.contains_iff_mem.1 hcc
      rw [List.map_map] at this
      obtain ⟨e, he, hen⟩ := List.mem_map.1 this
      exact absurd (List.mem_map.2 ⟨e, List.mem_reverse.1 he, hen⟩) hn.1
  have hlen : ((T.drop (j + 1)).reverse.map Ne.n).length < 64 := by simp; omega
  unfold addI
  rw [hr, hc, if_neg (by simp), if_neg (by simp), if_neg (by omega)]

end Go.Proofs.Ytnjjpahpaeblfab
