/- The knobs of the program; bytes in memory, rows of one's own, and one block that is written. -/
import Derived.Test.YtpemajghaceegaaGreatDoorChecked
import Derived.Test.YtpemajghaceegaaGreatDoorSeg
import Derived.ProofKit
import Derived.OpenShut
import Derived.ShutString
import Derived.ChangeOld
import Derived.SizedLaws
import Derived.Laws.AppendOwnNone
import Derived.Laws.CopyOwn
import Derived.OwnWalk
import Derived.Deep.QuietTactic
import Derived.Deep.RegionWith
import Derived.Deep.OwnRows
import Derived.Deep.CutRange
import Derived.Laws.Slices
import Derived.Laws.Unary
import Derived.Laws.Pointers
import Derived.Laws.Build
import Derived.Laws.Alloc2
import Derived.Laws.DeepStrings4
import Derived.Laws.ShiftsVarLaws
import Derived.Laws.BitsAllLaws
import Derived.Laws.Strings
import Derived.Laws.IdiomStrings
import Derived.Laws.ResultCell
import Derived.Deep.WholeRow
namespace Go.Proofs.YtpemajghaceegaaGreatDoor
open Go.RowKit
set_option linter.unusedVariables false

theorem hidD {q : Prop} (h : q) : Hid q := h
theorem Tryz.own0 : ownKnob Tryz.prog.godebug = none := by kernel_rfl
theorem Tryz.laid0 : laidOutB Tryz.prog = true := by kernel_rfl
theorem row_lt {w : World} {g : Nat} {o : Obj} (h : w.heap[g]? = some o) : g < w.heap.size := by
  rcases Nat.lt_or_ge g w.heap.size with h' | h'
  · exact h'
  · rw [Array.getElem?_eq_none h'] at h; cases h
theorem row_shape {w : World} {base e size n : Nat} {v : Value} {xs : List Value} (h : w.ownsRow base e size v n xs) : ∃ a cap, v = .slice a n cap := by
  rcases h.2 with ⟨rfl, rfl⟩ | ⟨g, cap, cur, rfl, _⟩
  · exact ⟨none, 0, rfl⟩
  · exact ⟨_, cap, rfl⟩
theorem row_below {B : Nat} {e : TypeId} {k : Nat} {v : Value} {n : Nat} {xs : List Value} {w w' : World} (h : w.ownsRow B e k v n xs) (hb : Below w.heap.size w w') : w'.ownsRow B e k v n xs := by
  refine ⟨h.1, ?_⟩
  rcases h.2 with h0 | ⟨g, cap, cur, hv, hbg, hg, h3, h4, h5, h6⟩
  · exact .inl h0
  · exact .inr ⟨g, cap, cur, hv, hbg, by rw [hb.block g (row_lt hg)]; exact hg, h3, h4, h5, h6⟩
theorem row_grown {w w' a : World} {base e size n : Nat} {v : Value} {xs : List Value} (h : w.ownsRow base e size v n xs) (hb : Below base a w) (hg : w.grownBy w' v.ownBlock) (hB : base ≤ w.heap.size) : Below base a w' :=
  hb.grown hg hB fun k hk => by
    rcases h.2 with ⟨rfl, _⟩ | ⟨g, cap, cur, rfl, hbg, _⟩
    · simp [Value.ownBlock] at hk
    · simp [Value.ownBlock] at hk; omega
theorem below_drewN {B : Nat} {a w : World} (h : Below B a w) (n : Nat) : Below B a (w.drewN n) := h.trans ⟨rfl, rfl, rfl, Nat.le_refl _, fun _ _ => rfl⟩
theorem Below.next {a w w' : World} (h : Below a.heap.size a w) (hb : Below w.heap.size w w') : Below a.heap.size a w' := h.trans (hb.mono h.size)
theorem new_cell1 (w : World) (u : Value) (t : TypeId) : ∀ j v, [u][j]? = some v → (w.alloc (.cells #[u] t)).cell? ((⟨w.heap.size, 0, none⟩ : Addr).add j) = some v := fun j v h => by
  rw [Go.WideShapes.add_plain, World.cell?_alloc_new]
  cases j with
  | zero => simpa using h
  | succ j => simp at h
/-- All that was there is as it was, but for one block. -/
structure But (g : Nat) (w w' : World) : Prop where
  bel : Below g w w'
  rest : ∀ b, b < w.heap.size → b ≠ g → w'.heap[b]? = w.heap[b]?
theorem But.refl (g : Nat) (w : World) : But g w w := ⟨Below.refl _ _, fun _ _ _ => rfl⟩
theorem But.trans {g : Nat} {a b c : World} (h : But g a b) (k : But g b c) : But g a c := ⟨h.bel.trans k.bel, fun i hi hn => (k.rest i (Nat.lt_of_lt_of_le hi h.bel.size) hn).trans (h.rest i hi hn)⟩
theorem But.of {g : Nat} {a b : World} (h : Below a.heap.size a b) (hg : g ≤ a.heap.size) : But g a b := ⟨h.mono hg, fun i hi _ => h.block i hi⟩
theorem But.put {g : Nat} {a b : World} (h : But g a b) (k : Nat) (u : Value) : But g a (b.setCell ⟨g, k, none⟩ u) :=
  ⟨h.bel.setCell (p := ⟨g, k, none⟩) (Nat.le_refl _) u, fun i hi hn => (heap_setCell_other b ⟨g, k, none⟩ i u hn).trans (h.rest i hi hn)⟩
theorem But.cell {g : Nat} {a b : World} (h : But g a b) {i o : Nat} (hi : i < a.heap.size) (hn : i ≠ g) : b.cell? ⟨i, o, none⟩ = a.cell? ⟨i, o, none⟩ := by
  simp only [World.cell?, h.rest i hi hn]
theorem But.next {g : Nat} {a b c : World} (h : But g a b) (k : Below b.heap.size b c) (hg : g ≤ a.heap.size) : But g a c := h.trans (But.of k (Nat.le_trans hg h.bel.size))

theorem row_shapeC {w : World} {base e size n : Nat} {v : Value} {xs : List Value} (h : w.ownsRow base e size v n xs) (hn : 0 < n) : ∃ g cap, v = .slice (some ⟨g, 0, none⟩) n cap ∧ base ≤ g ∧ g < w.heap.size ∧ n ≤ cap := by
  rcases h.2 with ⟨rfl, rfl⟩ | ⟨g, cap, cur, rfl, hb, hg, hc, _⟩
  · omega
  · exact ⟨g, cap, rfl, hb, row_lt hg, hc⟩
theorem row_mono {w : World} {base base' e size n : Nat} {v : Value} {xs : List Value} (h : w.ownsRow base e size v n xs) (hb : base' ≤ base) : w.ownsRow base' e size v n xs := by
  refine ⟨h.1, ?_⟩
  rcases h.2 with h | ⟨g, cap, cur, h1, h2, h3⟩
  · exact .inl h
  · exact .inr ⟨g, cap, cur, h1, by omega, h3⟩
def encB (b : UInt8) : Value := .int .u8 (b.toNat : Int)
/-- A slice value reads as these bytes. -/
def ByAt (w : World) (sl : Value) (bs : List UInt8) : Prop := ∃ a cap, sl = .slice a bs.length cap ∧ bs.length ≤ cap ∧ cap ≤ 9223372036854775807 ∧ (a = none → cap = 0) ∧
  ∀ k, k < bs.length → ∃ g o, a = some ⟨g, o, none⟩ ∧ g < w.heap.size ∧ w.cell? ⟨g, o + k, none⟩ = some (.int .u8 ((bs.getD k 0).toNat : Int))
theorem ByAt.next {w w' : World} {v : Value} {l : List UInt8} (h : ByAt w v l) (hb : Below w.heap.size w w') : ByAt w' v l := by
  obtain ⟨a, cap, h1, h2, h3, h5, h4⟩ := h
  refine ⟨a, cap, h1, h2, h3, h5, fun k hk => ?_⟩
  obtain ⟨g, o, e1, e2, e3⟩ := h4 k hk
  exact ⟨g, o, e1, Nat.lt_of_lt_of_le e2 hb.size, (hb.cell (p := ⟨g, o + k, none⟩) e2).trans e3⟩
theorem ByAt.nil (w : World) : ByAt w (.slice none 0 0) [] := ⟨none, 0, rfl, Nat.le_refl _, by omega, fun _ => rfl, fun k hk => absurd hk (by simp)⟩
theorem Tryz.info5 : (Tryz.prog.info? 5).map (fun i => (i.zero, i.size, i.bytes)) = some (some (.int .u8 0), 1, 1) := by kernel_rfl
theorem Tryz.underBy : Tryz.prog.underlying 34 = some (.slice 5) := by kernel_rfl
theorem bytes_oneCell (bs : List UInt8) : ∀ u ∈ bs.map encB, u.oneCell' = true := by
  intro u hu
  obtain ⟨x, _, rfl⟩ := List.mem_map.1 hu
  rfl
theorem by_of_own {w : World} {base : Nat} {v : Value} {l : List UInt8} {e : TypeId} (h : w.ownsRow base e 1 v l.length (l.map encB)) : ByAt w v l := by
  rcases h.2 with ⟨rfl, h0⟩ | ⟨g, cap, cur, rfl, hb, hg, hnc, hcm, _⟩
  · exact ⟨none, 0, by rw [h0], by omega, by omega, fun _ => rfl, fun k hk => absurd hk (by omega)⟩
  · refine ⟨_, cap, rfl, hnc, by unfold maxLen at hcm; omega, fun h => by simp at h, fun k hk => ⟨g, 0, rfl, row_lt hg, ?_⟩⟩
    have := h.cells (g := g) rfl k (encB (l.getD k 0)) (by rw [List.getElem?_map, List.getElem?_eq_getElem hk, List.getD_eq_getElem?_getD, List.getElem?_eq_getElem hk]; rfl)
    rwa [show (⟨g, 0, none⟩ : Addr).add k = ⟨g, 0 + k, none⟩ from Addr.add_lit ..] at this
/-- Bytes that are put behind a row of one's own. -/
theorem wpList_append_by {ops : Array Oper} {rest : List Oper} {o : Oper} {a : Act} {Q : Exit → Act → World → Prop} {w : World} (hgd : o.guard = none) (s x : Operand)
    (ho : o.op = .call { callee := .builtin .append, args := #[s, x], argTypes := #[34, 34] }) (base : Nat) (v : Value) (n : Nat) (xs : List Value)
    (hs : a.eval s = v) (hown : w.ownsRow base 5 1 v n xs) (sl : Value) (bs : List UInt8) (hx : a.eval x = sl) (hsrc : ByAt w sl bs) (hl : n + bs.length ≤ 140737488355328) (hbase : base ≤ w.heap.size)
    (h : ∀ v' w', w'.ownsRow base 5 1 v' (n + bs.length) (xs ++ bs.map encB) → w.grownBy w' v.ownBlock → wpList Tryz.prog ops Q rest (a.put o.dst v') w') : wpList Tryz.prog ops Q (o :: rest) a w := by
  obtain ⟨i0, hi, hz0, hz1, hz2⟩ := info_parts Tryz.info5
  obtain ⟨ad, cap, rfl, h1, h2, hcap, hc⟩ := hsrc
  cases ad with
  | none =>
    have h0 : bs = [] := by
      cases bs with
      | nil => rfl
      | cons y t => obtain ⟨g, o, e, _⟩ := hc 0 (by simp); cases e
    subst h0
    refine wpList_append_own_none hgd s x 34 ho base 5 i0 1 Tryz.underBy hi v n xs hs hown (by rw [hx, hcap rfl]; rfl) ?_
    exact h v w (by simpa using hown) ⟨rfl, rfl, rfl, Nat.le_refl _, fun _ _ _ => rfl⟩
  | some ad =>
    refine wpList_append_own w hgd s x 34 ho base 5 i0 (.int .u8 0) 1 1 Tryz.underBy hi hz0 hz1 hz2 rfl (by decide) v n xs hs hown ad bs.length cap (bs.map encB) hx (by simp) (fun j u hu => ?_) (bytes_oneCell bs) (by unfold maxLen; omega) (by omega) hbase ?_
    · rw [List.getElem?_map] at hu
      cases hj : bs[j]? with
      | none => rw [hj] at hu; cases hu
      | some y =>
        rw [hj] at hu
        have hlt := (List.getElem?_eq_some_iff.1 hj).1
        obtain ⟨g, o, e, hg, hcc⟩ := hc j hlt
        cases e
        rw [Go.WideShapes.add_plain, hcc, List.getD_eq_getElem?_getD, hj]
        exact hu
    · intro v' w' h1 h2 _
      exact h v' w' h1 h2
theorem by_one (w : World) (b : UInt8) : ByAt (w.alloc (.cells #[.int .u8 (b.toNat : Int)] (5 : TypeId))) (.slice (some ⟨w.heap.size, 0, none⟩) 1 1) [b] :=
  ⟨_, 1, rfl, by simp, by omega, fun h => by simp at h, fun k hk => ⟨w.heap.size, 0, rfl, row_lt (heap_alloc_last _ _), by
    have : k = 0 := by simpa using hk
    subst this
    rw [World.cell?_alloc_new]; rfl⟩⟩
theorem full_row {w : World} {base e g n : Nat} {xs : List Value} (hb : base ≤ g) (hl : xs.length = n) (hm : n ≤ maxLen) (h : w.heap[g]? = some (.cells xs.toArray e (0, 0))) : w.ownsRow base e 1 (.slice (some ⟨g, 0, none⟩) n n) n xs :=
  ⟨by omega, .inr ⟨g, n, xs.toArray, rfl, hb, h, Nat.le_refl _, hm, by simp [hl], by rw [Nat.mul_one, ← hl]; simp⟩⟩
/- a text of these bytes -/
def bA (l : List UInt8) : ByteArray := ⟨l.toArray⟩
theorem ba_size (l : List UInt8) : (bA l).size = l.length := by simp [bA, ByteArray.size]
theorem ba_get (l : List UInt8) (k : Nat) (h : k < (bA l).size) : (bA l)[k] = l.getD k 0 := by
  have hk : k < l.length := by rw [ba_size] at h; exact h
  show l.toArray[k]'(by simpa using hk) = l.getD k 0
  rw [List.getElem_toArray, List.getD_eq_getElem?_getD, List.getElem?_eq_getElem hk]; rfl
theorem ba_list (l : List UInt8) : (bA l).toList = l := by rw [ByteArray.toList_eq]; rfl
theorem ba_inj {l m : List UInt8} : bA l = bA m ↔ l = m := ⟨fun h => by rw [← ba_list l, h, ba_list], fun h => by rw [h]⟩
end Go.Proofs.YtpemajghaceegaaGreatDoor
