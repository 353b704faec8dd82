/- Bytes that are copied into a row, and rows that are made. -/
import Derived.Test.YtnldpofljeodiaaUtl
import Derived.Deep.MidRow
namespace Go.Proofs.Ytnldpofljeodiaa
open Go.RowKit
set_option linter.unusedVariables false

theorem But.row {g : Nat} {a b : World} (h : But g a b) (C : Array Value) : But g a (b.setRow g C) := ⟨below_setRow h.bel (Nat.le_refl _) C, fun i hi hn => (setRow_other b g i C hn).trans (h.rest i hi hn)⟩
theorem But.size {g : Nat} {a b : World} (h : But g a b) : a.heap.size ≤ b.heap.size := h.bel.size
theorem RowZ.but {w w' : World} {g b n : Nat} {kd : IntKind} {ty : TypeId} {f : Nat → Int} (h : RowZ w b kd n ty f) (hb : But g w w') (hn : b ≠ g) : RowZ w' b kd n ty f := (hb.rest b h.lt hn).trans h
/-- copy into a row that is known whole: all but that block stays. -/
theorem wpList_copy_but {P : Program} {w : World} {ops : Array Oper} {rest : List Oper} {o : Oper} {a : Act} {Q : Exit → Act → World → Prop} (hgd : o.guard = none) (d s : Operand) (dT sT : TypeId)
    (ho : o.op = .call { callee := .builtin .copy, args := #[d, s], argTypes := #[dT, sT] }) (elem : TypeId) (hu : P.underlying dT = some (.slice elem)) (hsz : (P.info? elem).map (·.size) = some 1)
    (dp sp : Option Addr) (dLen dCap sLen sCap : Nat) (hd : a.eval d = .slice dp dLen dCap) (hs : a.eval s = .slice sp sLen sCap)
    (g off : Nat) (cur : List Value) (t : TypeId) (hg : w.heap[g]? = some (.cells cur.toArray t (0, 0))) (cs : List Value) (hn : cs.length = Nat.min sLen dLen)
    (hpos : 0 < cs.length → dp = some ⟨g, off, none⟩ ∧ ∃ sg so, sp = some ⟨sg, so, none⟩ ∧ w.rangeAt sg so cs)
    (hfit : off + cs.length ≤ cur.length) (h1 : ∀ v ∈ cs, v.oneCell' = true)
    (h : ∀ w', Hid (w'.heap[g]? = some (.cells (splice cur off cs).toArray t (0, 0))) → But g w w' → wpList P ops Q rest (a.put o.dst (goInt cs.length)) w') :
    wpList P ops Q (o :: rest) a w := by
  by_cases h0 : cs.length = 0
  · obtain rfl : cs = [] := List.eq_nil_of_length_eq_zero h0
    refine wpList_copy_nothing hgd d s dT sT ho elem hu hsz dp sp dLen dCap sLen sCap hd hs (by simpa using hn.symm) ?_
    exact h w (show _ = _ by simpa [splice] using hg) (But.refl _ _)
  · obtain ⟨rfl, sg, so, rfl, hsrc⟩ := hpos (by omega)
    refine wpList_copy_own hgd d s dT sT ho elem hu hsz g off dLen dCap ⟨sg, so, none⟩ sLen sCap hd hs cur.toArray t hg cs hn (fun j v hv => by rw [Addr.add_mid]; exact hsrc j v hv) (by simpa using hfit) h1 ?_
    exact h _ (show _ = _ by simpa [splice] using setRow_heap w g _ _ t _ hg) ((But.refl _ _).row _)
def lZ (kd : IntKind) (n : Nat) (f : Nat → Int) : List Value := (List.range n).map fun i => Value.int kd (f i)
theorem lZ_len (kd : IntKind) (n : Nat) (f : Nat → Int) : (lZ kd n f).length = n := by simp [lZ]
theorem lZ_get (kd : IntKind) (n : Nat) (f : Nat → Int) {j : Nat} (h : j < n) : (lZ kd n f)[j]? = some (.int kd (f j)) := by simp [lZ, h]
theorem lZ_one (kd : IntKind) (n : Nat) (f : Nat → Int) : ∀ v ∈ lZ kd n f, v.oneCell' = true := by
  intro v hv
  unfold lZ at hv
  rw [List.mem_map] at hv
  obtain ⟨i, _, rfl⟩ := hv
  rfl
theorem lZ_range {w : World} {kd : IntKind} {g o n : Nat} {f : Nat → Int} (h : ∀ j, j < n → w.cell? ⟨g, o + j, none⟩ = some (.int kd (f j))) : w.rangeAt g o (lZ kd n f) := fun j v hv => by
  by_cases hj : j < n
  · rw [lZ_get kd n f hj] at hv
    cases hv
    exact h j hj
  · rw [List.getElem?_eq_none (by rw [lZ_len]; omega)] at hv
    cases hv
theorem splice_lZ (kd : IntKind) {n off m : Nat} (f h : Nat → Int) (hle : off + m ≤ n) : splice (lZ kd n f) off (lZ kd m h) = lZ kd n fun i => if off ≤ i ∧ i < off + m then h (i - off) else f i := by
  apply List.ext_getElem?
  intro i
  unfold splice
  by_cases hi : i < n
  · rw [lZ_get kd n _ hi]
    by_cases h1 : i < off
    · rw [List.getElem?_append_left (by rw [List.length_take, lZ_len]; omega), List.getElem?_take_of_lt h1, lZ_get kd n f hi, if_neg (by omega)]
    · rw [List.getElem?_append_right (by rw [List.length_take, lZ_len]; omega), List.length_take, lZ_len kd n f, Nat.min_eq_left (show off ≤ n by omega)]
      by_cases h2 : i < off + m
      · rw [List.getElem?_append_left (by rw [lZ_len]; omega), lZ_get kd m h (j := i - off) (by omega), if_pos ⟨by omega, h2⟩]
      · rw [List.getElem?_append_right (by rw [lZ_len]; omega), lZ_len, List.getElem?_drop, show off + m + (i - off - m) = i by omega, lZ_get kd n f hi, if_neg (by omega)]
  · have e1 : (lZ kd n fun i => if off ≤ i ∧ i < off + m then h (i - off) else f i)[i]? = none := List.getElem?_eq_none (by rw [lZ_len]; omega)
    rw [e1]
    exact List.getElem?_eq_none (by simp only [List.length_append, List.length_take, List.length_drop, lZ_len]; omega)
/-- The same, of rows of numbers. -/
theorem wpList_copy_Z {P : Program} {w : World} {ops : Array Oper} {rest : List Oper} {o : Oper} {a : Act} {Q : Exit → Act → World → Prop} (hgd : o.guard = none) (d s : Operand) (dT sT : TypeId)
    (ho : o.op = .call { callee := .builtin .copy, args := #[d, s], argTypes := #[dT, sT] }) (elem : TypeId) (hu : P.underlying dT = some (.slice elem)) (hsz : (P.info? elem).map (·.size) = some 1)
    (dp sp : Option Addr) (dLen dCap sLen sCap : Nat) (hd : a.eval d = .slice dp dLen dCap) (hs : a.eval s = .slice sp sLen sCap)
    (kd : IntKind) (g off n m : Nat) (f h : Nat → Int) (t : TypeId) (hg : RowZ w g kd n t f) (hn : m = Nat.min sLen dLen)
    (hpos : 0 < m → dp = some ⟨g, off, none⟩ ∧ ∃ sg so, sp = some ⟨sg, so, none⟩ ∧ ∀ j, j < m → w.cell? ⟨sg, so + j, none⟩ = some (.int kd (h j)))
    (hfit : off + m ≤ n)
    (hK : ∀ w', Hid (RowZ w' g kd n t fun i => if off ≤ i ∧ i < off + m then h (i - off) else f i) → But g w w' → wpList P ops Q rest (a.put o.dst (goInt m)) w') :
    wpList P ops Q (o :: rest) a w := by
  refine wpList_copy_but hgd d s dT sT ho elem hu hsz dp sp dLen dCap sLen sCap hd hs g off (lZ kd n f) t hg (lZ kd m h) (by rw [lZ_len]; exact hn) (fun h0 => ?_) (by rw [lZ_len, lZ_len]; exact hfit) (lZ_one _ _ _) fun w' hg' hb => ?_
  · rw [lZ_len] at h0
    obtain ⟨h1, sg, so, h2, h3⟩ := hpos h0
    exact ⟨h1, sg, so, h2, lZ_range h3⟩
  · rw [lZ_len]
    refine hK w' ?_ hb
    have := hg'.out
    rw [splice_lZ kd f h hfit] at this
    exact this
/-- Bytes that are made. -/
theorem wpList_makeB (w : World) {ops : Array Oper} {rest : List Oper} {o : Oper} {a : Act} {Q : Exit → Act → World → Prop}
    (hg : o.guard = none) (l c : Operand) (hop : o.op = Op.makeSlice 22 l c) (kl kc : IntKind) (L C : Int) (n : Nat) (hl : a.eval l = .int kl L) (hc : a.eval c = .int kc C) (hL : L = (n : Int)) (hC : C = (n : Int)) (hn : n ≤ 281474976710656)
    (hK : ∀ w', Hid (RowZ w' w.heap.size .u8 n 5 (fun _ => 0)) → Below w.heap.size w w' → wpList Try.prog ops Q rest (a.put o.dst (.slice (some ⟨w.heap.size, 0, none⟩) n n)) w') :
    wpList Try.prog ops Q (o :: rest) a w := by
  obtain ⟨i0, hi, hz0, hz1, hz2⟩ := info_parts Try.info5
  refine wpList_make_full w hg l c 22 hop w.heap.size 5 i0 (.int .u8 0) 1 Try.underlying22 hi hz0 hz1 kl kc L C n hl hc hL hC (by rw [hz2]; omega) (by unfold maxLen; omega) (Nat.le_refl _) fun w' hown hgr => ?_
  refine hK w' ?_ ((Below.refl w.heap.size w).grown hgr (Nat.le_refl _) (fun k hk => by cases hk))
  have hr := row_full hown
  rw [Nat.mul_one, show Value.cells (.int .u8 0) = #[.int .u8 0] from rfl, toList_madeCells_one] at hr
  show _ = _
  rw [hr]
  unfold rowZ
  rw [List.map_const', List.length_range]
theorem rowZ_at {w : World} {g n : Nat} {f : Nat → UInt8} (h : RowZ w g .u8 n 5 (fun i => ((f i).toNat : Int))) : RowAt w g ((List.range n).map f) := by
  unfold RowAt
  rw [h]
  unfold rowZ
  rw [List.map_map]
  rfl
theorem rowZ_own {w : World} {base g n : Nat} {f : Nat → UInt8} (hb : base ≤ g) (h : RowZ w g .u8 n 5 (fun i => ((f i).toNat : Int))) (hn : n ≤ maxLen) : w.ownsRow base 5 1 (.slice (some ⟨g, 0, none⟩) n n) n (((List.range n).map f).map encB) := full_row hb (by simp) hn (rowZ_at h)
/-- A slice's cells, from its first one on. -/
theorem ByAt.src {w : World} {a : Option Addr} {cap : Nat} {bs : List UInt8} (h : ByAt w (.slice a bs.length cap) bs) (h0 : 0 < bs.length) : ∃ g o, a = some ⟨g, o, none⟩ ∧ g < w.heap.size ∧ ∀ j, j < bs.length → w.cell? ⟨g, o + j, none⟩ = some (.int .u8 ((bs.getD j 0).toNat : Int)) := by
  rcases h with ⟨h, _⟩ | ⟨g, off, cap', he, hg, hc⟩
  · rw [h] at h0; simp at h0
  · obtain ⟨rfl, _⟩ : a = some ⟨g, off, none⟩ ∧ True := ⟨by cases he; rfl, trivial⟩
    exact ⟨g, off, rfl, hg, hc⟩
end Go.Proofs.Ytnldpofljeodiaa
