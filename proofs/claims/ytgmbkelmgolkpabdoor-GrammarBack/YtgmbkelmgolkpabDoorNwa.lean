/- A whole grammar in memory; what New needs. -/
import Derived.Test.YtgmbkelmgolkpabDoorGd
import Derived.Test.YtgmbkelmgolkpabDoorGmi
import Derived.Deep.MidRow
namespace Go.Proofs.YtgmbkelmgolkpabDoor
open Go.RowKit Go.Maps
set_option linter.unusedVariables false

theorem nu_lt (A : List Tx) (t : Nat) : ∀ k x c, nuTo A t k x = some c → 0 ≤ c ∧ c < (k : Int)
  | 0, x, c, h => by cases h
  | k + 1, x, c, h => by
    rw [nuTo] at h
    split at h
    · have := nu_lt A t k x c h; omega
    · simp only at h
      split at h
      · cases h; omega
      · have := nu_lt A t k x c h; omega
theorem va_nn (T O : List Tx) (x : Tx) : 0 ≤ vaF (nuF T O) x := by
  unfold vaF
  cases h : nuF T O x with
  | none => exact Int.le_refl _
  | some c => exact (nu_lt _ _ _ _ _ h).1
theorem va_le (T O : List Tx) (x : Tx) : vaF (nuF T O) x ≤ ((allN T O).length : Int) := by
  unfold vaF
  cases h : nuF T O x with
  | none => exact Int.natCast_nonneg _
  | some c => exact Int.le_of_lt (nu_lt _ _ _ _ _ h).2
theorem va_lt {T O : List Tx} {x : Tx} (h : 0 < vaF (nuF T O) x) : vaF (nuF T O) x < ((allN T O).length : Int) := by
  unfold vaF at *
  cases h1 : nuF T O x with
  | none => rw [h1] at h; exact absurd h (by decide)
  | some c => exact (nu_lt _ _ _ _ _ h1).2
theorem va_some {T O : List Tx} {x : Tx} (h : (nuF T O x).isSome = true) : vaF (nuF T O) x < ((allN T O).length : Int) := by
  unfold vaF
  cases h1 : nuF T O x with
  | none => rw [h1] at h; cases h
  | some c => exact (nu_lt _ _ _ _ _ h1).2
theorem ru_ok {T O : List Tx} {L : List (List Tx)} (h : L.all (roF (nuF T O) T.length) = true) (hl : ∀ r ∈ L, r.length ≤ 1048576) : RuOk (L.map (rnF (nuF T O))) (allN T O).length := by
  intro k hk
  rw [List.length_map] at hk
  have hg : (L.map (rnF (nuF T O))).getD k (0, []) = rnF (nuF T O) (L.getD k []) := by
    rw [List.getD_eq_getElem?_getD, List.getElem?_map, List.getElem?_eq_getElem hk, List.getD_eq_getElem?_getD, List.getElem?_eq_getElem hk]; rfl
  have hm : L.getD k [] ∈ L := by rw [List.getD_eq_getElem?_getD, List.getElem?_eq_getElem hk]; exact List.getElem_mem hk
  rw [hg]
  have hr := (List.all_eq_true.1 h) _ hm
  have hrl := hl _ hm
  generalize L.getD k [] = r at *
  simp only [roF, Bool.and_eq_true, decide_eq_true_eq] at hr
  obtain ⟨⟨h1, h2⟩, h3⟩ := hr
  have h0 := va_nn T O (r.getD 0 [])
  have h4 : 0 < vaF (nuF T O) (r.getD 0 []) := by omega
  have h5 := va_lt h4
  refine ⟨?_, ?_, fun j hj => ?_⟩
  · show (vaF (nuF T O) (r.getD 0 [])).toNat < _; omega
  · show ((r.drop 1).map (vaF (nuF T O))).length ≤ _; rw [List.length_map, List.length_drop]; omega
  · have hj' : j < (r.drop 1).length := by have : j < ((r.drop 1).map (vaF (nuF T O))).length := hj
                                           rwa [List.length_map] at this
    have he : (rnF (nuF T O) r).2.getD j 0 = vaF (nuF T O) ((r.drop 1).getD j []) := by
      show ((r.drop 1).map (vaF (nuF T O))).getD j 0 = _
      rw [List.getD_eq_getElem?_getD, List.getElem?_map, List.getElem?_eq_getElem hj', List.getD_eq_getElem?_getD, List.getElem?_eq_getElem hj']; rfl
    have hs := (List.all_eq_true.1 h3) ((r.drop 1).getD j []) (by rw [List.getD_eq_getElem?_getD, List.getElem?_eq_getElem hj']; exact List.getElem_mem hj')
    have h6 := va_some hs
    have h7 := va_nn T O ((r.drop 1).getD j [])
    exact ⟨(vaF (nuF T O) ((r.drop 1).getD j [])).toNat, by rw [he]; omega, by omega⟩
/-- Cells that are laid one behind the other. -/
def putC (cs : Array Value) : Nat → List Value → Array Value
  | _, [] => cs
  | o, v :: r => putC (cs.setIfInBounds o v) (o + 1) r
theorem putC_size : ∀ (vs : List Value) (cs : Array Value) (o : Nat), (putC cs o vs).size = cs.size
  | [], _, _ => rfl
  | v :: r, cs, o => by rw [putC, putC_size r]; simp
theorem putC_out : ∀ (vs : List Value) (cs : Array Value) (o i : Nat), (i < o ∨ o + vs.length ≤ i) → (putC cs o vs)[i]? = cs[i]?
  | [], _, _, _, _ => rfl
  | v :: r, cs, o, i, h => by
    rw [List.length_cons] at h
    rw [putC, putC_out r _ _ _ (by omega), Array.getElem?_setIfInBounds, if_neg (by omega)]
theorem putC_in : ∀ (vs : List Value) (cs : Array Value) (o i : Nat), i < vs.length → o + vs.length ≤ cs.size → (putC cs o vs)[o + i]? = vs[i]?
  | [], _, _, _, h, _ => by cases h
  | v :: r, cs, o, i, h, hs => by
    rw [List.length_cons] at h hs
    rw [putC]
    cases i with
    | zero => rw [putC_out r _ _ _ (by omega), Array.getElem?_setIfInBounds, if_pos (Nat.add_zero o).symm, if_pos (by omega)]; rfl
    | succ i => rw [show o + (i + 1) = o + 1 + i by omega, putC_in r _ _ _ (by omega) (by simp; omega)]; rfl
theorem CsAt.puts {g : Nat} {t : TypeId} : ∀ (vs : List Value) {w : World} {cs : Array Value} (o : Nat), CsAt w g cs t → CsAt (w.setCells g o vs) g (putC cs o vs) t
  | [], w, cs, o, h => h
  | v :: r, w, cs, o, h => CsAt.puts r (o + 1) (h.put o v)
theorem But.puts {g : Nat} : ∀ (vs : List Value) {a w : World} (o : Nat), But g a w → But g a (w.setCells g o vs)
  | [], a, w, o, h => h
  | v :: r, a, w, o, h => But.puts r (o + 1) (h.put o v)
theorem CsAt.there {w : World} {g : Nat} {cs : Array Value} {t : TypeId} (h : CsAt w g cs t) {o n : Nat} (hn : o + n ≤ cs.size) : w.there g o n := fun j hj => ⟨by rw [h.cell, Array.getElem?_eq_getElem (by omega)]; rfl, h.frz _⟩
theorem put_set {cs : Array Value} {o : Nat} {S : Nat → Nat} (hs : o + 256 ≤ cs.size) (hS : ∀ x, S x < Top) {x : Nat} (hx : x < 128) : SetIn (putC cs o (ssC S).toList) (o + x * 2) (S x) := by
  have hl : (ssC S).toList.length = 256 := by rw [Array.length_toList, ss_size]
  refine ⟨hS x, ?_, ?_⟩
  · rw [putC_in _ _ _ _ (by omega) (by omega), Array.getElem?_toList, ss_get S (by omega), wS_even]
  · rw [show o + x * 2 + 1 = o + (x * 2 + 1) by omega, putC_in _ _ _ _ (by omega) (by omega), Array.getElem?_toList, ss_get S (by omega), wS_odd]
theorem SetIn.puts {cs : Array Value} {o q M : Nat} {vs : List Value} (h : SetIn cs q M) (ho : q + 1 < o ∨ o + vs.length ≤ q) : SetIn (putC cs o vs) q M := ⟨h.top, by rw [putC_out _ _ _ _ (by omega)]; exact h.c0, by rw [putC_out _ _ _ _ (by omega)]; exact h.c1⟩
/-- A grammar that is begun. -/
def g68 (v0 v1 v2 v3 v4 : Value) : Array Value := ((List.range 519).map fun i => if i = 0 then v0 else if i = 1 then v1 else if i = 2 then v2 else if i = 3 then v3 else if i = 4 then v4 else Value.int .u64 0).toArray
theorem g68_size (v0 v1 v2 v3 v4 : Value) : (g68 v0 v1 v2 v3 v4).size = 519 := by simp [g68]
theorem g68_get (v0 v1 v2 v3 v4 : Value) {i : Nat} (h : i < 519) : (g68 v0 v1 v2 v3 v4)[i]? = some (if i = 0 then v0 else if i = 1 then v1 else if i = 2 then v2 else if i = 3 then v3 else if i = 4 then v4 else Value.int .u64 0) := by
  unfold g68
  rw [List.getElem?_toArray, List.getElem?_map, List.getElem?_range h]; rfl
theorem build68 (a0 a4 : Option Addr) (n0 c0 n4 c4 b : Nat) (t s : Int) (w : World) : (Instr.build 68 #[(0, .slice a0 n0 c0), (1, .map (some b)), (2, .int .i64 t), (3, .int .i64 s), (4, .slice a4 n4 c4)]).run Tryd.prog w = .ok (.agg (g68 (.slice a0 n0 c0) (.map (some b)) (.int .i64 t) (.int .i64 s) (.slice a4 n4 c4))) w := by kernel_rfl
theorem wpList_build5 {P : Program} {ops : Array Oper} {rest : List Oper} {op : Oper} {a : Act} {w : World} {Q : Exit → Act → World → Prop} (hgd : op.guard = none) (ty : TypeId) (i0 i1 i2 i3 i4 : Nat) (x0 x1 x2 x3 x4 : Operand) (ho : op.op = .build ty #[(i0, x0), (i1, x1), (i2, x2), (i3, x3), (i4, x4)]) (v0 v1 v2 v3 v4 v : Value) (h0 : a.eval x0 = v0) (h1 : a.eval x1 = v1) (h2 : a.eval x2 = v2) (h3 : a.eval x3 = v3) (h4 : a.eval x4 = v4) (h : (Instr.build ty #[(i0, v0), (i1, v1), (i2, v2), (i3, v3), (i4, v4)]).run P w = .ok v w) (hk : wpList P ops Q rest (a.put op.dst v) w) : wpList P ops Q (op :: rest) a w :=
  wpList_plain hgd fun _ hK => by
    unfold Oper.wp execOp
    simp only [ho, List.map_toArray, List.map_cons, List.map_nil, h0, h1, h2, h3, h4, Sem.run_bind, h, Result.andThen_ok]
    exact hK _ _ hk
/-- The number of a name, the end's among them. -/
def nuE (T O : List Tx) : Tx → Option Int := fun x => if x = tEnd then some (T.length : Int) else nuF T O x
/-- A grammar lies in block p. -/
structure GfAt (w : World) (p : Nat) (T O : List Tx) (st : Nat) (R : List (Nat × List Int)) (nul : Nat) (bg fo : Nat → Nat) : Prop where
  cs : ∃ cs : Array Value, CsAt w p cs 68 ∧ (∃ v B, cs[0]? = some v ∧ SrAt w B v (allN T O)) ∧ (∃ b n, cs[1]? = some (.map (some b)) ∧ MpAt w b n (nuE T O)) ∧ cs[2]? = some (.int .i64 ((T.length : Int) + 1)) ∧ cs[3]? = some (.int .i64 (st : Int)) ∧ (∃ v, cs[4]? = some v ∧ RuAt w v R) ∧ SetIn cs 5 nul ∧ (∀ x, x < 128 → SetIn cs (7 + x * 2) (bg x)) ∧ ∀ x, x < 128 → SetIn cs (263 + x * 2) (fo x)
  few : (allN T O).length ≤ 128
  ok : RuOk R (allN T O).length
  len : R.length ≤ 128
  one : 1 ≤ R.length
  stl : T.length < st ∧ st < (allN T O).length
  gr : GrIs R 0 nul
  bs : BgIs R nul (T.length + 1) bg
  fs : FoIs R (allN T O).length (T.length + 1) st nul bg fo
  bt : ∀ x, bg x < Top
  ft : ∀ x, fo x < Top
theorem GfAt.next {w w' : World} {p : Nat} {T O : List Tx} {st : Nat} {R : List (Nat × List Int)} {nul : Nat} {bg fo : Nat → Nat} (h : GfAt w p T O st R nul bg fo) (hb : Below w.heap.size w w') : GfAt w' p T O st R nul bg fo := by
  obtain ⟨cs, h1, ⟨v, B, e1, e2⟩, ⟨b, n, e3, e4⟩, h2, h3, ⟨u, e5, e6⟩, h4⟩ := h.cs
  exact { h with cs := ⟨cs, h1.next hb, ⟨v, B, e1, e2.next hb⟩, ⟨b, n, e3, e4.next hb⟩, h2, h3, ⟨u, e5, e6.next hb⟩, h4⟩ }
def gsOf (T O : List Tx) (st nul : Nat) (bg fo : Nat → Nat) : Gs := ⟨(allN T O).length, T.length + 1, st, nul, bg, fo⟩
theorem GfAt.gm {w : World} {p : Nat} {T O : List Tx} {st : Nat} {R : List (Nat × List Int)} {nul : Nat} {bg fo : Nat → Nat} (h : GfAt w p T O st R nul bg fo) : GmAt w p (gsOf T O st nul bg fo) := by
  obtain ⟨cs, h1, ⟨v, B, e1, e2⟩, _, h2, h3, _, h4, h5, h6⟩ := h.cs
  obtain ⟨a, cap, rfl⟩ := e2.shape
  exact ⟨h.few, cs, h1, ⟨a, cap, e1⟩, h2.trans (by simp [gsOf]), h3, h4, h5, h6⟩
end Go.Proofs.YtgmbkelmgolkpabDoor
