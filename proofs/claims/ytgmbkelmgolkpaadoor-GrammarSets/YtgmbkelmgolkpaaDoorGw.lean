/- Texts of one proof, one behind the other. -/
import Derived.Test.YtgmbkelmgolkpaaDoorGd
import Derived.Test.YtgmbkelmgolkpaaDoorGy
import Derived.Deep.MidRow
import Derived.Test.YtgmbkelmgolkpaaDoorGx
/- A whole grammar in memory; what New needs. -/
namespace Go.Proofs.YtgmbkelmgolkpaaDoor
open Go.RowKit Go.Maps
set_option linter.unusedVariables false

theorem nu_lt (A : List Tx) (t : Nat) : ∀ k x c, nuTo A t k x = some c → 0 ≤ c ∧ c < (k : Int)
  | 0, x, c, h => by cases h
  | k + 1, x, c, h => by
    rw [nuTo] at h
    split at h
    · have := nu_lt A t k x c h; omega
    · simp only at h
      split at h
      · cases h; omega
      · have := nu_lt A t k x c h; omega
theorem va_nn (T O : List Tx) (x : Tx) : 0 ≤ vaF (nuF T O) x := by
  unfold vaF
  cases h : nuF T O x with
  | none => exact Int.le_refl _
  | some c => exact (nu_lt _ _ _ _ _ h).1
theorem va_le (T O : List Tx) (x : Tx) : vaF (nuF T O) x ≤ ((allN T O).length : Int) := by
  unfold vaF
  cases h : nuF T O x with
  | none => exact Int.natCast_nonneg _
  | some c => exact Int.le_of_lt (nu_lt _ _ _ _ _ h).2
theorem va_lt {T O : List Tx} {x : Tx} (h : 0 < vaF (nuF T O) x) : vaF (nuF T O) x < ((allN T O).length : Int) := by
  unfold vaF at *
  cases h1 : nuF T O x with
  | none => rw [h1] at h; exact absurd h (by decide)
  | some c => exact (nu_lt _ _ _ _ _ h1).2
theorem va_some {T O : List Tx} {x : Tx} (h : (nuF T O x).isSome = true) : vaF (nuF T O) x < ((allN T O).length : Int) := by
  unfold vaF
  cases h1 : nuF T O x with
  | none => rw [h1] at h; cases h
  | some c => exact (nu_lt _ _ _ _ _ h1).2
theorem ru_ok {T O : List Tx} {L : List (List Tx)} (h : L.all (roF (nuF T O) T.length) = true) (hl : ∀ r ∈ L, r.length ≤ 1048576) : RuOk (L.map (rnF (nuF T O))) (allN T O).length := by
  intro k hk
  rw [List.length_map] at hk
  have hg : (L.map (rnF (nuF T O))).getD k (0, []) = rnF (nuF T O) (L.getD k []) := by
    rw [List.getD_eq_getElem?_getD, List.getElem?_map, List.getElem?_eq_getElem hk, List.getD_eq_getElem?_getD, List.getElem?_eq_getElem hk]; rfl
  have hm : L.getD k [] ∈ L := by rw [List.getD_eq_getElem?_getD, List.getElem?_eq_getElem hk]; exact List.getElem_mem hk
  rw [hg]
  have hr := (List.all_eq_true.1 h) _ hm
  have hrl := hl _ hm
  generalize L.getD k [] = r at *
  simp only [roF, Bool.and_eq_true, decide_eq_true_eq] at hr
  obtain ⟨⟨h1, h2⟩, h3⟩ := hr
  have h0 := va_nn T O (r.getD 0 [])
  have h4 : 0 < vaF (nuF T O) (r.getD 0 []) := by omega
  have h5 := va_lt h4
  refine ⟨?_, ?_, fun j hj => ?_⟩
  · show (vaF (nuF T O) (r.getD 0 [])).toNat < _; omega
  · show ((r.drop 1).map (vaF (nuF T O))).length ≤ _; rw [List.length_map, List.length_drop]; omega
  · have hj' : j < (r.drop 1).length := by have : j < ((r.drop 1).map (vaF (nuF T O))).length := hj
                                           rwa [List.length_map] at this
    have he : (rnF (nuF T O) r).2.getD j 0 = vaF (nuF T O) ((r.drop 1).getD j []) := by
      show ((r.drop 1).map (vaF (nuF T O))).getD j 0 = _
      rw [List.getD_eq_getElem?_getD, List.getElem?_map, List.getElem?_eq_getElem hj', List.getD_eq_getElem?_getD, List.getElem?_eq_getElem hj']; rfl
    have hs := (List.all_eq_true.1 h3) ((r.drop 1).getD j []) (by rw [List.getD_eq_getElem?_getD, List.getElem?_eq_getElem hj']; exact List.getElem_mem hj')
    have h6 := va_some hs
    have h7 := va_nn T O ((r.drop 1).getD j [])
    exact ⟨(vaF (nuF T O) ((r.drop 1).getD j [])).toNat, by rw [he]; omega, by omega⟩
/-- Cells that are laid one behind the other. -/
def putC (cs : Array Value) : Nat → List Value → Array Value
  | _, [] => cs
  | o, v :: r => putC (cs.setIfInBounds o v) (o + 1) r
theorem putC_size : ∀ (vs : List Value) (cs : Array Value) (o : Nat), (putC cs o vs).size = cs.size
  | [], _, _ => rfl
  | v :: r, cs, o => by rw [putC, putC_size r]; simp
theorem putC_out : ∀ (vs : List Value) (cs : Array Value) (o i : Nat), (i < o ∨ o + vs.length ≤ i) → (putC cs o vs)[i]? = cs[i]?
  | [], _, _, _, _ => rfl
  | v :: r, cs, o, i, h => by
    rw [List.length_cons] at h
    rw [putC, putC_out r _ _ _ (by omega), Array.getElem?_setIfInBounds, if_neg (by omega)]
theorem putC_in : ∀ (vs : List Value) (cs : Array Value) (o i : Nat), i < vs.length → o + vs.length ≤ cs.size → (putC cs o vs)[o + i]? = vs[i]?
  | [], _, _, _, h, _ => by cases h
  | v :: r, cs, o, i, h, hs => by
    rw [List.length_cons] at h hs
    rw [putC]
    cases i with
    | zero => rw [putC_out r _ _ _ (by omega), Array.getElem?_setIfInBounds, if_pos (Nat.add_zero o).symm, if_pos (by omega)]; rfl
    | succ i => rw [show o + (i + 1) = o + 1 + i by omega, putC_in r _ _ _ (by omega) (by simp; omega)]; rfl
theorem CsAt.puts {g : Nat} {t : TypeId} : ∀ (vs : List Value) {w : World} {cs : Array Value} (o : Nat), CsAt w g cs t → CsAt (w.setCells g o vs) g (putC cs o vs) t
  | [], w, cs, o, h => h
  | v :: r, w, cs, o, h => CsAt.puts r (o + 1) (h.put o v)
theorem But.puts {g : Nat} : ∀ (vs : List Value) {a w : World} (o : Nat), But g a w → But g a (w.setCells g o vs)
  | [], a, w, o, h => h
  | v :: r, a, w, o, h => But.puts r (o + 1) (h.put o v)
theorem CsAt.there {w : World} {g : Nat} {cs : Array Value} {t : TypeId} (h : CsAt w g cs t) {o n : Nat} (hn : o + n ≤ cs.size) : w.there g o n := fun j hj => ⟨by rw [h.cell, Array.getElem?_eq_getElem (by omega)]; rfl, h.frz _⟩
theorem put_set {cs : Array Value} {o : Nat} {S : Nat → Nat} (hs : o + 256 ≤ cs.size) (hS : ∀ x, S x < Top) {x : Nat} (hx : x < 128) : SetIn (putC cs o (ssC S).toList) (o + x * 2) (S x) := by
  have hl : (ssC S).toList.length = 256 := by rw [Array.length_toList, ss_size]
  refine ⟨hS x, ?_, ?_⟩
  · rw [putC_in _ _ _ _ (by omega) (by omega), Array.getElem?_toList, ss_get S (by omega), wS_even]
  · rw [show o + x * 2 + 1 = o + (x * 2 + 1) by omega, putC_in _ _ _ _ (by omega) (by omega), Array.getElem?_toList, ss_get S (by omega), wS_odd]
theorem SetIn.puts {cs : Array Value} {o q M : Nat} {vs : List Value} (h : SetIn cs q M) (ho : q + 1 < o ∨ o + vs.length ≤ q) : SetIn (putC cs o vs) q M := ⟨h.top, by rw [putC_out _ _ _ _ (by omega)]; exact h.c0, by rw [putC_out _ _ _ _ (by omega)]; exact h.c1⟩
/-- A grammar that is begun. -/
def g68 (v0 v1 v2 v3 v4 : Value) : Array Value := ((List.range 519).map fun i => if i = 0 then v0 else if i = 1 then v1 else if i = 2 then v2 else if i = 3 then v3 else if i = 4 then v4 else Value.int .u64 0).toArray
theorem g68_size (v0 v1 v2 v3 v4 : Value) : (g68 v0 v1 v2 v3 v4).size = 519 := by simp [g68]
theorem g68_get (v0 v1 v2 v3 v4 : Value) {i : Nat} (h : i < 519) : (g68 v0 v1 v2 v3 v4)[i]? = some (if i = 0 then v0 else if i = 1 then v1 else if i = 2 then v2 else if i = 3 then v3 else if i = 4 then v4 else Value.int .u64 0) := by
  unfold g68
  rw [List.getElem?_toArray, List.getElem?_map, List.getElem?_range h]; rfl
theorem build68 (a0 a4 : Option Addr) (n0 c0 n4 c4 b : Nat) (t s : Int) (w : World) : (Instr.build 90 #[(0, .slice a0 n0 c0), (1, .map (some b)), (2, .int .i64 t), (3, .int .i64 s), (4, .slice a4 n4 c4)]).run Tryd.prog w = .ok (.agg (g68 (.slice a0 n0 c0) (.map (some b)) (.int .i64 t) (.int .i64 s) (.slice a4 n4 c4))) w := by kernel_rfl
theorem wpList_build5 {P : Program} {ops : Array Oper} {rest : List Oper} {op : Oper} {a : Act} {w : World} {Q : Exit → Act → World → Prop} (hgd : op.guard = none) (ty : TypeId) (i0 i1 i2 i3 i4 : Nat) (x0 x1 x2 x3 x4 : Operand) (ho : op.op = .build ty #[(i0, x0), (i1, x1), (i2, x2), (i3, x3), (i4, x4)]) (v0 v1 v2 v3 v4 v : Value) (h0 : a.eval x0 = v0) (h1 : a.eval x1 = v1) (h2 : a.eval x2 = v2) (h3 : a.eval x3 = v3) (h4 : a.eval x4 = v4) (h : (Instr.build ty #[(i0, v0), (i1, v1), (i2, v2), (i3, v3), (i4, v4)]).run P w = .ok v w) (hk : wpList P ops Q rest (a.put op.dst v) w) : wpList P ops Q (op :: rest) a w :=
  wpList_plain hgd fun _ hK => by
    unfold Oper.wp execOp
    simp only [ho, List.map_toArray, List.map_cons, List.map_nil, h0, h1, h2, h3, h4, Sem.run_bind, h, Result.andThen_ok]
    exact hK _ _ hk
/-- The number of a name, the end's among them. -/
def nuE (T O : List Tx) : Tx → Option Int := fun x => if x = tEnd then some (T.length : Int) else nuF T O x
/-- A grammar lies in block p. -/
structure GfAt (w : World) (p : Nat) (T O : List Tx) (st : Nat) (R : List (Nat × List Int)) (nul : Nat) (bg fo : Nat → Nat) : Prop where
  cs : ∃ cs : Array Value, CsAt w p cs 90 ∧ (∃ v B, cs[0]? = some v ∧ SrAt w B v (allN T O)) ∧ (∃ b n, cs[1]? = some (.map (some b)) ∧ MpAt w b n (nuE T O)) ∧ cs[2]? = some (.int .i64 ((T.length : Int) + 1)) ∧ cs[3]? = some (.int .i64 (st : Int)) ∧ (∃ v, cs[4]? = some v ∧ RuAt w v R) ∧ SetIn cs 5 nul ∧ (∀ x, x < 128 → SetIn cs (7 + x * 2) (bg x)) ∧ ∀ x, x < 128 → SetIn cs (263 + x * 2) (fo x)
  few : (allN T O).length ≤ 128
  ok : RuOk R (allN T O).length
  len : R.length ≤ 128
  one : 1 ≤ R.length
  stl : T.length < st ∧ st < (allN T O).length
  gr : GrIs R 0 nul
  bs : BgIs R nul (T.length + 1) bg
  fs : FoIs R (allN T O).length (T.length + 1) st nul bg fo
  bt : ∀ x, bg x < Top
  ft : ∀ x, fo x < Top
theorem GfAt.next {w w' : World} {p : Nat} {T O : List Tx} {st : Nat} {R : List (Nat × List Int)} {nul : Nat} {bg fo : Nat → Nat} (h : GfAt w p T O st R nul bg fo) (hb : Below w.heap.size w w') : GfAt w' p T O st R nul bg fo := by
  obtain ⟨cs, h1, ⟨v, B, e1, e2⟩, ⟨b, n, e3, e4⟩, h2, h3, ⟨u, e5, e6⟩, h4⟩ := h.cs
  exact { h with cs := ⟨cs, h1.next hb, ⟨v, B, e1, e2.next hb⟩, ⟨b, n, e3, e4.next hb⟩, h2, h3, ⟨u, e5, e6.next hb⟩, h4⟩ }
def gsOf (T O : List Tx) (st nul : Nat) (bg fo : Nat → Nat) : Gs := ⟨(allN T O).length, T.length + 1, st, nul, bg, fo⟩
theorem GfAt.gm {w : World} {p : Nat} {T O : List Tx} {st : Nat} {R : List (Nat × List Int)} {nul : Nat} {bg fo : Nat → Nat} (h : GfAt w p T O st R nul bg fo) : GmAt w p (gsOf T O st nul bg fo) := by
  obtain ⟨cs, h1, ⟨v, B, e1, e2⟩, _, h2, h3, _, h4, h5, h6⟩ := h.cs
  obtain ⟨a, cap, rfl⟩ := e2.shape
  exact ⟨h.few, cs, h1, ⟨a, cap, e1⟩, h2.trans (by simp [gsOf]), h3, h4, h5, h6⟩
end Go.Proofs.YtgmbkelmgolkpaaDoor
/- What Name and Of answer. -/
namespace Go.Proofs.YtgmbkelmgolkpaaDoor
open Go.RowKit Go.Maps
set_option linter.unusedVariables false

set_option maxRecDepth 100000 in
set_option maxHeartbeats 800000 in
theorem name_any {p : Nat} {w : World} {T O : List Tx} {st nul : Nat} {R : List (Nat × List Int)} {bg fo : Nat → Nat} (h : GfAt w p T O st R nul bg fo) (s : Nat) (hs : s < (allN T O).length) : Calls Tryd.prog 53 #[.pointer (some ⟨p, 0, none⟩), .int .i64 (s : Int)] w fun e w' => e = .returned (.tuple #[encT ((allN T O).getD s []), .bool true]) ∧ Below w.heap.size w w' := by
  have HHA := hidD (has_any (s : Int) w h.gm)
  rw [show hasS (gsOf T O st nul bg fo) (s : Int) = true from by
    unfold hasS gsOf
    rw [decide_eq_true (show (0 : Int) ≤ (s : Int) by omega), decide_eq_true (show (s : Int) < (((allN T O).length : Nat) : Int) by omega)]; rfl] at HHA
  obtain ⟨cs, h1, ⟨nv, B, e1, e2⟩, _⟩ := h.cs
  obtain ⟨na, nc, rfl, hc1, hc2, hcell⟩ := e2
  obtain ⟨g, o, cs2, rfl, hg, hh, hv⟩ := hcell s hs
  have f0 : w.cell? ⟨p, 0, none⟩ = some (.slice (some ⟨g, o, none⟩) (allN T O).length nc) := by rw [h1.cell]; exact e1
  have f1 : w.cell? ⟨g, o + s, none⟩ = some (encT ((allN T O).getD s [])) := (cell_of_row _ _ _ _ _ _ hh).trans hv
  have hsi : (s : Int) < (((allN T O).length : Nat) : Int) := by omega
  clear h hcell e1 hh hv h1
  generalize (allN T O).getD s [] = x at *
  unfold encT at *
  generalize bA x = b at *
  generalize (allN T O).length = n at *
  go_enter Tryd.func53, Tryd.ntmps53
  go_wp2_with (go_at_call 63; refine HHA.out.mono ?_; rintro e w2 ⟨rfl, hw⟩; subst w2)
  refine bodyPost_ret (v := .tuple #[.string b, .bool true]) (by simp [results, Tryd.results53, go_sem]) rfl ?_
  exact ⟨rfl, Below.refl _ _⟩
/-- The first k rules of a symbol. -/
def ofTo (R : List (Nat × List Int)) (s : Int) : Nat → List Int
  | 0 => []
  | k + 1 => if ((R.getD k (0, [])).1 : Int) = s then ofTo R s k ++ [(k : Int)] else ofTo R s k
theorem of_len (R : List (Nat × List Int)) (s : Int) : ∀ k, (ofTo R s k).length ≤ k
  | 0 => Nat.le_refl _
  | k + 1 => by
    have := of_len R s k
    rw [ofTo]; split
    · rw [List.length_append, List.length_singleton]; omega
    · omega
set_option maxRecDepth 100000 in
set_option maxHeartbeats 800000 in
theorem of_own {p : Nat} (R : List (Nat × List Int)) (hRl : R.length ≤ 1048576) (s : Int) (vr : Value) (w : World) (hp : p < w.heap.size) (hpc : w.cell? ⟨p, 4, none⟩ = some vr) (hr : RuAt w vr R) : Calls Tryd.prog 55 #[.pointer (some ⟨p, 0, none⟩), .int .i64 s] w fun e w' => ∃ u, e = .returned u ∧ w'.ownsRow w.heap.size 3 1 u (ofTo R s R.length).length ((ofTo R s R.length).map encI) ∧ Below w.heap.size w w' := by
  obtain ⟨ar, cr, rfl, hrc⟩ := hr
  have HRC := hidD hrc
  have HLN := hidD (of_len R s)
  have HNX : Hid (∀ k, ofTo R s (k + 1) = if ((R.getD k (0, [])).1 : Int) = s then ofTo R s k ++ [(k : Int)] else ofTo R s k) := fun k => rfl
  clear hrc
  obtain ⟨hz76, hsz76⟩ := zero_of_info Tryd.zero63
  generalize R.length = rn at *
  go_enter Tryd.func55, Tryd.ntmps55
  go_wp2_with fail
  go_loopw [5, 15] (fun o i wr => ∃ k : Nat, k ≤ rn ∧ i = .int .i64 (k : Int) ∧ wr.ownsRow w.heap.size 3 1 o (ofTo R s k).length ((ofTo R s k).map encI) ∧ Below w.heap.size w wr) (fun _ i _ => rn - (intOf i).toNat)
  case atStart => exact ⟨0, Nat.zero_le _, rfl, World.ownsRow_nil _ _ _ _, Below.refl _ _⟩
  case round =>
    obtain ⟨k, hk, rfl, hown, hbel⟩ := hrel
    have HOW := hidD hown
    have HBW := hidD hbel
    by_cases hlt : k < rn
    · have hlti : (k : Int) < (rn : Int) := by omega
      obtain ⟨g, o, rv, rfl, hg, hc1, hc2, a2, c2, hrv, _⟩ := HRC.out k hlt
      subst hrv
      generalize (R.getD k (0, [])).2.length = n2 at *
      have f1 : wr.cell? ⟨g, o + k * 2, none⟩ = some (.int .i64 ((R.getD k (0, [])).1 : Int)) := (hbel.cell (p := ⟨g, o + k * 2, none⟩) hg).trans hc1
      have f2 : wr.cell? ⟨g, o + k * 2 + 1, none⟩ = some (.slice a2 n2 c2) := (hbel.cell (p := ⟨g, o + k * 2 + 1, none⟩) hg).trans hc2
      have HN := hidD (HNX.out k)
      have hln := HLN.out k
      clear hown hbel hc1 hc2 HRC
      generalize (R.getD k (0, [])).1 = lf at *
      generalize hLL : ofTo R s k = LL at *
      clear hLL
      generalize hll : LL.length = ll at *
      have HLL := hidD hll
      clear hll
      obtain ⟨a5, c5, h5⟩ := row_shape HOW.out
      subst h5
      have hkl : ll ≤ 1048576 := by omega
      by_cases he : (lf : Int) = s
      · rw [if_pos he] at HN
        have hed : decide ((lf : Int) = s) = true := decide_eq_true he
        have HBA := hidD (fun o' => HBW.out.alloc (show w.heap.size ≤ wr.heap.size from HBW.out.size) o')
        go_wp2_with (at_builtin; refine wpList_append_int rfl _ _ rfl w.heap.size (.slice a5 ll c5) ll (LL.map encI) rfl ((HOW.out.alloc _).alloc _) (wr.heap.size + 1) (k : Int) rfl (by simp) (by omega) (by have := HBW.out.size; simp; omega) ?_; intro v8 w8 hown8 hg8; have HO8 := hidD hown8; have HB8 := hidD (row_grown ((HOW.out.alloc _).alloc _) ((HBA.out _).alloc (by have := HBW.out.size; simp; omega) _) hg8 (by have := HBW.out.size; simp; omega)); clear hown8 hg8)
        go_roundw
        case rel => exact ⟨k + 1, by omega, by go_num, by rw [HN.out, List.length_append, List.map_append, HLL.out]; exact HO8.out, HB8.out⟩
        case measure => simp [intOf]; omega
      · rw [if_neg he] at HN
        have hed : decide ((lf : Int) = s) = false := decide_eq_false he
        go_wp2_with fail
        go_roundw
        case rel => exact ⟨k + 1, by omega, by go_num, by rw [HN.out, HLL.out]; exact HOW.out.alloc _, HBW.out.alloc (show w.heap.size ≤ wr.heap.size from HBW.out.size) _⟩
        case measure => simp [intOf]; omega
    · obtain rfl : k = rn := by omega
      have HIL := hidD hown
      obtain ⟨a5, c5, h5⟩ := row_shape hown
      subst h5
      clear hown hbel
      generalize hLL : ofTo R s k = LL at *
      generalize hll : LL.length = ll at *
      go_wp2_with fail
      refine bodyPost_ret (v := .slice a5 ll c5) (by simp [results, Tryd.results55, go_sem]) rfl ?_
      exact ⟨_, rfl, by rw [hLL, hll]; exact HIL.out, HBW.out⟩
theorem of_any {p : Nat} (R : List (Nat × List Int)) (hRl : R.length ≤ 1048576) (s : Int) (vr : Value) (w : World) (hp : p < w.heap.size) (hpc : w.cell? ⟨p, 4, none⟩ = some vr) (hr : RuAt w vr R) : Calls Tryd.prog 55 #[.pointer (some ⟨p, 0, none⟩), .int .i64 s] w fun e w' => ∃ u, e = .returned u ∧ IlAt w' u (ofTo R s R.length) ∧ Below w.heap.size w w' :=
  (of_own R hRl s vr w hp hpc hr).mono fun e w' ⟨u, h1, h2, h3⟩ => ⟨u, h1, il_of_own h2, h3⟩
end Go.Proofs.YtgmbkelmgolkpaaDoor
/- What Useless answers. -/
namespace Go.Proofs.YtgmbkelmgolkpaaDoor
open Go.RowKit Go.Maps
set_option linter.unusedVariables false

/-- Of the first k nonterminals those that are not in both sets. -/
def usTo (E X T : Nat) : Nat → List Int
  | 0 => []
  | k + 1 => if E.testBit (T + k) && X.testBit (T + k) then usTo E X T k else usTo E X T k ++ [((T + k : Nat) : Int)]
theorem us_len (E X T : Nat) : ∀ k, (usTo E X T k).length ≤ k
  | 0 => Nat.le_refl _
  | k + 1 => by
    have := us_len E X T k
    rw [usTo]; split
    · omega
    · rw [List.length_append, List.length_singleton]; omega
set_option maxRecDepth 100000 in
set_option maxHeartbeats 1600000 in
theorem useless_any {p : Nat} {w : World} {T O : List Tx} {st nul : Nat} {R : List (Nat × List Int)} {bg fo : Nat → Nat} (h : GfAt w p T O st R nul bg fo) : Calls Tryd.prog 25 #[.pointer (some ⟨p, 0, none⟩)] w fun e w' => ∃ E X u, e = .returned u ∧ GrIs R (utS (T.length + 1)) E ∧ ReIs R E (2 ^ st) X ∧ IlAt w' u (usTo E X (T.length + 1) O.length) ∧ Below w.heap.size w w' := by
  obtain ⟨cs, h1, ⟨nv, B, e1, e2⟩, _, h2, h3, ⟨vr, h4, h5⟩, _⟩ := h.cs
  obtain ⟨na, nc, rfl⟩ := e2.shape
  have hal : (allN T O).length = T.length + 1 + O.length := by unfold allN; simp; omega
  have hfew := h.few
  have hst := h.stl
  have f0 : w.cell? ⟨p, 0, none⟩ = some (.slice na (allN T O).length nc) := by rw [h1.cell]; exact e1
  have f2 : w.cell? ⟨p, 2, none⟩ = some (.int .i64 ((T.length : Int) + 1)) := by rw [h1.cell]; exact h2
  have f3 : w.cell? ⟨p, 3, none⟩ = some (.int .i64 (st : Int)) := by rw [h1.cell]; exact h3
  have f4 : w.cell? ⟨p, 4, none⟩ = some vr := by rw [h1.cell]; exact h4
  have hp := h1.lt
  have HUT := hidD (upTo_any (T.length + 1) (by omega) w)
  have HGR := hidD (fun w' (hb : Below w.heap.size w w') => grown_any (p := p) R _ h.ok hfew (by have := h.len; omega) (utS (T.length + 1)) (ut_top _ (by omega)) vr w' (Nat.lt_of_lt_of_le hp hb.size) ((hb.cell (p := ⟨p, 4, none⟩) hp).trans f4) (h5.next hb))
  have HRE := hidD (fun w' (hb : Below w.heap.size w w') E (hE : E < Top) => reached_any (p := p) R _ h.ok hfew (by have := h.len; omega) st (by omega) E hE vr w' (Nat.lt_of_lt_of_le hp hb.size) ((hb.cell (p := ⟨p, 3, none⟩) hp).trans f3) ((hb.cell (p := ⟨p, 4, none⟩) hp).trans f4) (h5.next hb))
  have HF0 := hidD (fun w' (hb : Below w.heap.size w w') => (hb.cell (p := ⟨p, 0, none⟩) hp).trans f0)
  have HSL := hidD (us_len)
  have HPP := hidD hp
  clear h e2 h5 h1 f4 f3 f0
  rw [hal] at HF0
  rw [show ((T.length : Int) + 1) = ((T.length + 1 : Nat) : Int) from by omega] at f2
  rw [hal] at hfew
  generalize T.length + 1 = t at *
  generalize O.length = on at *
  obtain ⟨hz, hsz⟩ := zero_of_info Tryd.zero86
  go_enter Tryd.func25, Tryd.ntmps25
  go_wp2_with first
    | (go_at_call 76; refine HUT.out.mono ?_; rintro e w1 ⟨rfl, hb⟩; have HB1 := hidD hb; clear hb)
    | (go_at_call 60; refine (HGR.out _ HB1.out).mono ?_; rintro e w2 ⟨E, rfl, hE, hgr, hb⟩; have HE := hidD hE; have HGI := hidD hgr; have HB2 := hidD (Below.next HB1.out hb); clear hE hgr hb; unfold setV; generalize hea : lw E = ea at *; generalize heb : hw E = eb at *; have HEA := hidD hea; have HEB := hidD heb; clear hea heb)
    | (go_at_call 77; have hre := HRE.out _ (Below.next HB2.out ((Below.refl _ _).alloc (Nat.le_refl _) (.cells #[.int .u64 (ea : Int), .int .u64 (eb : Int)] (86 : TypeId)))) E HE.out; unfold setV at hre; rw [HEA.out, HEB.out] at hre; refine hre.mono ?_; clear hre; rintro e w3 ⟨X, rfl, hX, hri, hb⟩; have HX := hidD hX; have HRI := hidD hri; have HC3 := hidD (CsAt.next (show CsAt _ _ #[.int .u64 (ea : Int), .int .u64 (eb : Int)] 86 from heap_alloc_new w2 (.cells #[.int .u64 (ea : Int), .int .u64 (eb : Int)] (86 : TypeId))) hb); have HB3 := hidD (Below.next (Below.next HB2.out ((Below.refl _ _).alloc (Nat.le_refl _) _)) hb); have HP3 := hidD ((HB3.out.cell (p := ⟨p, 2, none⟩) HPP.out).trans f2); clear hX hri hb; generalize hxa : lw X = xa at *; generalize hxb : hw X = xb at *; have HXA := hidD hxa; have HXB := hidD hxb; clear hxa hxb; have f3 : (w3.alloc (.cells #[.int .u64 (xa : Int), .int .u64 (xb : Int)] (86 : TypeId))).cell? ⟨p, 2, none⟩ = some (.int .i64 (t : Int)) := (((Below.refl _ _).alloc (Nat.le_refl _) _).cell (p := ⟨p, 2, none⟩) (Nat.lt_of_lt_of_le HPP.out HB3.out.size)).trans HP3.out)
  have HC4 := hidD (HC3.out.next ((Below.refl _ _).alloc (Nat.le_refl _) (.cells #[.int .u64 (xa : Int), .int .u64 (xb : Int)] (86 : TypeId))))
  have HD4 : Hid (CsAt (w3.alloc (.cells #[.int .u64 (xa : Int), .int .u64 (xb : Int)] (86 : TypeId))) w3.heap.size #[.int .u64 (xa : Int), .int .u64 (xb : Int)] 86) := heap_alloc_new _ _
  have HB4 := hidD (Below.next HB3.out ((Below.refl _ _).alloc (Nat.le_refl _) (.cells #[.int .u64 (xa : Int), .int .u64 (xb : Int)] (86 : TypeId))))
  have HF4 := hidD (HF0.out _ HB4.out)
  have HP4 : Hid (p < (w3.alloc (.cells #[.int .u64 (xa : Int), .int .u64 (xb : Int)] (86 : TypeId))).heap.size) := Nat.lt_of_lt_of_le HPP.out HB4.out.size
  generalize hW4 : w3.alloc (.cells #[.int .u64 (xa : Int), .int .u64 (xb : Int)] (86 : TypeId)) = w4 at *
  clear hW4 f3
  go_loopw [5, 6] (fun o i wr => ∃ k : Nat, k ≤ on ∧ i = .int .i64 ((t + k : Nat) : Int) ∧ wr.ownsRow w4.heap.size 3 1 o (usTo E X t k).length ((usTo E X t k).map encI) ∧ Below w4.heap.size w4 wr) (fun _ i _ => t + on - (intOf i).toNat)
  case atStart => exact ⟨0, Nat.zero_le _, rfl, World.ownsRow_nil _ _ _ _, Below.refl _ _⟩
  case round =>
    obtain ⟨k, hk, rfl, hown, hbel⟩ := hrel
    have HOW := hidD hown
    have HBW := hidD hbel
    by_cases hlt : k < on
    · have hs1 : t + k < 128 := by omega
      have hs2 : t + k < t + on := by omega
      have hs3 : ((t + k : Nat) : Int) < ((t + on : Nat) : Int) := by omega
      have f0 : wr.cell? ⟨p, 0, none⟩ = some (.slice na (t + on) nc) := (hbel.cell (p := ⟨p, 0, none⟩) HP4.out).trans HF4.out
      have fa : wr.cell? ⟨w2.heap.size, 0, none⟩ = some (.int .u64 (ea : Int)) := (hbel.cell (p := ⟨w2.heap.size, 0, none⟩) HC4.out.lt).trans (by rw [HC4.out.cell]; rfl)
      have fb : wr.cell? ⟨w2.heap.size, 1, none⟩ = some (.int .u64 (eb : Int)) := (hbel.cell (p := ⟨w2.heap.size, 1, none⟩) HC4.out.lt).trans (by rw [HC4.out.cell]; rfl)
      have HH1 := hidD (fun w' => setHas_any E HE.out (t + k) hs1 w')
      have HH2 := hidD (fun w' => setHas_any X HX.out (t + k) hs1 w')
      unfold setV at HH1 HH2
      rw [HEA.out, HEB.out] at HH1
      rw [HXA.out, HXB.out] at HH2
      have HNX : Hid (usTo E X t (k + 1) = if E.testBit (t + k) && X.testBit (t + k) then usTo E X t k else usTo E X t k ++ [((t + k : Nat) : Int)]) := rfl
      have hln := HSL.out E X t k
      have hms : t + (k + 1) = t + k + 1 := by omega
      have hms2 : t + k + 1 ≤ t + on := by omega
      clear hown hbel
      generalize hLL : usTo E X t k = LL at *
      clear hLL
      generalize hll : LL.length = ll at *
      have HLL := hidD hll
      clear hll
      obtain ⟨a5, c5, h5⟩ := row_shape HOW.out
      subst h5
      have hkl : ll ≤ 128 := by omega
      have HTK : Hid (t + k = t + k) := rfl
      generalize hs : t + k = s at *
      have HSK := hidD hs
      clear hs
      generalize htn : t + on = tn at *
      have HTN := hidD htn
      clear htn
      cases hbE : E.testBit s with
      | false =>
        rw [hbE] at HH1 HNX
        rw [Bool.false_and, if_neg (by decide)] at HNX
        clear hbE
        go_wp2_with first
          | (go_at_call 64; refine (HH1.out _).mono ?_; rintro e w5 ⟨rfl, hb5⟩; have HO5 := hidD (row_below HOW.out hb5); have HB5 := hidD (Below.next HBW.out hb5); have f5 : w5.cell? ⟨w3.heap.size, 0, none⟩ = some (.int .u64 (xa : Int)) := (HB5.out.cell (p := ⟨w3.heap.size, 0, none⟩) HD4.out.lt).trans (by rw [HD4.out.cell]; rfl); have f6 : w5.cell? ⟨w3.heap.size, 1, none⟩ = some (.int .u64 (xb : Int)) := (HB5.out.cell (p := ⟨w3.heap.size, 1, none⟩) HD4.out.lt).trans (by rw [HD4.out.cell]; rfl); clear hb5 HH1)
          | (at_builtin; refine wpList_append_int rfl _ _ rfl w4.heap.size (.slice a5 ll c5) ll (LL.map encI) rfl (HO5.out.alloc _) w5.heap.size (s : Int) rfl (new_cell1 w5 (.int .i64 (s : Int)) 3 0 _ rfl) (by omega) (by have := HB5.out.size; simp; omega) ?_; intro v8 w8 hown8 hg8; have HO8 := hidD hown8; have HB8 := hidD (row_grown (HO5.out.alloc _) (Below.next HB5.out ((Below.refl _ _).alloc (Nat.le_refl _) _)) hg8 (by have := HB5.out.size; simp; omega)); clear hown8 hg8)
        go_roundw
        case rel => exact ⟨k + 1, by omega, by go_num, by rw [HNX.out, List.length_append, List.map_append, HLL.out]; exact HO8.out, HB8.out⟩
        case measure => simp [intOf]; omega
      | true =>
        cases hbX : X.testBit s with
        | false =>
          rw [hbE] at HH1 HNX
          rw [hbX] at HH2 HNX
          rw [Bool.true_and, if_neg (by decide)] at HNX
          clear hbE hbX
          go_wp2_with first
            | (go_at_call 64; refine (HH1.out _).mono ?_; rintro e w5 ⟨rfl, hb5⟩; have HO5 := hidD (row_below HOW.out hb5); have HB5 := hidD (Below.next HBW.out hb5); have f5 : w5.cell? ⟨w3.heap.size, 0, none⟩ = some (.int .u64 (xa : Int)) := (HB5.out.cell (p := ⟨w3.heap.size, 0, none⟩) HD4.out.lt).trans (by rw [HD4.out.cell]; rfl); have f6 : w5.cell? ⟨w3.heap.size, 1, none⟩ = some (.int .u64 (xb : Int)) := (HB5.out.cell (p := ⟨w3.heap.size, 1, none⟩) HD4.out.lt).trans (by rw [HD4.out.cell]; rfl); clear hb5 HH1)
            | (go_at_call 64; refine (HH2.out _).mono ?_; rintro e w6 ⟨rfl, hb6⟩; have HO6 := hidD (row_below HO5.out hb6); have HB6 := hidD (Below.next HB5.out hb6); clear hb6 HH2)
            | (at_builtin; refine wpList_append_int rfl _ _ rfl w4.heap.size (.slice a5 ll c5) ll (LL.map encI) rfl (HO6.out.alloc _) w6.heap.size (s : Int) rfl (new_cell1 w6 (.int .i64 (s : Int)) 3 0 _ rfl) (by omega) (by have := HB6.out.size; simp; omega) ?_; intro v8 w8 hown8 hg8; have HO8 := hidD hown8; have HB8 := hidD (row_grown (HO6.out.alloc _) (Below.next HB6.out ((Below.refl _ _).alloc (Nat.le_refl _) _)) hg8 (by have := HB6.out.size; simp; omega)); clear hown8 hg8)
          go_roundw
          case rel => exact ⟨k + 1, by omega, by go_num, by rw [HNX.out, List.length_append, List.map_append, HLL.out]; exact HO8.out, HB8.out⟩
          case measure => simp [intOf]; omega
        | true =>
          rw [hbE] at HH1 HNX
          rw [hbX] at HH2 HNX
          rw [Bool.true_and, if_pos rfl] at HNX
          clear hbE hbX
          go_wp2_with first
            | (go_at_call 64; refine (HH1.out _).mono ?_; rintro e w5 ⟨rfl, hb5⟩; have HO5 := hidD (row_below HOW.out hb5); have HB5 := hidD (Below.next HBW.out hb5); have f5 : w5.cell? ⟨w3.heap.size, 0, none⟩ = some (.int .u64 (xa : Int)) := (HB5.out.cell (p := ⟨w3.heap.size, 0, none⟩) HD4.out.lt).trans (by rw [HD4.out.cell]; rfl); have f6 : w5.cell? ⟨w3.heap.size, 1, none⟩ = some (.int .u64 (xb : Int)) := (HB5.out.cell (p := ⟨w3.heap.size, 1, none⟩) HD4.out.lt).trans (by rw [HD4.out.cell]; rfl); clear hb5 HH1)
            | (go_at_call 64; refine (HH2.out _).mono ?_; rintro e w6 ⟨rfl, hb6⟩; have HO6 := hidD (row_below HO5.out hb6); have HB6 := hidD (Below.next HB5.out hb6); clear hb6 HH2)
          go_roundw
          case rel => exact ⟨k + 1, by omega, by go_num, by rw [HNX.out, HLL.out]; exact HO6.out, HB6.out⟩
          case measure => simp [intOf]; omega
    · obtain rfl : k = on := by omega
      have HIL := hidD (il_of_own hown)
      obtain ⟨a5, c5, h5⟩ := row_shape hown
      subst h5
      have f0 : wr.cell? ⟨p, 0, none⟩ = some (.slice na (t + k) nc) := (hbel.cell (p := ⟨p, 0, none⟩) HP4.out).trans HF4.out
      clear hown hbel
      generalize hLL : usTo E X t k = LL at *
      have HLL := hidD hLL
      clear hLL
      generalize hll : LL.length = ll at *
      generalize hs : t + k = s at *
      go_wp2_with fail
      refine bodyPost_ret (v := .slice a5 ll c5) (by simp [results, Tryd.results25, go_sem]) rfl ?_
      exact ⟨E, X, _, rfl, HGI.out, HRI.out, by rw [HLL.out]; exact HIL.out, Below.next HB4.out HBW.out⟩
end Go.Proofs.YtgmbkelmgolkpaaDoor
/- What New answers. -/
namespace Go.Proofs.YtgmbkelmgolkpaaDoor
open Go.RowKit Go.Maps
set_option linter.unusedVariables false

def newE (T O : List Tx) (s : Tx) (L : List (List Tx)) : Int :=
  if gdF T O && decide ((T.length : Int) < vaF (nuF T O) s) then
    if L.all (roF (nuF T O) T.length) && decide (1 ≤ L.length) then
      if decide (L.length ≤ 128) && decide ((allN T O).length ≤ 128) then 0 else 3
    else 130
  else 130
theorem IrAt.mapped {w w' : World} {B b : Nat} {v : Value} {ss : List Int} (h : IrAt w B v ss) (hb : ∃ es clock, w.heap[b]? = some (.map es clock)) (hg : w.grownBy w' (some b)) : IrAt w' B v ss := h.kept fun g _ _ ⟨cs, hc⟩ => kept_mapped hb hg hc
theorem RuB.mapped {w w' : World} {B b : Nat} {xs : List Value} {R : List (Nat × List Int)} (h : RuB w B xs R) (hb : ∃ es clock, w.heap[b]? = some (.map es clock)) (hg : w.grownBy w' (some b)) : RuB w' B xs R := ⟨h.1, fun k hk' => by
  obtain ⟨u, h1, h2, h3⟩ := h.2 k hk'
  exact ⟨u, h1, h2, h3.mapped hb hg⟩⟩
theorem kept_of_but {w w' : World} {g : Nat} {cs : Array Value} {t : TypeId} (hc : CsAt w g cs t) (hb : But g w w') : Kept t w w' := fun b hl hne => hb.rest b hl fun e => by
  subst e
  exact hne cs hc
theorem below_but {B g : Nat} {a w w' : World} (h : Below B a w) (hb : But g w w') (hg : B ≤ g) : Below B a w' := h.trans (hb.bel.mono hg)
theorem one_two (a b : Int) : (#[Value.int .u64 a, Value.int .u64 b] : Array Value).all (·.oneCell') = true := all_oneCell_toArray (cs := [Value.int .u64 a, Value.int .u64 b]) (by intro v hv; simp only [List.mem_cons, List.not_mem_nil, or_false] at hv; rcases hv with rfl | rfl <;> rfl)
theorem ret_pair {v : Value} {a b : Int} (h : a = b) : Ending.returned (.tuple #[v, .int .i64 a]) = .returned (.tuple #[v, .int .i64 b]) := by rw [h]
set_option maxRecDepth 100000 in
set_option maxHeartbeats 3200000 in
theorem new_own (T O : List Tx) (hT : TxOk T) (hO : TxOk O) (hl : T.length + O.length ≤ 4398046510000) (s : Tx) (hsl : s.length ≤ maxLen) (L : List (List Tx)) (hok : LxOk L) (hll : L.length ≤ 4398046511000) (hrl : ∀ r ∈ L, r.length ≤ 1048576) (Bt Bo : Nat) (t o v : Value) (w : World) (ht : SrAt w Bt t T) (ho : SrAt w Bo o O) (hv : RlAt w v L) : Calls Tryd.prog 15 #[t, o, encT s, v] w fun e w' =>
    Below w.heap.size w w' ∧ (newE T O s L ≠ 0 → e = .returned (.tuple #[.pointer none, .int .i64 (newE T O s L)])) ∧ (newE T O s L = 0 → ∃ p nul bg fo, e = .returned (.tuple #[.pointer (some ⟨p, 0, none⟩), .int .i64 0]) ∧ w.heap.size ≤ p ∧ GfAt w' p T O (vaF (nuF T O) s).toNat (L.map (rnF (nuF T O))) nul bg fo ∧ GfN w.heap.size w' p (L.map (rnF (nuF T O)))) := by
  have HNE : Hid (newE T O s L = if gdF T O && decide ((T.length : Int) < vaF (nuF T O) s) then (if L.all (roF (nuF T O) T.length) && decide (1 ≤ L.length) then (if decide (L.length ≤ 128) && decide ((allN T O).length ≤ 128) then 0 else 3) else 130) else 130) := rfl
  have hlen := allN_len T O
  have HNUM := hidD (numbered_any T O hT hO (by omega) Bt Bo t o w ht ho)
  have HRUL := hidD (fun w' (hb : Below w.heap.size w w') b nb (hm : MpAt w' b nb (nuF T O)) => rulesOf_any L hok hll (fun r hr => by have := hrl r hr; omega) (nuF T O) (va_nn T O) (fun x => by have := va_le T O x; omega) T.length (by omega) b nb v w' (hv.next hb) hm)
  have HVA : Hid (∀ x, (nuF T O x).getD 0 = vaF (nuF T O) x) := fun _ => rfl
  have HT := hidD ht
  have HO := hidD ho
  have hvn := va_nn T O s
  have hvl := va_le T O s
  obtain ⟨at1, ct1, rfl⟩ := ht.shape
  obtain ⟨ao1, co1, rfl⟩ := ho.shape
  have HMX := hidD (fun f : Nat => (rfl : f = f))
  obtain ⟨av, cv, rfl, _⟩ := hv
  have HROK := hidD (fun h => ru_ok (T := T) (O := O) (L := L) h hrl)
  have HTE : Hid (tEnd.length ≤ maxLen) := by show _ ≤ _; decide
  have hsl2 := hsl
  have HCC : Hid (∀ w', Below w.heap.size w w' → Calls Tryd.prog 59 #[.slice (some ⟨w'.heap.size + 1, 0, none⟩) 3 3] ((w'.alloc (.cells #[.string ⟨#[36]⟩] (9 : TypeId))).alloc (.cells #[.slice at1 T.length ct1, .slice (some ⟨w'.heap.size, 0, none⟩) 1 1, .slice ao1 O.length co1] (35 : TypeId))) fun e w'' => ∃ u, e = .returned u ∧ w''.ownsRow w.heap.size 9 1 u (allN T O).length ((allN T O).map encT) ∧ Below w'.heap.size w' w'') := fun w' hb => by
    have hr3 := rl_three (ht.next hb) (ho.next hb)
    have hfl : ([T, [tEnd], O] : List (List Tx)).flatten = allN T O := rfl
    refine (concatT_any [T, [tEnd], O] (by simp) (by rw [hfl]; omega) (by rw [hfl]; omega) _ _ hr3).mono fun e w'' hx => ?_
    obtain ⟨u, h1, h2, h3⟩ := hx
    have hB : Below w'.heap.size w' ((w'.alloc (.cells #[.string ⟨#[36]⟩] (9 : TypeId))).alloc (.cells #[.slice at1 T.length ct1, .slice (some ⟨w'.heap.size, 0, none⟩) 1 1, .slice ao1 O.length co1] (35 : TypeId))) := ((Below.refl _ _).alloc (Nat.le_refl _) _).alloc (by simp) _
    exact ⟨u, h1, row_mono h2 (by have := hb.size; have := hB.size; omega), hB.trans (h3.mono hB.size)⟩
  clear hT hO hok ht ho
  generalize hf : nuF T O = f at *
  generalize hvs : vaF f s = vs at *
  have HVS := hidD hvs
  clear hvs
  generalize hA : allN T O = A at *
  generalize hAn : A.length = n at *
  generalize hTn : T.length = tl at *
  generalize hOn : O.length = ol at *
  generalize hLn : L.length = ln at *
  have HF := hidD hf
  have HA := hidD hA
  have HAN := hidD hAn
  have HTN := hidD hTn
  have HON := hidD hOn
  have HLN := hidD hLn
  have HLE := hidD hlen
  clear hf hA hAn hTn hOn hLn hlen
  unfold encT
  have hln64 : ln ≤ 4398046511000 := hll
  cases hg : gdF T O with
  | false =>
    rw [hg] at HNE HNUM
    rw [Bool.false_and, if_neg (by decide)] at HNE
    clear hg
    go_enter Tryd.func15, Tryd.ntmps15
    go_wp2_with (go_at_call 57; refine HNUM.out.mono ?_; rintro e w2 ⟨h1, h2, hb2⟩; have h3 := h2 (by first | rfl | trivial); subst h3; have HB2 := hidD hb2; clear h1 h2 hb2)
    refine bodyPost_ret (v := .tuple #[.pointer none, .int .i64 130]) (by simp [results, Tryd.results15, go_sem]) rfl ?_
    exact ⟨HB2.out, fun _ => by rw [HNE.out], fun h => by rw [HNE.out] at h; cases h⟩
  | true =>
    rw [hg] at HNE HNUM
    rw [Bool.true_and] at HNE
    clear hg
    by_cases hv0 : (tl : Int) < vs
    · rw [decide_eq_true hv0, if_pos rfl] at HNE
      have hle : ¬ vs ≤ (tl : Int) := by omega
      have hled : decide (vs ≤ (tl : Int)) = false := decide_eq_false hle
      cases hall : L.all (roF f tl) with
      | false =>
        rw [hall] at HNE HRUL
        rw [Bool.false_and, if_neg (by decide)] at HNE
        clear hall
        go_enter Tryd.func15, Tryd.ntmps15
        go_wp2_with (first
          | (go_at_call 57; refine HNUM.out.mono ?_; rintro e w2 ⟨h1, h2, hb2⟩; obtain ⟨b, nb, h3, hnb, hmp, hbb⟩ := h1 (by first | rfl | trivial); subst h3; have hlk := hmp.look hsl; rw [HVA.out, HVS.out] at hlk; have HB2 := hidD hb2; have HM2 := hidD hmp; clear h1 h2 hb2 hmp)
          | (go_at_call 58; refine (HRUL.out _ HB2.out _ _ HM2.out).mono ?_; rintro e w3 ⟨h1, h2, hb3⟩; have h3 := h2 (by first | rfl | trivial); subst h3; have HB3 := hidD (Below.next HB2.out hb3); clear h1 h2 hb3))
        refine bodyPost_ret (v := .tuple #[.pointer none, .int .i64 130]) (by simp [results, Tryd.results15, go_sem]) rfl ?_
        exact ⟨HB3.out, fun _ => by rw [HNE.out], fun h => by rw [HNE.out] at h; cases h⟩
      | true =>
        have HOKR := hidD (HROK.out hall)
        rw [hall] at HNE HRUL
        rw [Bool.true_and] at HNE
        clear hall
        by_cases h0 : 1 ≤ ln
        · rw [decide_eq_true h0, if_pos rfl] at HNE
          have h0i : ((ln : Int) == 0) = false := beq_eq_false_iff_ne.2 (by omega)
          have h0d : decide ((ln : Int) = 0) = false := decide_eq_false (by omega)
          have h0n : ¬ (ln : Int) = 0 := by omega
          by_cases h128 : ln ≤ 128 ∧ n ≤ 128
          · rw [decide_eq_true h128.1, decide_eq_true h128.2] at HNE
            have c1 : ¬ (128 : Int) < (ln : Int) := by omega
            have c2 : ¬ (128 : Int) < (tl : Int) + 1 + (ol : Int) := by have := HLE.out; omega
            have c1d : decide ((128 : Int) < (ln : Int)) = false := decide_eq_false c1
            have c2d : decide ((128 : Int) < (tl : Int) + 1 + (ol : Int)) = false := decide_eq_false c2
            go_enter Tryd.func15, Tryd.ntmps15
            go_wp2_with (first
              | (go_at_call 57; refine HNUM.out.mono ?_; rintro e w2 ⟨h1, h2, hb2⟩; obtain ⟨b, nb, h3, hnb, hmp, hbb⟩ := h1 (by first | rfl | trivial); subst h3; have hlk := hmp.look hsl; rw [HVA.out, HVS.out] at hlk; have HB2 := hidD hb2; have HM2 := hidD hmp; have HBB := hidD hbb; have HNB := hidD hnb; clear h1 h2 hb2 hmp hbb hnb)
              | (go_at_call 58; refine (HRUL.out _ HB2.out _ _ HM2.out).mono ?_; rintro e w3 ⟨h1, h2, hb3⟩; obtain ⟨u, B, xs, h3, hown, hrub⟩ := h1 (by first | rfl | trivial); subst h3; obtain ⟨a4, c4, h4⟩ := row_shape hown; subst h4; have HB3 := hidD (Below.next HB2.out hb3); have HM3 := hidD (HM2.out.next hb3); have HOW3 := hidD (row_mono hown HB2.out.size); have HRB3 := hidD hrub; clear h1 h2 hb3 hown hrub))
            have HKK : Hid (∀ w', Below w3.heap.size w3 w' → ∃ i : KB w3 [b], w' = i.v) := fun w' hb => ⟨⟨w', fun x hx => by rw [List.mem_singleton] at hx; subst hx; exact hb.block x HM3.out.lt⟩, rfl⟩
            have k0 : ∀ i : KB w3 [b], (Instr.lookup 83 (.map (some b)) (.string (bA s)) false).run Tryd.prog i.v = .ok (.int .i64 vs) i.v := fun i => by
              have := (HM3.out.kept (i.keep b (by simp))).look hsl2
              rw [HVA.out, HVS.out] at this
              exact this
            obtain ⟨e1, he1⟩ : ∃ e1 : Nat, e1 = tl + 1 := ⟨_, rfl⟩
            have hwE : IntKind.i64.wrap ((tl : Int) + 1) = (e1 : Int) := by rw [IntKind.wrap_i64]; omega
            have HE1 := hidD he1
            clear he1
            have HDR : Hid (Below w3.heap.size w3 w3.drew) := (Below.refl _ _).drew
            have HA1 : Hid (∀ o, Below w3.heap.size w3 (w3.drew.alloc o)) := fun o => HDR.out.alloc (Nat.le_refl _) o
            have HA2 : Hid (∀ o o2, Below w3.heap.size w3 ((w3.drew.alloc o).alloc o2)) := fun o o2 => (HA1.out o).alloc (HA1.out o).size o2
            have HCD := hidD (HCC.out w3.drew (HB3.out.trans (HDR.out.mono HB3.out.size)))
            have HDS : Hid (w3.drew.heap.size = w3.heap.size) := rfl
            rw [HDS.out] at HCD
            refine wp_region_seg [0, 1, 0, 3, 5, 0, 0, 0, 0, 0, 0, 0, 99, 99, 99] 3 12 [b] (by kernel_rfl) (by kernel_rfl) (by kernel_rfl) (by kernel_rfl) (by kernel_rfl) (by kernel_rfl) (by kernel_rfl) (by kernel_rfl) (fun _ _ _ _ _ h => h) ?_
            simp only [SegW, pk, Nat.reduceMul, Nat.reduceAdd, Nat.reduceBEq, cond_true, cond_false]
            repeat (go_big_quiet_step (fail))
            refine wpQuiet_nil ?_
            go_wp2_with fail
            refine ⟨HKK.out _ (HA1.out _), ?_⟩
            repeat (go_big_quiet_step (fail))
            refine wpQuiet_nil ?_
            go_wp2_with fail
            refine ⟨HKK.out _ (HA2.out _ _), ?_⟩
            repeat (go_big_quiet_step (fail))
            refine wpQuiet_nil ?_
            go_wp2_with (go_at_call 59; refine HCD.out.mono ?_; rintro e w5 ⟨u5, rfl, ho5, hb5⟩; obtain ⟨a5, c5, h5⟩ := row_shape ho5; subst h5; have HS5 := hidD (sr_of_own ho5 HAN.out.symm); have HFAR := hidD (own_far ho5); have HB5 : Hid (Below w3.heap.size w3 w5) := HDR.out.trans hb5; clear ho5 hb5)
            refine ⟨HKK.out _ HB5.out, ?_⟩
            repeat (go_big_quiet_step (fail))
            refine wpQuiet_nil ?_
            obtain ⟨sn, hsn⟩ : ∃ sn : Nat, (sn : Int) = vs := ⟨vs.toNat, Int.toNat_of_nonneg hvn⟩
            have hsn2 : sn = vs.toNat := by omega
            have hsnl : sn < n := by
              have h1 := va_lt (T := T) (O := O) (x := s) (by rw [HF.out, HVS.out]; omega)
              rw [HF.out, HVS.out, HA.out, HAN.out] at h1
              omega
            have HSN := hidD hsn2
            have HSNL := hidD hsnl
            have HSNT : Hid (tl < sn) := by show _ < _; omega
            have HT1 : Hid (1 ≤ e1 ∧ e1 ≤ 128) := by have := HE1.out; have := HLE.out; have := h128.2; exact ⟨by omega, by omega⟩
            have HN128 : Hid (n ≤ 128) := h128.2
            have HRLN : Hid ((L.map (rnF f)).length = ln) := by show _ = _; rw [List.length_map]; exact HLN.out
            have HL128 : Hid (ln ≤ 128) := h128.1
            generalize hRR : L.map (rnF f) = R at *
            have HRRE := hidD hRR
            clear hRR k0 hwE hlk hsn2 hsnl
            subst hsn
            obtain ⟨hz61, hsz61⟩ := zero_of_info Tryd.zero86
            obtain ⟨hz66, hsz66⟩ := zero_of_info Tryd.zero88
            have HI66 : Hid (∀ S, (Tryd.prog.info? 88).map (·.size) = some (ssC S).size) := fun S => by rw [hsz66, ss_size]
            have HI61 : Hid (∀ a b : Value, (Tryd.prog.info? 86).map (·.size) = some (#[a, b] : Array Value).size) := fun a b => by rw [hsz61]; rfl
            have HBLD := hidD (build68 a5 a4 n c5 ln c4 b (e1 : Int) (sn : Int))
            have HBW5 := hidD (Below.next HB3.out HB5.out)
            have HM5 := hidD (HM3.out.next HB5.out)
            have HOW5 := hidD (row_below HOW3.out HB5.out)
            have HRB5 := hidD (HRB3.out.next HB5.out)
            have HGT : Hid (∀ i, i < 519 → (g68 (.slice a5 n c5) (.map (some b)) (.int .i64 (e1 : Int)) (.int .i64 (sn : Int)) (.slice a4 ln c4))[i]? = some (if i = 0 then .slice a5 n c5 else if i = 1 then .map (some b) else if i = 2 then .int .i64 (e1 : Int) else if i = 3 then .int .i64 (sn : Int) else if i = 4 then .slice a4 ln c4 else Value.int .u64 0)) := fun i hi => g68_get _ _ _ _ _ hi
            have HGS : Hid ((g68 (.slice a5 n c5) (.map (some b)) (.int .i64 (e1 : Int)) (.int .i64 (sn : Int)) (.slice a4 ln c4)).size = 519) := g68_size _ _ _ _ _
            generalize hG : g68 (.slice a5 n c5) (.map (some b)) (.int .i64 (e1 : Int)) (.int .i64 (sn : Int)) (.slice a4 ln c4) = G at *
            clear hG
            have HAL : Hid (∀ o, Below w5.heap.size w5 (w5.alloc o)) := fun o => (Below.refl _ _).alloc (Nat.le_refl _) o
            have HP6 : Hid (CsAt (w5.alloc (.cells G (90 : TypeId))) w5.heap.size G 90) := heap_alloc_new _ _
            have HM6 := hidD (HM5.out.next (HAL.out (.cells G (90 : TypeId))))
            have HBW6 := hidD (Below.next HBW5.out (HAL.out (.cells G (90 : TypeId))))
            have HOW6 := hidD (row_below HOW5.out (HAL.out (.cells G (90 : TypeId))))
            have HRB6 := hidD (HRB5.out.next (HAL.out (.cells G (90 : TypeId))))
            have HS6 := hidD (HS5.out.next (HAL.out (.cells G (90 : TypeId))))
            have HPL : Hid (w.heap.size ≤ w5.heap.size) := HBW5.out.size
            clear HAL HM5 HOW5 HRB5 HS5 HBW5
            go_upto_region 11 with (refine wpList_build5 rfl 90 0 1 2 3 4 _ _ _ _ _ rfl (.slice a5 n c5) (.map (some b)) (.int .i64 (e1 : Int)) (.int .i64 (sn : Int)) (.slice a4 ln c4) (.agg G) rfl rfl rfl rfl rfl (HBLD.out _) ?_)
            generalize hw6 : w5.alloc (.cells G (90 : TypeId)) = w6 at *
            clear hw6
            generalize hpp : w5.heap.size = p at *
            clear hpp
            have HGRW : Hid (∀ w', CsAt w' p G 90 → w'.ownsRow w.heap.size 63 2 (.slice a4 ln c4) ln xs → RuB w' B xs R → Calls Tryd.prog 60 #[.pointer (some ⟨p, 0, none⟩), .agg #[.int .u64 0, .int .u64 0]] w' fun e w'' => ∃ X, e = .returned (.agg #[.int .u64 (lw X : Int), .int .u64 (hw X : Int)]) ∧ X < Top ∧ GrIs R 0 X ∧ Below w'.heap.size w' w'') := fun w' hc ho hr => grown_any R n HOKR.out HN128.out (by rw [HRLN.out]; have := HL128.out; omega) 0 (by decide) _ w' hc.lt ((hc.cell 4).trans (HGT.out 4 (by decide))) (ru_of_own ho HRLN.out.symm hr)
            have HBGN : Hid (∀ w' cs X, CsAt w' p cs 90 → cs[2]? = some (.int .i64 (e1 : Int)) → cs[4]? = some (.slice a4 ln c4) → SetIn cs 5 X → w'.ownsRow w.heap.size 63 2 (.slice a4 ln c4) ln xs → RuB w' B xs R → Calls Tryd.prog 61 #[.pointer (some ⟨p, 0, none⟩)] w' fun e w'' => ∃ Z, e = .returned (.agg (ssC Z)) ∧ (∀ x, Z x < Top) ∧ BgIs R X e1 Z ∧ Below w'.heap.size w' w'') := fun w' cs X hc h2 h4 h5 ho hr => beginnings_any R n HOKR.out HN128.out (by rw [HRLN.out]; have := HL128.out; omega) e1 HT1.out.2 X _ w' hc.lt ((hc.cell 2).trans h2) ((hc.cell 4).trans h4) (ru_of_own ho HRLN.out.symm hr) (h5.at hc)
            have HFOL : Hid (∀ w' cs X Z, CsAt w' p cs 90 → cs[0]? = some (.slice a5 n c5) → cs[2]? = some (.int .i64 (e1 : Int)) → cs[3]? = some (.int .i64 (sn : Int)) → cs[4]? = some (.slice a4 ln c4) → SetIn cs 5 X → (∀ x, Z x < Top) → (∀ x, x < 128 → SetIn cs (7 + x * 2) (Z x)) → w'.ownsRow w.heap.size 63 2 (.slice a4 ln c4) ln xs → RuB w' B xs R → Calls Tryd.prog 62 #[.pointer (some ⟨p, 0, none⟩)] w' fun e w'' => ∃ Y, e = .returned (.agg (ssC Y)) ∧ (∀ x, Y x < Top) ∧ FoIs R n e1 sn X Z Y ∧ Below w'.heap.size w' w'') := fun w' cs X Z hc h0 h2 h3 h4 h5 hz hb ho hr => followers_any R n HOKR.out HN128.out (by rw [HRLN.out]; have := HL128.out; omega) e1 HT1.out.2 HT1.out.1 sn (by have := HSNL.out; have := HN128.out; omega) X Z _ a5 c5 w' hc.lt ((hc.cell 0).trans h0) ((hc.cell 2).trans h2) ((hc.cell 3).trans h3) ((hc.cell 4).trans h4) (ru_of_own ho HRLN.out.symm hr) (h5.at hc) hz (fun x hx => (hb x hx).at hc)
            go_upto_region 13 with (first
              | (at_mapUpdate; refine wpList_map_put rfl _ _ _ rfl b nb f rfl HM6.out (by have := HNB.out; omega) tEnd (tl : Int) HTE.out (by omega) (by omega) rfl rfl ?_; intro w7 hm7 hg7; have HIS6 := hidD HM6.out.is; have HM7 := hidD hm7; have HP7 : Hid (CsAt w7 p G 90) := (kept_mapped HIS6.out hg7 HP6.out).trans HP6.out; have HBW7 := hidD (below_map HBW6.out hg7 HBB.out HBW6.out.size); have HOW7 := hidD (row_mapped HOW6.out HIS6.out hg7); have HRB7 := hidD (HRB6.out.mapped HIS6.out hg7); have HS7 := hidD (HS6.out.mapped HIS6.out hg7); clear hm7 hg7)
              | (go_at_call 60; refine (HGRW.out _ HP7.out HOW7.out HRB7.out).mono ?_; rintro e w8 ⟨X, rfl, hxt, hgr, hb8⟩; have HXT := hidD hxt; have HXG := hidD hgr; have HP8 := hidD (HP7.out.next hb8); have HM8 := hidD (HM7.out.next hb8); have HBW8 := hidD (Below.next HBW7.out hb8); have HOW8 := hidD (row_below HOW7.out hb8); have HRB8 := hidD (HRB7.out.next hb8); have HS8 := hidD (HS7.out.next hb8); have z0 : w8.cell? ⟨p, 5, none⟩ = some (.int .u64 0) := (HP8.out.cell 5).trans (HGT.out 5 (by decide)); have z1 : w8.cell? ⟨p, 6, none⟩ = some (.int .u64 0) := (HP8.out.cell 6).trans (HGT.out 6 (by decide)); have z2 := HP8.out.frz 5; have z3 := HP8.out.frz 6; clear hxt hgr hb8))
            have hq9 : But p w8 ((w8.setCell ⟨p, 5, none⟩ (.int .u64 (lw X : Int))).setCell ⟨p, 6, none⟩ (.int .u64 (hw X : Int))) := ((But.refl p w8).put 5 _).put 6 _
            have hk9 := kept_of_but HP8.out hq9
            have HP9 : Hid (CsAt ((w8.setCell ⟨p, 5, none⟩ (.int .u64 (lw X : Int))).setCell ⟨p, 6, none⟩ (.int .u64 (hw X : Int))) p (setC G 5 X) 90) := (HP8.out.put 5 _).put 6 _
            have HM9 := hidD (HM8.out.stay hk9)
            have HBW9 := hidD (below_but HBW8.out hq9 HPL.out)
            have HOW9 := hidD (Kept.row HOW8.out hk9 (by decide))
            have HRB9 := hidD (HRB8.out.stay hk9 (by decide))
            have HS9 := hidD (HS8.out.stay hk9 (by decide))
            clear hq9 hk9 z0 z1 z2 z3
            generalize hw9 : ((w8.setCell ⟨p, 5, none⟩ (.int .u64 (lw X : Int))).setCell ⟨p, 6, none⟩ (.int .u64 (hw X : Int))) = w9 at *
            clear hw9
            have HX5 : Hid (SetIn (setC G 5 X) 5 X) := setC_same (by rw [HGS.out]; decide) HXT.out
            have HCS9 : Hid ((setC G 5 X).size = 519) := by show _ = _; rw [setC_size]; exact HGS.out
            have HC9 : Hid (∀ i, i < 519 → i ≠ 5 → i ≠ 6 → (setC G 5 X)[i]? = some (if i = 0 then .slice a5 n c5 else if i = 1 then .map (some b) else if i = 2 then .int .i64 (e1 : Int) else if i = 3 then .int .i64 (sn : Int) else if i = 4 then .slice a4 ln c4 else Value.int .u64 0)) := fun i hi h5 h6 => by rw [setC_other _ _ _ _ h5 h6]; exact HGT.out i hi
            have HBC := hidD (HBGN.out w9 _ X HP9.out (HC9.out 2 (by decide) (by decide) (by decide)) (HC9.out 4 (by decide) (by decide) (by decide)) HX5.out HOW9.out HRB9.out)
            generalize hC9 : setC G 5 X = C9 at *
            clear hC9
            go_upto_region 14 with (first
              | (go_at_call 61; refine HBC.out.mono ?_; rintro e w10 ⟨Z, rfl, hzt, hzb, hb10⟩; have HZT := hidD hzt; have HZB := hidD hzb; have HP10 := hidD (HP9.out.next hb10); have HM10 := hidD (HM9.out.next hb10); have HBW10 := hidD (Below.next HBW9.out hb10); have HOW10 := hidD (row_below HOW9.out hb10); have HRB10 := hidD (HRB9.out.next hb10); have HS10 := hidD (HS9.out.next hb10); clear hzt hzb hb10)
              | (refine wpList_store_mid rfl 88 _ _ rfl p 7 (ssC Z) rfl rfl (HP10.out.there (by rw [ss_size, HCS9.out]; decide)) (HI66.out Z) (ss_one Z) ?_))
            simp only [Act.put]
            have hq11 : But p w10 (w10.setCells p 7 (ssC Z).toList) := But.puts _ 7 (But.refl _ _)
            have hk11 := kept_of_but HP10.out hq11
            have HP11 : Hid (CsAt (w10.setCells p 7 (ssC Z).toList) p (putC C9 7 (ssC Z).toList) 90) := HP10.out.puts (ssC Z).toList 7
            have HM11 := hidD (HM10.out.stay hk11)
            have HBW11 := hidD (below_but HBW10.out hq11 HPL.out)
            have HOW11 := hidD (Kept.row HOW10.out hk11 (by decide))
            have HRB11 := hidD (HRB10.out.stay hk11 (by decide))
            have HS11 := hidD (HS10.out.stay hk11 (by decide))
            clear hq11 hk11
            generalize hw11 : (w10.setCells p 7 (ssC Z).toList) = w11 at *
            clear hw11
            have HLZ : Hid ((ssC Z).toList.length = 256) := by show _ = _; rw [Array.length_toList, ss_size]
            have HX7 : Hid (SetIn (putC C9 7 (ssC Z).toList) 5 X) := HX5.out.puts (.inl (by decide))
            have HZ7 : Hid (∀ x, x < 128 → SetIn (putC C9 7 (ssC Z).toList) (7 + x * 2) (Z x)) := fun x hx => put_set (by rw [HCS9.out]; decide) HZT.out hx
            have HCS11 : Hid ((putC C9 7 (ssC Z).toList).size = 519) := by show _ = _; rw [putC_size]; exact HCS9.out
            have HC11 : Hid (∀ i, i < 5 → (putC C9 7 (ssC Z).toList)[i]? = some (if i = 0 then .slice a5 n c5 else if i = 1 then .map (some b) else if i = 2 then .int .i64 (e1 : Int) else if i = 3 then .int .i64 (sn : Int) else if i = 4 then .slice a4 ln c4 else Value.int .u64 0)) := fun i hi => by rw [putC_out _ _ _ _ (.inl (by omega))]; exact HC9.out i (by omega) (by omega) (by omega)
            have HFC := hidD (HFOL.out w11 _ X Z HP11.out (HC11.out 0 (by decide)) (HC11.out 2 (by decide)) (HC11.out 3 (by decide)) (HC11.out 4 (by decide)) HX7.out HZT.out HZ7.out HOW11.out HRB11.out)
            generalize hC11 : putC C9 7 (ssC Z).toList = C11 at *
            clear hC11
            go_wp2_with (first
              | (go_at_call 62; refine HFC.out.mono ?_; rintro e w12 ⟨Y, rfl, hyt, hyb, hb12⟩; have HYT := hidD hyt; have HYB := hidD hyb; have HP12 := hidD (HP11.out.next hb12); have HM12 := hidD (HM11.out.next hb12); have HBW12 := hidD (Below.next HBW11.out hb12); have HOW12 := hidD (row_below HOW11.out hb12); have HRB12 := hidD (HRB11.out.next hb12); have HS12 := hidD (HS11.out.next hb12); clear hyt hyb hb12)
              | (refine wpList_store_mid rfl 88 _ _ rfl p 263 (ssC Y) rfl rfl (HP12.out.there (by rw [ss_size, HCS11.out]; decide)) (HI66.out Y) (ss_one Y) ?_))
            refine bodyPost_ret (v := .tuple #[.pointer (some ⟨p, 0, none⟩), .int .i64 0]) (by simp [results, Tryd.results15, go_sem]) rfl ?_
            have HNE0 : Hid (newE T O s L = 0) := by show _ = _; rw [HNE.out]; rfl
            have hq13 : But p w12 (w12.setCells p 263 (ssC Y).toList) := But.puts _ 263 (But.refl _ _)
            have hk13 := kept_of_but HP12.out hq13
            have HP13 : CsAt (w12.setCells p 263 (ssC Y).toList) p (putC C11 263 (ssC Y).toList) 90 := HP12.out.puts (ssC Y).toList 263
            have hbw13 := below_but HBW12.out hq13 HPL.out
            have HC13 : ∀ i, i < 5 → (putC C11 263 (ssC Y).toList)[i]? = _ := fun i hi => (putC_out _ _ _ _ (.inl (by omega))).trans (HC11.out i hi)
            refine ⟨hbw13, fun h => absurd HNE0.out h, fun _ => ⟨p, X, Z, Y, rfl, HPL.out, ?_, ⟨fun g o n' c' hc' => by
              have e0 := ((HP13.cell 0).trans (HC13 0 (by decide))).symm.trans hc'
              have e1 : Value.slice a5 n c5 = Value.slice (some ⟨g, o, none⟩) n' c' := Option.some.inj e0
              cases e1
              exact HFAR.out g o rfl, ⟨_, _, _, _, (HP13.cell 4).trans (HC13 4 (by decide)), by rw [HRRE.out, HRLN.out]; exact Kept.row HOW12.out hk13 (by decide), by rw [HRRE.out]; exact HRB12.out.stay hk13 (by decide)⟩⟩⟩⟩
            rw [← HSN.out, HRRE.out]
            refine ⟨⟨_, HP13, ⟨_, _, HC13 0 (by decide), by rw [HA.out]; exact HS12.out.stay hk13 (by decide)⟩, ⟨b, nb + 1, HC13 1 (by decide), ?_⟩, ?_, HC13 3 (by decide), ⟨_, HC13 4 (by decide), ru_of_own (Kept.row HOW12.out hk13 (by decide)) HRLN.out.symm (HRB12.out.stay hk13 (by decide))⟩, HX7.out.puts (.inl (by decide)), fun x hx => (HZ7.out x hx).puts (.inl (by omega)), fun x hx => put_set (by rw [HCS11.out]; decide) HYT.out hx⟩, ?_, ?_, ?_, ?_, ?_, HXG.out, ?_, ?_, HZT.out, HYT.out⟩
            · refine (HM12.out.stay hk13).same fun x => ?_
              unfold nuE
              rw [HF.out, HTN.out]
            · refine (HC13 2 (by decide)).trans ?_
              rw [HTN.out, HE1.out]
              rfl
            · rw [HA.out, HAN.out]; exact HN128.out
            · rw [HA.out, HAN.out]; exact HOKR.out
            · rw [HRLN.out]; exact HL128.out
            · rw [HRLN.out]; exact h0
            · rw [HA.out, HAN.out, HTN.out]; exact ⟨HSNT.out, HSNL.out⟩
            · rw [HTN.out, ← HE1.out]; exact HZB.out
            · rw [HA.out, HAN.out, HTN.out, ← HE1.out]; exact HYB.out
          · have HF3 : Hid (newE T O s L = 3) := by
              show _ = _
              rw [HNE.out, if_neg]
              rw [Bool.and_eq_true, decide_eq_true_eq, decide_eq_true_eq]
              exact h128
            by_cases c1 : (128 : Int) < (ln : Int)
            · have c1d : decide ((128 : Int) < (ln : Int)) = true := decide_eq_true c1
              go_enter Tryd.func15, Tryd.ntmps15
              go_wp2_with (first
                | (go_at_call 57; refine HNUM.out.mono ?_; rintro e w2 ⟨h1, h2, hb2⟩; obtain ⟨b, nb, h3, hnb, hmp, hbb⟩ := h1 (by first | rfl | trivial); subst h3; have hlk := hmp.look hsl; rw [HVA.out, HVS.out] at hlk; have HB2 := hidD hb2; have HM2 := hidD hmp; clear h1 h2 hb2 hmp)
                | (go_at_call 58; refine (HRUL.out _ HB2.out _ _ HM2.out).mono ?_; rintro e w3 ⟨h1, h2, hb3⟩; obtain ⟨u, B, xs, h3, hown, hrub⟩ := h1 (by first | rfl | trivial); subst h3; obtain ⟨a4, c4, h4⟩ := row_shape hown; subst h4; have HB3 := hidD (Below.next HB2.out hb3); clear h1 h2 hb3 hown hrub))
              refine bodyPost_ret (v := .tuple #[.pointer none, .int .i64 3]) (by simp [results, Tryd.results15, go_sem]) rfl ?_
              exact ⟨HB3.out, fun _ => by rw [HF3.out], fun h => by rw [HF3.out] at h; cases h⟩
            · have c1d : decide ((128 : Int) < (ln : Int)) = false := decide_eq_false c1
              have c2 : (128 : Int) < (tl : Int) + 1 + (ol : Int) := by have := HLE.out; omega
              have c2d : decide ((128 : Int) < (tl : Int) + 1 + (ol : Int)) = true := decide_eq_true c2
              go_enter Tryd.func15, Tryd.ntmps15
              go_wp2_with (first
                | (go_at_call 57; refine HNUM.out.mono ?_; rintro e w2 ⟨h1, h2, hb2⟩; obtain ⟨b, nb, h3, hnb, hmp, hbb⟩ := h1 (by first | rfl | trivial); subst h3; have hlk := hmp.look hsl; rw [HVA.out, HVS.out] at hlk; have HB2 := hidD hb2; have HM2 := hidD hmp; clear h1 h2 hb2 hmp)
                | (go_at_call 58; refine (HRUL.out _ HB2.out _ _ HM2.out).mono ?_; rintro e w3 ⟨h1, h2, hb3⟩; obtain ⟨u, B, xs, h3, hown, hrub⟩ := h1 (by first | rfl | trivial); subst h3; obtain ⟨a4, c4, h4⟩ := row_shape hown; subst h4; have HB3 := hidD (Below.next HB2.out hb3); clear h1 h2 hb3 hown hrub))
              refine bodyPost_ret (v := .tuple #[.pointer none, .int .i64 3]) (by simp [results, Tryd.results15, go_sem]) rfl ?_
              exact ⟨HB3.out, fun _ => by rw [HF3.out], fun h => by rw [HF3.out] at h; cases h⟩
        · obtain rfl : ln = 0 := by omega
          rw [decide_eq_false h0, if_neg (by decide)] at HNE
          clear h0
          go_enter Tryd.func15, Tryd.ntmps15
          go_wp2_with (first
            | (go_at_call 57; refine HNUM.out.mono ?_; rintro e w2 ⟨h1, h2, hb2⟩; obtain ⟨b, nb, h3, hnb, hmp, hbb⟩ := h1 (by first | rfl | trivial); subst h3; have hlk := hmp.look hsl; rw [HVA.out, HVS.out] at hlk; have HB2 := hidD hb2; have HM2 := hidD hmp; clear h1 h2 hb2 hmp)
            | (go_at_call 58; refine (HRUL.out _ HB2.out _ _ HM2.out).mono ?_; rintro e w3 ⟨h1, h2, hb3⟩; obtain ⟨u, B, xs, h3, hown, hrub⟩ := h1 (by first | rfl | trivial); subst h3; obtain ⟨a4, c4, h4⟩ := row_shape hown; subst h4; have HB3 := hidD (Below.next HB2.out hb3); clear h1 h2 hb3 hown hrub))
          refine bodyPost_ret (v := .tuple #[.pointer none, .int .i64 130]) (by simp [results, Tryd.results15, go_sem]) rfl ?_
          exact ⟨HB3.out, fun _ => by rw [HNE.out], fun h => by rw [HNE.out] at h; cases h⟩
    · rw [decide_eq_false hv0, if_neg (by decide)] at HNE
      have hle : vs ≤ (tl : Int) := by omega
      have hled : decide (vs ≤ (tl : Int)) = true := decide_eq_true hle
      clear hv0
      go_enter Tryd.func15, Tryd.ntmps15
      go_wp2_with (go_at_call 57; refine HNUM.out.mono ?_; rintro e w2 ⟨h1, h2, hb2⟩; obtain ⟨b, nb, h3, hnb, hmp, hbb⟩ := h1 (by first | rfl | trivial); subst h3; have hlk := hmp.look hsl; rw [HVA.out, HVS.out] at hlk; have HB2 := hidD hb2; clear h1 h2 hb2 hmp)
      refine bodyPost_ret (v := .tuple #[.pointer none, .int .i64 130]) (by simp [results, Tryd.results15, go_sem]) rfl ?_
      exact ⟨HB2.out, fun _ => by rw [HNE.out], fun h => by rw [HNE.out] at h; cases h⟩
theorem new_any (T O : List Tx) (hT : TxOk T) (hO : TxOk O) (hl : T.length + O.length ≤ 4398046510000) (s : Tx) (hsl : s.length ≤ maxLen) (L : List (List Tx)) (hok : LxOk L) (hll : L.length ≤ 4398046511000) (hrl : ∀ r ∈ L, r.length ≤ 1048576) (Bt Bo : Nat) (t o v : Value) (w : World) (ht : SrAt w Bt t T) (ho : SrAt w Bo o O) (hv : RlAt w v L) : Calls Tryd.prog 15 #[t, o, encT s, v] w fun e w' =>
    Below w.heap.size w w' ∧ (newE T O s L ≠ 0 → e = .returned (.tuple #[.pointer none, .int .i64 (newE T O s L)])) ∧ (newE T O s L = 0 → ∃ p nul bg fo, e = .returned (.tuple #[.pointer (some ⟨p, 0, none⟩), .int .i64 0]) ∧ w.heap.size ≤ p ∧ GfAt w' p T O (vaF (nuF T O) s).toNat (L.map (rnF (nuF T O))) nul bg fo) :=
  (new_own T O hT hO hl s hsl L hok hll hrl Bt Bo t o v w ht ho hv).mono fun e w' h => ⟨h.1, h.2.1, fun h0 => by
    obtain ⟨p, nul, bg, fo, h1, h2, h3, _⟩ := h.2.2 h0
    exact ⟨p, nul, bg, fo, h1, h2, h3⟩⟩
end Go.Proofs.YtgmbkelmgolkpaaDoor
