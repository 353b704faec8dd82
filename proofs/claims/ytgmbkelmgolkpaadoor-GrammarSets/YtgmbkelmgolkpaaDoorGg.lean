/- Texts of one proof, one behind the other. -/
import Derived.Test.YtgmbkelmgolkpaaDoorGf
import Derived.Test.YtgmbkelmgolkpaaDoorRfn
import Derived.Deep.CutRange
import Derived.WalkSpells
/- Rows of texts that grow beside one another: what each leaves of the others. -/
namespace Go.Proofs.YtgmbkelmgolkpaaDoor
open Go.RowKit Go.Maps
set_option linter.unusedVariables false

/-- A row of texts of one's own. -/
def TxR (w : World) (B : Nat) (u : Value) (c : List Tx) : Prop := w.ownsRow B 9 1 u c.length (c.map encT)
/-- A row grew: it lies where it lay, or at the heap's end. -/
def Moved (w : World) (v v' : Value) : Prop := v'.ownBlock = v.ownBlock ∨ v'.ownBlock = some w.heap.size
theorem TxR.kept {w w' : World} {B : Nat} {u v : Value} {c : List Tx} (h : TxR w B u c) (hg : w.grownBy w' v.ownBlock) (ha : Ap u v) : TxR w' B u c := World.ownsRow.kept h hg ha
theorem TxR.next {w w' : World} {B : Nat} {u : Value} {c : List Tx} (h : TxR w B u c) (hb : Below w.heap.size w w') : TxR w' B u c := row_below h hb
theorem TxR.stay {w w' : World} {B : Nat} {u : Value} {c : List Tx} (h : TxR w B u c) (hk : Kept 35 w w') : TxR w' B u c := Kept.row h hk (by decide)
theorem TxR.mono {w : World} {B B' : Nat} {u : Value} {c : List Tx} (h : TxR w B u c) (hB : B' ≤ B) : TxR w B' u c := row_mono h hB
theorem TxR.ap {w : World} {B : Nat} {u v v' : Value} {c : List Tx} (h : TxR w B u c) (ha : Ap u v) (hm : Moved w v v') : Ap u v' := ap_next h ha hm
theorem TxR.sr {w : World} {B : Nat} {u : Value} {c : List Tx} (h : TxR w B u c) : SrAt w w.heap.size u c := sr_of_own h rfl
/-- A new block is unlike all that was there. -/
theorem TxR.new {w : World} {B : Nat} {u v : Value} {c : List Tx} (h : TxR w B u c) (hv : ∀ b, v.ownBlock = some b → w.heap.size ≤ b) : Ap u v ∧ Ap v u := by
  constructor
  · cases hu : u.ownBlock with
    | none => exact .inl hu
    | some b => exact .inr (by rw [hu]; intro e; have := h.lt b hu; have := hv b e.symm; omega)
  · cases hb : v.ownBlock with
    | none => exact .inl hb
    | some b => exact .inr (by rw [hb]; intro e; have := h.lt b e.symm; have := hv b hb; omega)
/-- A row that grew beside another that did not. -/
theorem Moved.ap {w : World} {B : Nat} {u v v' : Value} {c : List Tx} (hm : Moved w v v') (h : TxR w B u c) (ha : Ap v u) : Ap v' u := by
  cases hb : v'.ownBlock with
  | none => exact .inl hb
  | some b =>
    refine .inr ?_
    rw [hb]
    intro e
    rcases hm with hm | hm
    · rw [hb] at hm
      rcases ha with ha | ha
      · rw [ha] at hm; cases hm
      · exact ha (by rw [← hm]; exact e)
    · rw [hb] at hm
      cases hm
      have := h.lt _ e.symm
      omega
/-- Values that are rows of texts, none of them one of two that grow. -/
def RvO (w : World) (B : Nat) (vs : List Value) (L : List (List Tx)) (o a : Value) : Prop := vs.length = L.length ∧ ∀ k, k < L.length → ∃ u, vs[k]? = some u ∧ TxR w B u (L.getD k []) ∧ Ap u o ∧ Ap u a
theorem RvO.nil (w : World) (B : Nat) (o a : Value) : RvO w B [] [] o a := ⟨rfl, fun k hk => absurd hk (by simp)⟩
theorem RvO.next {w w' : World} {B : Nat} {vs : List Value} {L : List (List Tx)} {o a : Value} (h : RvO w B vs L o a) (hb : Below w.heap.size w w') : RvO w' B vs L o a := ⟨h.1, fun k hk => by
  obtain ⟨u, h1, h2, h3⟩ := h.2 k hk
  exact ⟨u, h1, h2.next hb, h3⟩⟩
theorem RvO.stay {w w' : World} {B : Nat} {vs : List Value} {L : List (List Tx)} {o a : Value} (h : RvO w B vs L o a) (hk : Kept 35 w w') : RvO w' B vs L o a := ⟨h.1, fun k hk' => by
  obtain ⟨u, h1, h2, h3⟩ := h.2 k hk'
  exact ⟨u, h1, h2.stay hk, h3⟩⟩
/-- The first one grew. -/
theorem RvO.growO {w w' : World} {B : Nat} {vs : List Value} {L : List (List Tx)} {o o' a : Value} (h : RvO w B vs L o a) (hg : w.grownBy w' o.ownBlock) (hm : Moved w o o') : RvO w' B vs L o' a := ⟨h.1, fun k hk => by
  obtain ⟨u, h1, h2, h3, h4⟩ := h.2 k hk
  exact ⟨u, h1, h2.kept hg h3, h2.ap h3 hm, h4⟩⟩
/-- The second one grew. -/
theorem RvO.growA {w w' : World} {B : Nat} {vs : List Value} {L : List (List Tx)} {o a a' : Value} (h : RvO w B vs L o a) (hg : w.grownBy w' a.ownBlock) (hm : Moved w a a') : RvO w' B vs L o a' := ⟨h.1, fun k hk => by
  obtain ⟨u, h1, h2, h3, h4⟩ := h.2 k hk
  exact ⟨u, h1, h2.kept hg h4, h3, h2.ap h4 hm⟩⟩
/-- One more row. -/
theorem RvO.more {w : World} {B : Nat} {vs : List Value} {L : List (List Tx)} {o a : Value} (h : RvO w B vs L o a) {u : Value} {c : List Tx} (hu : TxR w B u c) (h1 : Ap u o) (h2 : Ap u a) : RvO w B (vs ++ [u]) (L ++ [c]) o a := by
  refine ⟨by rw [List.length_append, List.length_append, h.1]; rfl, fun k hk => ?_⟩
  rw [List.length_append, List.length_singleton] at hk
  by_cases hl : k < L.length
  · obtain ⟨u', e1, e2⟩ := h.2 k hl
    refine ⟨u', ?_, ?_⟩
    · rw [List.getElem?_append_left (by rw [h.1]; omega)]; exact e1
    · rw [List.getD_eq_getElem?_getD, List.getElem?_append_left hl, ← List.getD_eq_getElem?_getD]; exact e2
  · obtain rfl : k = L.length := by omega
    refine ⟨u, ?_, ?_⟩
    · rw [List.getElem?_append_right (by rw [h.1]; omega), h.1, Nat.sub_self]; rfl
    · rw [List.getD_eq_getElem?_getD, List.getElem?_append_right (Nat.le_refl _), Nat.sub_self]
      exact ⟨hu, h1, h2⟩
/-- None of the rows is a third one, either. -/
def OffV (vs : List Value) (c : Value) : Prop := ∀ u ∈ vs, Ap u c
theorem RvO.growC {w w' : World} {B : Nat} {vs : List Value} {L : List (List Tx)} {o a c : Value} (h : RvO w B vs L o a) (hg : w.grownBy w' c.ownBlock) (hc : OffV vs c) : RvO w' B vs L o a := ⟨h.1, fun k hk => by
  obtain ⟨u, h1, h2, h3⟩ := h.2 k hk
  exact ⟨u, h1, h2.kept hg (hc u (List.mem_of_getElem? h1)), h3⟩⟩
theorem RvO.offNext {w : World} {B : Nat} {vs : List Value} {L : List (List Tx)} {o a c c' : Value} (h : RvO w B vs L o a) (hc : OffV vs c) (hm : Moved w c c') : OffV vs c' := fun u hu => by
  obtain ⟨k, hk, e⟩ := List.getElem_of_mem hu
  obtain ⟨u', h1, h2, _⟩ := h.2 k (by rw [← h.1]; exact hk)
  rw [List.getElem?_eq_getElem hk, e] at h1
  cases h1
  exact h2.ap (hc u hu) hm
theorem RvO.offNew {w : World} {B : Nat} {vs : List Value} {L : List (List Tx)} {o a v : Value} (h : RvO w B vs L o a) (hv : ∀ b, v.ownBlock = some b → w.heap.size ≤ b) : OffV vs v := fun u hu => by
  obtain ⟨k, hk, e⟩ := List.getElem_of_mem hu
  obtain ⟨u', h1, h2, _⟩ := h.2 k (by rw [← h.1]; exact hk)
  rw [List.getElem?_eq_getElem hk, e] at h1
  cases h1
  exact (h2.new hv).1
theorem RvO.rv {w : World} {B : Nat} {vs : List Value} {L : List (List Tx)} {o a : Value} (h : RvO w B vs L o a) : RvAt w w.heap.size vs L := ⟨h.1, fun k hk => by
  obtain ⟨u, h1, h2, _⟩ := h.2 k hk
  exact ⟨u, h1, h2.sr⟩⟩
end Go.Proofs.YtgmbkelmgolkpaaDoor
/- What holds as the document's Parse goes through lines and words. -/
namespace Go.Proofs.YtgmbkelmgolkpaaDoor
open Go.RowKit Go.Maps
set_option linter.unusedVariables false

theorem un_boolP {b : Bool} (h : some undef = some (Value.bool b)) : False := by simp [undef] at h
/-- The rules, with the document's numbers, of a text. -/
def dgR (x : Tx) : List (Nat × List Int) := (parsL x).map (dnF (teS (parsL x)) (otS (parsL x)))
def RpIs (x : Tx) (w w' : World) (e : Ending) : Prop := ((prR x).2 ≠ 0 → e = .returned (.tuple #[.pointer none, .int .i64 (prR x).1, .int .i64 (prR x).2])) ∧ ((prR x).2 = 0 → ∃ p, e = .returned (.tuple #[.pointer (some ⟨p, 0, none⟩), .int .i64 0, .int .i64 0]) ∧ w.heap.size ≤ p ∧ RgAt w' p (teS (parsL x)) (otS (parsL x)) (dgR x) (atS (otS (parsL x)) (stS (parsL x)))) ∧ Below w.heap.size w w'
/-- What the walk through the lines holds. -/
structure Lns (w1 wr : World) (ls : List Tx) (k : Nat) (vr vo va : Value) : Prop where
  good : ∀ j, j < k → goodL ls j = true
  rows : ∃ vs, wr.ownsRow w1.heap.size 35 1 vr (rdTo ls k).length vs ∧ RvO wr w1.heap.size vs (rdTo ls k) vo va
  oth : TxR wr w1.heap.size vo (obTo ls k)
  all : ∃ AL, TxR wr w1.heap.size va AL ∧ AL.length ≤ 1048576 * k
  ap1 : Ap vo va
  ap2 : Ap va vo
  bel : Below w1.heap.size w1 wr
theorem Lns.next {w1 wr w2 : World} {ls : List Tx} {k : Nat} {vr vo va : Value} (h : Lns w1 wr ls k vr vo va) (hb : Below wr.heap.size wr w2) : Lns w1 w2 ls k vr vo va := by
  obtain ⟨vs, h1, h2⟩ := h.rows
  obtain ⟨AL, h3, h4⟩ := h.all
  exact ⟨h.good, ⟨vs, row_below h1 hb, h2.next hb⟩, h.oth.next hb, ⟨AL, h3.next hb, h4⟩, h.ap1, h.ap2, Below.next h.bel hb⟩
theorem Lns.skip {w1 wr : World} {ls : List Tx} {k : Nat} {vr vo va : Value} (h : Lns w1 wr ls k vr vo va) (hs : skipS (fldS (ls.getD k [])) = true) : Lns w1 wr ls (k + 1) vr vo va := by
  have e1 : rdTo ls (k + 1) = rdTo ls k := by rw [rdTo, if_pos hs]
  have e2 : obTo ls (k + 1) = obTo ls k := by rw [obTo, if_pos hs]
  obtain ⟨AL, h3, h4⟩ := h.all
  refine ⟨fun j hj => ?_, by rw [e1]; exact h.rows, by rw [e2]; exact h.oth, ⟨AL, h3, by omega⟩, h.ap1, h.ap2, h.bel⟩
  rcases Nat.lt_or_ge j k with hl | hl
  · exact h.good j hl
  · obtain rfl : j = k := by omega
    unfold goodL; rw [hs]; rfl
theorem tx_nil (w : World) (B : Nat) : TxR w B (.slice none 0 0) [] := ⟨rfl, .inl ⟨rfl, rfl⟩⟩
theorem ap_none (v : Value) (a b : Nat) : Ap (.slice none a b) v := .inl rfl
/-- Behind the line's first name. -/
structure Mid (w1 wx : World) (ls ws : List Tx) (k : Nat) (vr vo va vW : Value) : Prop where
  rows : ∃ vs, wx.ownsRow w1.heap.size 35 1 vr (rdTo ls k).length vs ∧ RvO wx w1.heap.size vs (rdTo ls k) vo va
  oth : TxR wx w1.heap.size vo (obTo ls (k + 1))
  all : ∃ AL, TxR wx w1.heap.size va AL ∧ AL.length ≤ 1048576 * k
  ap1 : Ap vo va
  ap2 : Ap va vo
  wrd : TxR wx w1.heap.size vW ws
  apw : Ap vW va
  bel : Below w1.heap.size w1 wx
theorem Mid.same {w1 wx : World} {ls ws : List Tx} {k : Nat} {vr vo va vW : Value} (h : Lns w1 wx ls k vr vo va) (hs : skipS (fldS (ls.getD k [])) = false) (hm : (fldS (ls.getD k [])).getD 0 [] ∈ obTo ls k) (hw : TxR wx w1.heap.size vW ws) (ha : Ap vW va) : Mid w1 wx ls ws k vr vo va vW := by
  refine ⟨h.rows, ?_, h.all, h.ap1, h.ap2, hw, ha, h.bel⟩
  rw [obTo, hs, if_neg (by simp), ins_old hm]
  exact h.oth
theorem Mid.grow {w1 wx w' : World} {ls ws : List Tx} {k : Nat} {vr vo vo' va vW : Value} (h : Lns w1 wx ls k vr vo va) (hs : skipS (fldS (ls.getD k [])) = false) (hm : (fldS (ls.getD k [])).getD 0 [] ∉ obTo ls k) (hw : TxR wx w1.heap.size vW ws) (ha : Ap vW va) (hwo : Ap vW vo)
    (ho : w'.ownsRow w1.heap.size 9 1 vo' ((obTo ls k).length + 1) ((obTo ls k).map encT ++ [encT ((fldS (ls.getD k [])).getD 0 [])])) (hg : wx.grownBy w' vo.ownBlock) (hv : Moved wx vo vo') (hb : Below w1.heap.size wx w') : Mid w1 w' ls ws k vr vo' va vW := by
  obtain ⟨vs, h1, h2⟩ := h.rows
  obtain ⟨AL, h3, h4⟩ := h.all
  refine ⟨⟨vs, ?_, h2.growO hg hv⟩, ?_, ⟨AL, h3.kept hg h.ap2, h4⟩, hv.ap h3 h.ap1, h3.ap h.ap2 hv, hw.kept hg hwo, ha, h.bel.trans hb⟩
  · exact Kept.row h1 (kept_of_grown h.oth hg) (by decide)
  · rw [obTo, hs, if_neg (by simp), insL, if_neg (fun hc => hm (List.contains_iff_mem.1 hc))]
    unfold TxR
    rw [List.length_append, List.length_singleton, List.map_append]
    exact ho
theorem ob_len (ls : List Tx) : ∀ k, (obTo ls k).length ≤ k
  | 0 => Nat.le_refl _
  | k + 1 => by
    have := ob_len ls k
    rw [obTo]
    split
    · omega
    · unfold insL; split
      · omega
      · rw [List.length_append, List.length_singleton]; omega
/-- Within a line's words. -/
structure Wdi (w1 wi : World) (ls ws : List Tx) (k q nb : Nat) (vr vo va vW vC : Value) : Prop where
  rows : ∃ vs, wi.ownsRow w1.heap.size 35 1 vr (rdTo ls k ++ (alTo ws (q - 2)).1).length vs ∧ RvO wi w1.heap.size vs (rdTo ls k ++ (alTo ws (q - 2)).1) vo va ∧ OffV vs vC
  oth : TxR wi w1.heap.size vo (obTo ls (k + 1))
  all : ∃ AL, TxR wi w1.heap.size va AL ∧ AL.length ≤ nb
  cur : TxR wi w1.heap.size vC (alTo ws (q - 2)).2
  wrd : TxR wi w1.heap.size vW ws
  ap1 : Ap vo va
  ap2 : Ap va vo
  c1 : Ap vC vo
  c2 : Ap vC va
  c3 : Ap vo vC
  c4 : Ap va vC
  w1' : Ap vW va
  w2' : Ap vW vC
  bel : Below w1.heap.size w1 wi
  nam : ∀ t, 2 ≤ t → t < q → ws.getD t [] = tOr ∨ nmS (ws.getD t []) = true
theorem Wdi.next {w1 wi w' : World} {ls ws : List Tx} {k q nb : Nat} {vr vo va vW vC : Value} (h : Wdi w1 wi ls ws k q nb vr vo va vW vC) (hb : Below wi.heap.size wi w') : Wdi w1 w' ls ws k q nb vr vo va vW vC := by
  obtain ⟨vs, h1, h2, h3⟩ := h.rows
  obtain ⟨AL, h4, h5⟩ := h.all
  exact ⟨⟨vs, row_below h1 hb, h2.next hb, h3⟩, h.oth.next hb, ⟨AL, h4.next hb, h5⟩, h.cur.next hb, h.wrd.next hb, h.ap1, h.ap2, h.c1, h.c2, h.c3, h.c4, h.w1', h.w2', Below.next h.bel hb, h.nam⟩
theorem Wdi.more {w1 wi : World} {ls ws : List Tx} {k q nb nb' : Nat} {vr vo va vW vC : Value} (h : Wdi w1 wi ls ws k q nb vr vo va vW vC) (hb : nb ≤ nb') : Wdi w1 wi ls ws k q nb' vr vo va vW vC := by
  obtain ⟨AL, h4, h5⟩ := h.all
  exact ⟨h.rows, h.oth, ⟨AL, h4, by omega⟩, h.cur, h.wrd, h.ap1, h.ap2, h.c1, h.c2, h.c3, h.c4, h.w1', h.w2', h.bel, h.nam⟩
/-- A new row of one text. -/
theorem tx_one (w : World) (x : Tx) {B : Nat} (hB : B ≤ w.heap.size) : TxR (w.alloc (.cells #[.string (bA x)] (9 : TypeId))) B (.slice (some ⟨w.heap.size, 0, none⟩) 1 1) [x] :=
  ⟨rfl, .inr ⟨w.heap.size, 1, #[.string (bA x)], rfl, hB, heap_alloc_new _ _, Nat.le_refl _, by unfold maxLen; decide, rfl, rfl⟩⟩
theorem new_rwO (w : World) : ∀ b, (Value.slice (some ⟨w.heap.size, 0, none⟩) 1 1).ownBlock = some b → w.heap.size ≤ b := fun b h => by
  cases h; exact Nat.le_refl _
theorem Wdi.start {w1 wc : World} {ls ws : List Tx} {k : Nat} {vr vo va vW : Value} (h : Mid w1 wc ls ws k vr vo va vW) : Wdi w1 (wc.alloc (.cells #[.string (bA (ws.getD 0 []))] (9 : TypeId))) ls ws k 2 (1048576 * k) vr vo va vW (.slice (some ⟨wc.heap.size, 0, none⟩) 1 1) := by
  have hb : Below wc.heap.size wc (wc.alloc (.cells #[.string (bA (ws.getD 0 []))] (9 : TypeId))) := (Below.refl _ _).alloc (Nat.le_refl _) _
  obtain ⟨vs, h1, h2⟩ := h.rows
  obtain ⟨AL, h4, h5⟩ := h.all
  have hn := new_rwO wc
  exact ⟨⟨vs, by rw [show (alTo ws (2 - 2)).1 = [] from rfl, List.append_nil]; exact row_below h1 hb, by rw [show (alTo ws (2 - 2)).1 = [] from rfl, List.append_nil]; exact h2.next hb, h2.offNew hn⟩, h.oth.next hb, ⟨AL, h4.next hb, h5⟩, tx_one wc _ h.bel.size, h.wrd.next hb, h.ap1, h.ap2, (h.oth.new hn).2, (h4.new hn).2, (h.oth.new hn).1, (h4.new hn).1, h.apw, (h.wrd.new hn).1, Below.next h.bel hb, fun t h1 h2 => absurd h2 (by omega)⟩
/-- A name behind the one that is not ended. -/
theorem Wdi.one {w1 wi w' : World} {ls ws : List Tx} {k q nb : Nat} {vr vo va vW vC vC' : Value} (h : Wdi w1 wi ls ws k q nb vr vo va vW vC) (hq : 2 ≤ q) (hne : ws.getD q [] ≠ tOr) (hnm : nmS (ws.getD q []) = true)
    (ho : w'.ownsRow w1.heap.size 9 1 vC' ((alTo ws (q - 2)).2.length + 1) ((alTo ws (q - 2)).2.map encT ++ [encT (ws.getD q [])])) (hg : wi.grownBy w' vC.ownBlock) (hv : Moved wi vC vC') (hb : Below w1.heap.size wi w') : Wdi w1 w' ls ws k (q + 1) nb vr vo va vW vC' := by
  obtain ⟨vs, h1, h2, h3⟩ := h.rows
  obtain ⟨AL, h4, h5⟩ := h.all
  have ea : alTo ws (q + 1 - 2) = ((alTo ws (q - 2)).1, (alTo ws (q - 2)).2 ++ [ws.getD q []]) := by
    rw [show q + 1 - 2 = (q - 2) + 1 by omega, alTo, if_neg (fun e => hne (by rw [← beq_iff_eq.1 e, show 2 + (q - 2) = q by omega])), show 2 + (q - 2) = q by omega]
  refine ⟨⟨vs, ?_, ?_, h2.offNext h3 hv⟩, h.oth.kept hg h.c3, ⟨AL, h4.kept hg h.c4, h5⟩, ?_, h.wrd.kept hg h.w2', h.ap1, h.ap2, hv.ap h.oth h.c1, hv.ap h4 h.c2, h.oth.ap h.c3 hv, h4.ap h.c4 hv, h.w1', h.wrd.ap h.w2' hv, h.bel.trans hb, fun t h1 h2 => ?_⟩
  · rw [ea]; exact Kept.row h1 (kept_of_grown h.cur hg) (by decide)
  · rw [ea]; exact h2.growC hg h3
  · rw [ea]
    unfold TxR
    rw [List.length_append, List.length_singleton, List.map_append]
    exact ho
  · rcases Nat.lt_or_ge t q with hl | hl
    · exact h.nam t h1 hl
    · obtain rfl : t = q := by omega
      exact .inr hnm
/-- A name behind all. -/
theorem Wdi.put {w1 wi w' : World} {ls ws : List Tx} {k q nb : Nat} {vr vo va va' vW vC : Value} (h : Wdi w1 wi ls ws k q nb vr vo va vW vC) {AL AM : List Tx} (ha : TxR wi w1.heap.size va AL) (hm : AM.length ≤ nb + 1)
    (ho : TxR w' w1.heap.size va' AM) (hg : wi.grownBy w' va.ownBlock) (hv : Moved wi va va') (hb : Below w1.heap.size wi w') : Wdi w1 w' ls ws k q (nb + 1) vr vo va' vW vC := by
  obtain ⟨vs, h1, h2, h3⟩ := h.rows
  exact ⟨⟨vs, Kept.row h1 (kept_of_grown ha hg) (by decide), h2.growA hg hv, h3⟩, h.oth.kept hg h.ap1, ⟨AM, ho, hm⟩, h.cur.kept hg h.c2, h.wrd.kept hg h.w1', h.oth.ap h.ap1 hv, hv.ap h.oth h.ap2, h.c1, h.cur.ap h.c2 hv, h.c3, hv.ap h.cur h.c4, h.wrd.ap h.w1' hv, h.w2', h.bel.trans hb, h.nam⟩
/-- A mark ends a rule. -/
theorem Wdi.bar {w1 wi w' : World} {ls ws : List Tx} {k q nb : Nat} {vr vr' vo va vW vC : Value} (h : Wdi w1 wi ls ws k q nb vr vo va vW vC) (hq : 2 ≤ q) (he : ws.getD q [] = tOr) {vs : List Value} (hR : RvO wi w1.heap.size vs (rdTo ls k ++ (alTo ws (q - 2)).1) vo va)
    (ho : w'.ownsRow w1.heap.size 35 1 vr' ((rdTo ls k ++ (alTo ws (q - 2)).1).length + 1) (vs ++ [vC])) (hk : Kept 35 wi w') (hs : wi.heap.size ≤ w'.heap.size) (hb : Below w1.heap.size wi w') :
    Wdi w1 (w'.alloc (.cells #[.string (bA (ws.getD 0 []))] (9 : TypeId))) ls ws k (q + 1) nb vr' vo va vW (.slice (some ⟨w'.heap.size, 0, none⟩) 1 1) := by
  have hbn : Below w'.heap.size w' (w'.alloc (.cells #[.string (bA (ws.getD 0 []))] (9 : TypeId))) := (Below.refl _ _).alloc (Nat.le_refl _) _
  have hn := new_rwO w'
  obtain ⟨AL, h4, h5⟩ := h.all
  have ea : alTo ws (q + 1 - 2) = ((alTo ws (q - 2)).1 ++ [(alTo ws (q - 2)).2], [ws.getD 0 []]) := by
    rw [show q + 1 - 2 = (q - 2) + 1 by omega, alTo, if_pos (beq_iff_eq.2 (by rw [show 2 + (q - 2) = q by omega]; exact he))]
  have hR2 : RvO w' w1.heap.size (vs ++ [vC]) (rdTo ls k ++ (alTo ws (q + 1 - 2)).1) vo va := by
    rw [ea, ← List.append_assoc]
    exact (hR.stay hk).more (h.cur.stay hk) h.c1 h.c2
  have hl2 : (rdTo ls k ++ (alTo ws (q + 1 - 2)).1).length = (rdTo ls k ++ (alTo ws (q - 2)).1).length + 1 := by
    rw [ea, ← List.append_assoc, List.length_append, List.length_singleton]
  have o2 := h.oth.stay hk
  have a2 := h4.stay hk
  have w2 := h.wrd.stay hk
  refine ⟨⟨vs ++ [vC], by rw [hl2]; exact row_below ho hbn, hR2.next hbn, hR2.offNew hn⟩, o2.next hbn, ⟨AL, a2.next hbn, h5⟩, by rw [ea]; exact tx_one w' _ (Nat.le_trans h.bel.size hs), w2.next hbn, h.ap1, h.ap2, (o2.new hn).2, (a2.new hn).2, (o2.new hn).1, (a2.new hn).1, h.w1', (w2.new hn).1, Below.next (h.bel.trans hb) hbn, fun t h1 h2 => ?_⟩
  rcases Nat.lt_or_ge t q with hl | hl
  · exact h.nam t h1 hl
  · obtain rfl : t = q := by omega
    exact .inl he
/-- The line is done. -/
theorem Wdi.done {w1 wi w' : World} {ls ws : List Tx} {k q nb : Nat} {vr vr' vo va vW vC : Value} (h : Wdi w1 wi ls ws k q nb vr vo va vW vC) (hq : q = ws.length) (hws : fldS (ls.getD k []) = ws) (hs0 : skipS ws = false) (hln : lnS ws = true) (hg : ∀ j, j < k → goodL ls j = true) (hnb : nb ≤ 1048576 * (k + 1)) {vs : List Value} (hR : RvO wi w1.heap.size vs (rdTo ls k ++ (alTo ws (q - 2)).1) vo va)
    (ho : w'.ownsRow w1.heap.size 35 1 vr' ((rdTo ls k ++ (alTo ws (q - 2)).1).length + 1) (vs ++ [vC])) (hk : Kept 35 wi w') (hb : Below w1.heap.size wi w') : Lns w1 w' ls (k + 1) vr' vo va := by
  obtain ⟨AL, h4, h5⟩ := h.all
  have er : rdTo ls (k + 1) = (rdTo ls k ++ (alTo ws (q - 2)).1) ++ [(alTo ws (q - 2)).2] := by
    rw [rdTo, hws, hs0, if_neg (by simp), alS, ← hq, List.append_assoc]
  refine ⟨fun j hj => ?_, ⟨vs ++ [vC], ?_, ?_⟩, h.oth.stay hk, ⟨AL, h4.stay hk, by omega⟩, h.ap1, h.ap2, h.bel.trans hb⟩
  · rcases Nat.lt_or_ge j k with hl | hl
    · exact hg j hl
    · obtain rfl : j = k := by omega
      unfold goodL; rw [hws, hln]; simp
  · rw [er, List.length_append, List.length_singleton]; exact ho
  · rw [er]; exact (hR.stay hk).more (h.cur.stay hk) h.c1 h.c2
theorem ob_first (ls : List Tx) : ∀ k, 1 ≤ (rdTo ls k).length → (obTo ls k).getD 0 [] = stS (rdTo ls k) ∧ 0 < (obTo ls k).length
  | 0, h => by simp [rdTo] at h
  | k + 1, h => by
    rw [rdTo] at h ⊢
    rw [obTo]
    by_cases hs : skipS (fldS (ls.getD k [])) = true
    · rw [if_pos hs] at h ⊢
      rw [if_pos hs]
      exact ob_first ls k h
    · rw [if_neg hs] at h ⊢
      rw [if_neg hs]
      by_cases hl : 1 ≤ (rdTo ls k).length
      · obtain ⟨h1, h2⟩ := ob_first ls k hl
        have e : (insL (obTo ls k) ((fldS (ls.getD k [])).getD 0 [])).getD 0 [] = (obTo ls k).getD 0 [] := by
          unfold insL
          split
          · rfl
          · rw [List.getD_eq_getElem?_getD, List.getElem?_append_left h2, ← List.getD_eq_getElem?_getD]
        refine ⟨?_, ?_⟩
        · rw [e, h1]
          unfold stS
          rw [List.getD_eq_getElem?_getD (l := rdTo ls k ++ _), List.getElem?_append_left hl, ← List.getD_eq_getElem?_getD]
        · unfold insL; split
          · exact h2
          · rw [List.length_append]; omega
      · have e0 : rdTo ls k = [] := List.eq_nil_of_length_eq_zero (by omega)
        have eo : obTo ls k = [] := by
          cases ho : obTo ls k with
          | nil => rfl
          | cons a l =>
            have := (ob_mem ls a k).1 (by rw [ho]; exact List.mem_cons_self)
            rw [e0] at this
            cases this
        rw [e0, eo, List.nil_append]
        refine ⟨?_, by unfold insL; simp⟩
        obtain ⟨r, l, hr⟩ : ∃ r l, alS (fldS (ls.getD k [])) = r :: l := List.exists_cons_of_ne_nil (alS_ne _)
        have := alS_left (fldS (ls.getD k [])) r (by rw [hr]; exact List.mem_cons_self)
        unfold stS insL
        rw [hr]
        simp only [List.contains_nil, Bool.false_eq_true, if_false, List.nil_append]
        show _ = r.getD 0 []
        rw [this]; rfl
theorem tx_cells {w : World} {b nw c : Nat} {a : Option Addr} {ws : List Tx} (h : w.ownsRow b 9 1 (.slice a nw c) nw (ws.map encT)) (hn : ws.length = nw) (h0 : 0 < nw) : ∃ g, a = some ⟨g, 0, none⟩ ∧ b ≤ g ∧ g < w.heap.size ∧ ∀ q, q < nw → w.cell? ⟨g, q, none⟩ = some (.string (bA (ws.getD q []))) := by
  rcases h.2 with ⟨e, e0⟩ | ⟨g, cap, cur, e, hb, hg, _⟩
  · omega
  · cases e
    refine ⟨g, rfl, hb, row_lt hg, fun q hq => ?_⟩
    have := h.cells (g := g) rfl q (encT (ws.getD q [])) (by rw [List.getElem?_map, List.getElem?_eq_getElem (by omega), List.getD_eq_getElem?_getD, List.getElem?_eq_getElem (by omega)]; rfl)
    rw [Addr.add_lit, Nat.zero_add] at this
    exact this
theorem pr_bad {x : Tx} {ls : List Tx} (hls : lnsS x = ls) {k : Nat} (hk : k < ls.length) (h : ∀ j, j < k → goodL ls j = true) (hb : goodL ls k = false) : prG x = false ∧ prK x = k := by
  subst hls
  exact prK_at hk h hb
end Go.Proofs.YtgmbkelmgolkpaaDoor
/- What the document's Parse answers. -/
namespace Go.Proofs.YtgmbkelmgolkpaaDoor
open Go.RowKit Go.Maps
set_option linter.unusedVariables false

set_option maxRecDepth 100000 in
set_option maxHeartbeats 12800000 in
theorem refParse_any (x : Tx) (hx : x.length ≤ maxLen) (w : World) : Calls Tryd.prog 10 #[encT x] w fun e w' => RpIs x w w' e := by
  have hsz := ba_size x
  have HR : Hid (prR x = if 1048576 < x.length then (0, 3) else if prG x then (if prE x = 0 then (0, 0) else (((lnsS x).length : Int), prE x)) else ((prK x : Int), 130)) := rfl
  unfold maxLen at hx
  unfold encT
  by_cases hbig : 1048576 < x.length
  · rw [if_pos hbig] at HR
    have hbi : (1048576 : Int) < ((bA x).size : Int) := by rw [hsz]; omega
    have hb2 : (bA x).size ≤ 9223372036854775807 := by rw [hsz]; omega
    clear hsz hbig
    generalize bA x = b at *
    go_enter Tryd.func10, Tryd.ntmps10
    go_wp2_with fail
    refine bodyPost_ret (v := .tuple #[.pointer none, .int .i64 0, .int .i64 3]) (by simp [results, Tryd.results10, go_sem]) rfl ?_
    exact ⟨fun _ => by rw [HR.out], fun h => (by rw [HR.out] at h; cases h), Below.refl _ _⟩
  · rw [if_neg hbig] at HR
    have hbi : ¬ (1048576 : Int) < ((bA x).size : Int) := by rw [hsz]; omega
    have hb2 : (bA x).size ≤ 9223372036854775807 := by rw [hsz]; omega
    have HLC : Hid (Calls Tryd.prog 43 #[.string (bA x)] w fun e w' => ∃ u, e = .returned u ∧ w'.ownsRow w.heap.size 9 1 u (lnsS x).length ((lnsS x).map encT) ∧ Below w.heap.size w w') := by
      have := refLines_any x (by omega) w
      rw [dln_eq] at this
      exact this
    have HWD : Hid (∀ (l : Tx) (w' : World), l.length ≤ 1048576 → Calls Tryd.prog 44 #[encT l] w' fun e w2 => ∃ u, e = .returned u ∧ w2.ownsRow w'.heap.size 9 1 u (fldS l).length ((fldS l).map encT) ∧ Below w'.heap.size w' w2) := fun l w' hl => by
      have := refWords_any l hl w'
      rw [dwd_eq] at this
      exact this
    have HLN : Hid (∀ k, ((lnsS x).getD k []).length ≤ 1048576) := fun k => by
      by_cases hk : k < (lnsS x).length
      · have := lns_le x _ (getD_mem hk); omega
      · rw [List.getD_eq_getElem?_getD, List.getElem?_eq_none (by omega)]; exact Nat.zero_le _
    have hlm : (lnsS x).length ≤ 1048577 := by have := (lns_len x).2; omega
    have HWE : Hid (Below w.heap.size w w) := Below.refl _ _
    generalize hls : lnsS x = ls at *
    have HLS := hidD hls
    clear hls
    generalize hm : ls.length = m at *
    have HM := hidD hm
    clear hm hsz hbig hx
    generalize bA x = bx at *
    go_enter Tryd.func10, Tryd.ntmps10
    go_wp2_with (go_at_call 43; refine HLC.out.mono ?_; rintro e w1 ⟨ul, rfl, hol, hb1⟩; obtain ⟨al, cl, hul⟩ := row_shape hol; subst hul; have HSL := hidD (sr_of_own (ss := ls) hol HM.out.symm); have HB1 := hidD hb1; clear hol hb1)
    clear HLC
    go_loopw [6, 7, 8, 9, 10, 11, 12] (fun vr vo va i _ _ _ wr => ∃ k : Nat, k ≤ m ∧ i = .int .i64 (k : Int) ∧ Lns w1 wr ls k vr vo va) (fun _ _ _ i _ _ _ _ => m - (intOf i).toNat)
    case atStart => exact ⟨0, Nat.zero_le _, rfl, ⟨fun j hj => absurd hj (by omega), ⟨[], World.ownsRow_nil _ _ _ _, RvO.nil _ _ _ _⟩, tx_nil _ _, ⟨[], tx_nil _ _, Nat.zero_le _⟩, ap_none _ _ _, ap_none _ _ _, Below.refl _ _⟩⟩
    case round =>
      obtain ⟨k, hk, rfl, hlns⟩ := hrel
      have HLS2 := hidD hlns
      clear hlns
      by_cases hlt : k < m
      · have hlti : (k : Int) < (m : Int) := by omega
        obtain ⟨g, o, rfl, hg, _, f0⟩ := (HSL.out.below HLS2.out.bel (Nat.le_refl _)).cell (k := k) (by rw [HM.out]; exact hlt)
        have HW := hidD (HWD.out (ls.getD k []) wr (HLN.out k))
        have HWO := hidD (fld_one (ls.getD k []))
        have hwl := fld_len (ls.getD k [])
        have hll := HLN.out k
        have HSKP := hidD (HLS2.out.skip)
        unfold encT at f0
        have HW2 : Hid (Calls Tryd.prog 44 #[.string (bA (ls.getD k []))] wr fun e w2 => ∃ u, e = .returned u ∧ w2.ownsRow wr.heap.size 9 1 u (fldS (ls.getD k [])).length ((fldS (ls.getD k [])).map encT) ∧ Below wr.heap.size wr w2) := HW.out
        clear HW
        generalize bA (ls.getD k []) = lb at *
        generalize hws : fldS (ls.getD k []) = ws at *
        have HWS := hidD hws
        clear hws
        generalize hnw : ws.length = nw at *
        have HNW := hidD hnw
        clear hnw
        by_cases hz : nw = 0
        · have hS : skipS ws = true := skip_empty (by rw [HNW.out]; exact hz)
          have HN := hidD (HSKP.out hS)
          subst hz
          clear hS
          go_wp2_with (go_at_call 44; refine HW2.out.mono ?_; rintro e w2 ⟨u, rfl, hou, hb2⟩; obtain ⟨a4, c4, h4⟩ := row_shape hou; subst h4; have HB2 := hidD hb2; clear hb2 hou)
          all_goals first | exact (un_boolP (by assumption)).elim | skip
          go_roundw
          case rel => exact ⟨k + 1, by omega, by go_num, HN.out.next HB2.out⟩
          case measure => simp [intOf]; omega
        · have hw0 := (HWO.out (ws.getD 0 []) (getD_mem (by rw [HNW.out]; omega))).1
          have h0s : 0 < (bA (ws.getD 0 [])).size := by rw [ba_size]; exact hw0
          have HG0 := hidD (ba_get (ws.getD 0 []) 0 h0s)
          have hnz : ¬ (nw : Int) = 0 := by omega
          have hnb : ((nw : Int) == 0) = false := beq_eq_false_iff_ne.2 hnz
          have h0n : (0 : Int) < (nw : Int) := by omega
          have HSS := hidD (skip_some (ws := ws) (by rw [HNW.out]; omega))
          have HWT : Hid (∀ q, (ws.getD q []).length ≤ maxLen) := fun q => by
            unfold maxLen
            by_cases hq : q < ws.length
            · have := (HWO.out _ (getD_mem hq)).2; omega
            · rw [List.getD_eq_getElem?_getD, List.getElem?_eq_none (by omega)]; exact Nat.zero_le _
          have HE0 : Hid (∀ (w' : World) (b n : Nat) (a : Option Addr) (c : Nat), w'.ownsRow b 9 1 (.slice a nw c) nw (ws.map encT) → ∃ g, a = some ⟨g, 0, none⟩ ∧ b ≤ g ∧ g < w'.heap.size ∧ ∀ q, q < nw → w'.cell? ⟨g, q, none⟩ = some (.string (bA (ws.getD q [])))) := fun w' b n a c h => tx_cells h HNW.out (by omega)
          have HNM : Hid (∀ w', Calls Tryd.prog 45 #[.string (bA (ws.getD 0 []))] w' fun e w2 => e = .returned (.bool (nmS (ws.getD 0 []))) ∧ w2 = w') := fun w' => refName_any _ w' (HWT.out 0)
          have HGK : Hid (goodL ls k = (skipS ws || lnS ws)) := by show _ = _; unfold goodL; rw [HWS.out]
          have HLD : Hid (lnS ws = (decide (2 ≤ ws.length) && nmS (ws.getD 0 []) && (ws.getD 1 [] == tArr) && (ws.drop 2).all (fun x => x == tOr || nmS x))) := rfl
          have HBAD : Hid (goodL ls k = false → prR x = ((k : Int), 130)) := fun hb => by
            obtain ⟨h1, h2⟩ := pr_bad HLS.out (by rw [HM.out]; exact hlt) HLS2.out.good hb
            rw [HR.out, h1, h2]; rfl
          by_cases h35 : (bA (ws.getD 0 []))[0] = 35
          · have hS : skipS ws = true := by rw [HSS.out, ← HG0.out, h35]; rfl
            have HN := hidD (HSKP.out hS)
            have ht : ((bA (ws.getD 0 []))[0].toNat : Int) = 35 := by rw [h35]; rfl
            clear hS hwl HNM HBAD HGK HLD HG0 h35
            generalize hb0 : bA (ws.getD 0 []) = b0 at *
            have HB0 := hidD hb0
            clear hb0
            go_wp2_with (go_at_call 44; refine HW2.out.mono ?_; rintro e w2 ⟨u, rfl, hou, hb2⟩; obtain ⟨a4, c4, h4⟩ := row_shape hou; subst h4; have HB2 := hidD hb2; obtain ⟨g4, rfl, _, _, f4q⟩ := HE0.out _ _ 0 _ _ hou; have f4 : w2.cell? ⟨g4, 0, none⟩ = some (.string b0) := (by rw [← HB0.out]; exact f4q 0 (by omega)); clear hb2 hou f4q)
            all_goals first | exact (un_boolP (by assumption)).elim | skip
            go_roundw
            case rel => exact ⟨k + 1, by omega, by go_num, HN.out.next HB2.out⟩
            case measure => simp [intOf]; omega
          · have hS : skipS ws = false := by rw [HSS.out, ← HG0.out]; exact beq_eq_false_iff_ne.2 h35
            have ht : ¬ ((bA (ws.getD 0 []))[0].toNat : Int) = 35 := fun hc => h35 (by
              have : (bA (ws.getD 0 []))[0].toNat = 35 := by omega
              exact UInt8.toNat_inj.1 this)
            have htb : (((bA (ws.getD 0 []))[0].toNat : Int) == 35) = false := beq_eq_false_iff_ne.2 ht
            rw [hS, Bool.false_or] at HGK
            clear HG0 h35 HSKP
            have hq1 : 1 < nw → ((bA (ws.getD 1 [])).toList == [45, 62]) = (ws.getD 1 [] == tArr) := fun _ => by rw [ba_list]; rfl
            have HQ1 := hidD hq1
            clear hq1
            generalize hb0 : bA (ws.getD 0 []) = b0 at *
            have HB0 := hidD hb0
            clear hb0
            cases hN0 : nmS (ws.getD 0 [])
            · have hpr := HBAD.out (by rw [HGK.out, HLD.out, hN0]; simp)
              have HPR := hidD hpr
              rw [hN0] at HNM
              clear hpr HBAD HGK HLD hS
              go_wp2_with (first | (go_at_call 45; refine (HNM.out _).mono ?_; rintro e w3 ⟨rfl, rfl⟩) | (go_at_call 44; refine HW2.out.mono ?_; rintro e w2 ⟨u, rfl, hou, hb2⟩; obtain ⟨a4, c4, h4⟩ := row_shape hou; subst h4; have HB2 := hidD hb2; obtain ⟨g4, rfl, _, _, f4q⟩ := HE0.out _ _ 0 _ _ hou; have f4 : w2.cell? ⟨g4, 0, none⟩ = some (.string b0) := (by rw [← HB0.out]; exact f4q 0 (by omega)); clear hb2 hou f4q))
              all_goals first | exact (un_boolP (by assumption)).elim | skip
              refine bodyPost_ret (v := .tuple #[.pointer none, .int .i64 (k : Int), .int .i64 130]) (by simp [results, Tryd.results10, go_sem]) rfl ?_
              exact ⟨fun _ => by rw [HPR.out], fun h => (by rw [HPR.out] at h; cases h), Below.next HB1.out (Below.next HLS2.out.bel HB2.out)⟩
            · rw [hN0] at HNM
              by_cases h2n : nw < 2
              · have hpr := HBAD.out (by rw [HGK.out, HLD.out, decide_eq_false (by rw [HNW.out]; omega)]; simp)
                have HPR := hidD hpr
                have h2i : (nw : Int) < 2 := by omega
                have h2d : decide ((nw : Int) < 2) = true := decide_eq_true h2i
                clear hpr HBAD HGK HLD hS
                go_wp2_with (first | (go_at_call 45; refine (HNM.out _).mono ?_; rintro e w3 ⟨rfl, rfl⟩) | (go_at_call 44; refine HW2.out.mono ?_; rintro e w2 ⟨u, rfl, hou, hb2⟩; obtain ⟨a4, c4, h4⟩ := row_shape hou; subst h4; have HB2 := hidD hb2; obtain ⟨g4, rfl, _, _, f4q⟩ := HE0.out _ _ 0 _ _ hou; have f4 : w2.cell? ⟨g4, 0, none⟩ = some (.string b0) := (by rw [← HB0.out]; exact f4q 0 (by omega)); clear hb2 hou f4q))
                all_goals first | exact (un_boolP (by assumption)).elim | skip
                refine bodyPost_ret (v := .tuple #[.pointer none, .int .i64 (k : Int), .int .i64 130]) (by simp [results, Tryd.results10, go_sem]) rfl ?_
                exact ⟨fun _ => by rw [HPR.out], fun h => (by rw [HPR.out] at h; cases h), Below.next HB1.out (Below.next HLS2.out.bel HB2.out)⟩
              · have h2i : ¬ (nw : Int) < 2 := by omega
                have h2d : decide ((nw : Int) < 2) = false := decide_eq_false h2i
                have h1i : (1 : Int) < (nw : Int) := by omega
                have hq1 := HQ1.out (by omega)
                generalize hb1 : bA (ws.getD 1 []) = b1 at *
                have HB11 := hidD hb1
                clear hb1
                cases hA1 : (ws.getD 1 [] == tArr)
                · rw [hA1] at hq1
                  have hpr := HBAD.out (by rw [HGK.out, HLD.out, hA1]; simp)
                  have HPR := hidD hpr
                  clear hpr HBAD HGK HLD hS
                  go_wp2_with (first | (go_at_call 45; refine (HNM.out _).mono ?_; rintro e w3 ⟨rfl, rfl⟩) | (go_at_call 44; refine HW2.out.mono ?_; rintro e w2 ⟨u, rfl, hou, hb2⟩; obtain ⟨a4, c4, h4⟩ := row_shape hou; subst h4; have HB2 := hidD hb2; obtain ⟨g4, rfl, _, _, f4q⟩ := HE0.out _ _ 0 _ _ hou; have f4 : w2.cell? ⟨g4, 0, none⟩ = some (.string b0) := (by rw [← HB0.out]; exact f4q 0 (by omega)); have f5 : w2.cell? ⟨g4, 1, none⟩ = some (.string b1) := (by rw [← HB11.out]; exact f4q 1 (by omega)); clear hb2 hou f4q))
                  all_goals first | exact (un_boolP (by assumption)).elim | skip
                  refine bodyPost_ret (v := .tuple #[.pointer none, .int .i64 (k : Int), .int .i64 130]) (by simp [results, Tryd.results10, go_sem]) rfl ?_
                  exact ⟨fun _ => by rw [HPR.out], fun h => (by rw [HPR.out] at h; cases h), Below.next HB1.out (Below.next HLS2.out.bel HB2.out)⟩
                · rw [hA1] at hq1
                  have HSF : Hid (skipS (fldS (ls.getD k [])) = false) := by show _ = _; rw [HWS.out]; exact hS
                  have HW0 : Hid ((fldS (ls.getD k [])).getD 0 [] = ws.getD 0 []) := by show _ = _; rw [HWS.out]
                  clear hS
                  have HGOOD := hidD HLS2.out.good
                  obtain ⟨wk, hwk⟩ : ∃ wk, wk = wr := ⟨_, rfl⟩
                  subst hwk
                  obtain ⟨ao, co, hvo⟩ := row_shape HLS2.out.oth
                  subst hvo
                  generalize hno : (obTo ls k).length = no at *
                  have HNO := hidD hno
                  clear hno
                  have HAT : Hid (∀ w', SrAt w' w'.heap.size (.slice ao no co) (obTo ls k) → Calls Tryd.prog 46 #[.slice ao no co, .string b0] w' fun e w2 => e = .returned (.int .i64 (atS (obTo ls k) (ws.getD 0 []))) ∧ w2 = w') := fun w' h => by
                    rw [← HB0.out]; exact refAt_any (obTo ls k) (by have := ob_len ls k; omega) w'.heap.size _ (ws.getD 0 []) w' h
                  generalize hia : atS (obTo ls k) (ws.getD 0 []) = ia at *
                  have HIA := hidD hia
                  clear hia
                  go_upto_if 62 with (first | (go_at_call 46; refine (HAT.out _ (HNO.out ▸ HLN2.out.oth.sr)).mono ?_; rintro e w3 ⟨rfl, he3⟩; have he3' := he3.symm; subst he3') | (go_at_call 45; refine (HNM.out _).mono ?_; rintro e w3 ⟨rfl, he3⟩; have he3' := he3.symm; subst he3') | (go_at_call 44; refine HW2.out.mono ?_; rintro e w2 ⟨u, rfl, hou, hb2⟩; obtain ⟨a4, c4, h4⟩ := row_shape hou; subst h4; have HB2 := hidD hb2; have HLN2 := hidD (HLS2.out.next hb2); have HOU := hidD hou; obtain ⟨g4, rfl, hg41, hg42, f4q⟩ := HE0.out _ _ 0 _ _ hou; have f4 : w2.cell? ⟨g4, 0, none⟩ = some (.string b0) := (by rw [← HB0.out]; exact f4q 0 (by omega)); have f5 : w2.cell? ⟨g4, 1, none⟩ = some (.string b1) := (by rw [← HB11.out]; exact f4q 1 (by omega)); clear hb2 hou f4q))
                  have HWR : Hid (TxR w2 w1.heap.size (.slice (some ⟨g4, 0, none⟩) nw c4) ws) := by
                    have h := HOU.out
                    show World.ownsRow _ _ _ _ _ _ _
                    rw [HNW.out]
                    exact row_mono h HLS2.out.bel.size
                  have HWA : Hid (Ap (.slice (some ⟨g4, 0, none⟩) nw c4) u8) := by
                    obtain ⟨AL, h3, _⟩ := HLS2.out.all
                    exact ap_first h3 HOU.out
                  have HWO2 : Hid (Ap (.slice (some ⟨g4, 0, none⟩) nw c4) (.slice ao no co)) := ap_first HLS2.out.oth HOU.out
                  go_cut [7] from 19 to 124 (fun s7 wx => Mid w1 wx ls ws k u6 s7 u8 (.slice (some ⟨g4, 0, none⟩) nw c4))
                  case first =>
                    by_cases hin : ws.getD 0 [] ∈ obTo ls k
                    · have hge : 0 ≤ ia := by rw [← HIA.out]; exact (at_iff _ _).2 hin
                      have HMS : Hid (Mid w1 w2 ls ws k u6 (.slice ao no co) u8 (.slice (some ⟨g4, 0, none⟩) nw c4)) := Mid.same HLN2.out HSF.out (by rw [HW0.out]; exact hin) HWR.out HWA.out
                      have hn : ¬ ia < 0 := by omega
                      have hnd : decide (ia < 0) = false := decide_eq_false hn
                      go_wp2_with fail
                      go_meet
                      case rel => exact HMS.out
                    · have hlt0 : ia < 0 := by rw [← HIA.out]; exact (at_neg _ _).2 hin
                      have HAL : Hid (∀ o, Below w2.heap.size w2 (w2.alloc o)) := fun o => (Below.refl _ _).alloc (Nat.le_refl _) o
                      have HLA := hidD (HLN2.out.next (HAL.out (.cells #[.string b0] (9 : TypeId))))
                      have HWRA := hidD (HWR.out.next (HAL.out (.cells #[.string b0] (9 : TypeId))))
                      have HOA : Hid ((w2.alloc (.cells #[.string b0] (9 : TypeId))).ownsRow w1.heap.size 9 1 (.slice ao no co) no ((obTo ls k).map encT)) := by
                        have h := HLA.out.oth
                        unfold TxR at h
                        rw [HNO.out] at h
                        exact h
                      have HSZ : Hid (w1.heap.size ≤ (w2.alloc (.cells #[.string b0] (9 : TypeId))).heap.size) := HLA.out.bel.size
                      have HOB := hidD (ob_len ls k)
                      have HNI : Hid ((fldS (ls.getD k [])).getD 0 [] ∉ obTo ls k) := by show _ ∉ _; rw [HW0.out]; exact hin
                      have HEB : Hid (encT ((fldS (ls.getD k [])).getD 0 []) = .string b0) := by show _ = _; rw [HW0.out]; unfold encT; rw [HB0.out]
                      have hnd : decide (ia < 0) = true := decide_eq_true hlt0
                      go_wp2_with (at_builtin; refine wpList_append_apd rfl _ _ rfl w1.heap.size (.slice ao no co) no ((obTo ls k).map encT) rfl HOA.out w2.heap.size (.string b0) rfl (new_cell1 w2 (.string b0) 9 0 _ rfl) rfl (by have := HOB.out; have := HNO.out; omega) HSZ.out ?_; intro v8 w8 hown8 hb8 hg8 hl8; have HM8 : Hid (Mid w1 w8 ls ws k u6 v8 u8 (.slice (some ⟨g4, 0, none⟩) nw c4)) := (Mid.grow HLA.out HSF.out HNI.out HWRA.out HWA.out HWO2.out (by rw [HNO.out, HEB.out]; exact hown8) hg8 hl8 hb8); clear hown8 hb8 hg8 hl8)
                      go_meet
                      case rel => exact HM8.out
                  case rest =>
                    have HMD := hidD hcut
                    clear hcut HLN2 HWR HWA HWO2 HAT HLS2 f4 f5
                    have HWT2 : Hid (∀ w', TxR w' w1.heap.size (.slice (some ⟨g4, 0, none⟩) nw c4) ws → ∀ q, q < nw → w'.cell? ⟨g4, q, none⟩ = some (.string (bA (ws.getD q [])))) := fun w' h => by
                      have h' := h
                      unfold TxR at h'
                      rw [HNW.out] at h'
                      obtain ⟨g', e, _, _, hh⟩ := tx_cells h' HNW.out (by omega)
                      cases e
                      exact hh
                    have f6 : wc.cell? ⟨g4, 0, none⟩ = some (.string b0) := by rw [← HB0.out]; exact HWT2.out _ HMD.out.wrd 0 (by omega)
                    have HW20 : Hid (Wdi w1 (wc.alloc (.cells #[.string b0] (9 : TypeId))) ls ws k 2 (1048576 * k) u6 u7 u8 (.slice (some ⟨g4, 0, none⟩) nw c4) (.slice (some ⟨wc.heap.size, 0, none⟩) 1 1)) := by
                      have := Wdi.start HMD.out
                      rw [HB0.out] at this
                      exact this
                    clear HMD
                    go_wp2_with fail
                    clear f6
                    go_loopw [6, 8, 11, 12] (fun vr va vC i wi => ∃ q : Nat, 2 ≤ q ∧ q ≤ nw ∧ i = .int .i64 (q : Int) ∧ Wdi w1 wi ls ws k q (1048576 * k + q) vr u7 va (.slice (some ⟨g4, 0, none⟩) nw c4) vC) (fun _ _ _ i _ => nw - (intOf i).toNat)
                    case atStart => exact ⟨2, Nat.le_refl _, by omega, rfl, HW20.out.more (by omega)⟩
                    case round =>
                      obtain ⟨q, hq2, hqn, rfl, hwd⟩ := hrel
                      have HWDI := hidD hwd
                      clear hwd HW20
                      by_cases hqlt : q < nw
                      · have hqlti : (q : Int) < (nw : Int) := by omega
                        have fq : wr.cell? ⟨g4, q, none⟩ = some (.string (bA (ws.getD q []))) := HWT2.out _ HWDI.out.wrd q hqlt
                        have hqo : ((bA (ws.getD q [])).toList == [124]) = (ws.getD q [] == tOr) := by rw [ba_list]; rfl
                        obtain ⟨vs, hvs1, hvs2, hvs3⟩ := HWDI.out.rows
                        obtain ⟨AL, hAL1, hAL2⟩ := HWDI.out.all
                        obtain ⟨aC, cC, hC⟩ := row_shape HWDI.out.cur
                        subst hC
                        obtain ⟨a6, c6, h6⟩ := row_shape hvs1
                        subst h6
                        obtain ⟨a8, c8, h8⟩ := row_shape hAL1
                        subst h8
                        have HV1 := hidD hvs1
                        have HV2 := hidD hvs2
                        have HV3 := hidD hvs3
                        have HAL1 := hidD hAL1
                        have hrl := (rd_ok ls 1048576 (fun l hl => by obtain ⟨t, ht, e⟩ := List.getElem_of_mem hl; have := HLN.out t; rw [List.getD_eq_getElem?_getD, List.getElem?_eq_getElem ht, e] at this; exact this) k (by rw [HM.out]; omega) HGOOD.out).1
                        have har := al_len ws (q - 2)
                        have hac := (al_cur ws (q - 2)).2
                        have hkm : k * 1048576 ≤ 1048577 * 1048576 := Nat.mul_le_mul_right _ (by omega)
                        have HRL : Hid ((rdTo ls k ++ (alTo ws (q - 2)).1).length ≤ 4398046511104) := by show _ ≤ _; rw [List.length_append]; omega
                        have HCL : Hid ((alTo ws (q - 2)).2.length ≤ 4398046511104) := by show _ ≤ _; omega
                        have HLL : Hid (AL.length ≤ 4398046511104) := by show _ ≤ _; omega
                        clear hvs1 hvs2 hvs3 hAL1 hrl har hac hkm
                        generalize hnR : (rdTo ls k ++ (alTo ws (q - 2)).1).length = nR at *
                        have HNR := hidD hnR
                        generalize hnC : (alTo ws (q - 2)).2.length = nC at *
                        have HNC := hidD hnC
                        generalize hnA : AL.length = nA at *
                        have HNA := hidD hnA
                        clear hnR hnC hnA
                        have HAL : Hid (∀ (w' : World) o, Below w'.heap.size w' (w'.alloc o)) := fun w' o => (Below.refl _ _).alloc (Nat.le_refl _) o
                        have HSZ := hidD HWDI.out.bel.size
                        by_cases hor : ws.getD q [] = tOr
                        · rw [beq_iff_eq.2 hor] at hqo
                          have HOR := hidD hor
                          have HF0 : Hid (∀ w', TxR w' w1.heap.size (.slice (some ⟨g4, 0, none⟩) nw c4) ws → w'.cell? ⟨g4, 0, none⟩ = some (.string b0)) := fun w' h => by rw [← HB0.out]; exact HWT2.out w' h 0 (by omega)
                          generalize bA (ws.getD q []) = bq at *
                          clear hor
                          go_wp2_with (at_builtin; refine wpList_append_one Tryd.info35 rfl (by decide) Tryd.under50 rfl _ _ rfl w1.heap.size (.slice a6 nR c6) nR vs rfl (row_below HV1.out (HAL.out _ _)) wr.heap.size (.slice aC nC cC) rfl (new_cell1 wr (.slice aC nC cC) 35 0 _ rfl) rfl HRL.out (by have := HSZ.out; simp; omega) ?_; intro v8 w8 hown8 hb8 hk8; obtain ⟨a9, c9, h9⟩ := row_shape hown8; subst h9; have HO8 := hidD hown8; have HB8 := hidD hb8; have HK8 := hidD hk8; have f7 := HF0.out w8 (((HWDI.out.next (HAL.out _ _)).wrd).stay hk8); clear hown8 hb8 hk8)
                          all_goals first | exact (un_boolP (by assumption)).elim | skip
                          go_roundw
                          case rel =>
                            refine ⟨q + 1, by omega, by omega, by go_num, ?_⟩
                            have h := Wdi.bar (HWDI.out.next (HAL.out wr (.cells #[.slice aC nC cC] (35 : TypeId)))) hq2 HOR.out (HV2.out.next (HAL.out _ _)) (by rw [HNR.out]; exact HO8.out) HK8.out HB8.out.size HB8.out
                            rw [HB0.out] at h
                            exact h.more (by omega)
                          case measure => simp [intOf]; omega
                        · rw [beq_eq_false_iff_ne.2 hor] at hqo
                          have HNE := hidD hor
                          have HNMQ : Hid (∀ w', Calls Tryd.prog 45 #[.string (bA (ws.getD q []))] w' fun e w2 => e = .returned (.bool (nmS (ws.getD q []))) ∧ w2 = w') := fun w' => refName_any _ w' (HWT.out q)
                          have HAT2 : Hid (∀ w', SrAt w' w'.heap.size (.slice a8 nA c8) AL → Calls Tryd.prog 46 #[.slice a8 nA c8, .string (bA (ws.getD q []))] w' fun e w2 => e = .returned (.int .i64 (atS AL (ws.getD q []))) ∧ w2 = w') := fun w' h => refAt_any AL (by rw [HNA.out]; exact HLL.out) w'.heap.size _ _ w' h
                          have HEQ : Hid (encT (ws.getD q []) = .string (bA (ws.getD q []))) := rfl
                          have HTA : Hid (∀ (w' : World) (v : Value), w'.ownsRow w1.heap.size 9 1 v (nA + 1) (AL.map encT ++ [.string (bA (ws.getD q []))]) → TxR w' w1.heap.size v (AL ++ [ws.getD q []])) := fun w' v h => by
                            unfold TxR
                            rw [List.length_append, List.length_singleton, HNA.out, List.map_append]
                            exact h
                          have HAM : Hid ((AL ++ [ws.getD q []]).length ≤ 1048576 * k + q + 1) := by show _ ≤ _; rw [List.length_append, List.length_singleton, HNA.out]; omega
                          have HSA : Hid (w1.heap.size ≤ (wr.alloc (.cells #[.string (bA (ws.getD q []))] (9 : TypeId))).heap.size) := Nat.le_trans HSZ.out (HAL.out _ _).size
                          have HCA : Hid ((wr.alloc (.cells #[.string (bA (ws.getD q []))] (9 : TypeId))).ownsRow w1.heap.size 9 1 (.slice aC nC cC) nC ((alTo ws (q - 2)).2.map encT)) := by
                            have h := HWDI.out.cur.next (HAL.out wr (.cells #[.string (bA (ws.getD q []))] (9 : TypeId)))
                            unfold TxR at h
                            rw [HNC.out] at h
                            exact h
                          cases hNq : nmS (ws.getD q [])
                          · have HPR : Hid (prR x = ((k : Int), 130)) := HBAD.out (by
                              rw [HGK.out]
                              cases hl : lnS ws with
                              | false => rfl
                              | true =>
                                have hm : ws.getD q [] ∈ ws.drop 2 := by
                                  rw [List.getD_eq_getElem?_getD, List.getElem?_eq_getElem (show q < ws.length by rw [HNW.out]; exact hqlt)]
                                  exact List.mem_drop_iff_getElem.2 ⟨q - 2, by rw [HNW.out]; omega, by simp [show 2 + (q - 2) = q by omega]⟩
                                rcases (ln_parts hl).2.2.2 _ hm with h | h
                                · exact absurd h HNE.out
                                · rw [hNq] at h; cases h)
                            rw [hNq] at HNMQ
                            clear HAT2 HEQ HTA HAM HSA HCA
                            generalize bA (ws.getD q []) = bq at *
                            go_wp2_with (go_at_call 45; refine (HNMQ.out _).mono ?_; rintro e w9 ⟨rfl, he9⟩; have he9' := he9.symm; subst he9')
                            all_goals first | exact (un_boolP (by assumption)).elim | skip
                            refine bodyPost_ret (v := .tuple #[.pointer none, .int .i64 (k : Int), .int .i64 130]) (by simp [results, Tryd.results10, go_sem]) rfl ?_
                            exact ⟨fun _ => by rw [HPR.out], fun h => (by rw [HPR.out] at h; cases h), Below.next HB1.out HWDI.out.bel⟩
                          · rw [hNq] at HNMQ
                            have HNQ := hidD hNq
                            generalize hbq : bA (ws.getD q []) = bq at *
                            have HBQ := hidD hbq
                            clear hbq hNq hor
                            by_cases hin : ws.getD q [] ∈ AL
                            · have hge := (at_iff _ _).2 hin
                              generalize atS AL (ws.getD q []) = ib at *
                              have hn : ¬ ib < 0 := by omega
                              have hnd : decide (ib < 0) = false := decide_eq_false hn
                              clear hin
                              go_wp2_with (first | (go_at_call 46; refine (HAT2.out _ HA8.out.sr).mono ?_; rintro e w9 ⟨rfl, he9⟩; have he9' := he9.symm; subst he9'; have M46 := trivial) | (at_builtin; refine wpList_append_apd rfl _ _ rfl w1.heap.size (.slice aC nC cC) nC ((alTo ws (q - 2)).2.map encT) rfl HCA.out wr.heap.size (.string bq) rfl (new_cell1 wr (.string bq) 9 0 _ rfl) rfl HCL.out HSA.out ?_; intro v8 w8 hown8 hb8 hg8 hl8; have HD1 := hidD (Wdi.one (HWDI.out.next (HAL.out wr (.cells #[.string bq] (9 : TypeId)))) hq2 HNE.out HNQ.out (by rw [HNC.out, HEQ.out]; exact hown8) hg8 hl8 hb8); have HA8 := hidD ((HAL1.out.next (HAL.out wr (.cells #[.string bq] (9 : TypeId)))).kept hg8 HWDI.out.c4); obtain ⟨a9, c9, h9⟩ := row_shape hown8; subst h9; have f8 : w8.cell? ⟨g4, q, none⟩ = some (.string bq) := (by rw [← HBQ.out]; exact HWT2.out w8 HD1.out.wrd q hqlt); clear hown8 hb8 hg8 hl8) | (go_at_call 45; refine (HNMQ.out _).mono ?_; rintro e w9 ⟨rfl, he9⟩; have he9' := he9.symm; subst he9'))
                              all_goals first | exact (un_boolP (by assumption)).elim | skip
                              go_roundw
                              case rel => exact ⟨q + 1, by omega, by omega, by go_num, HD1.out.more (by omega)⟩
                              case measure => simp [intOf]; omega
                            · have hlt0 := (at_neg _ _).2 hin
                              generalize atS AL (ws.getD q []) = ib at *
                              have hnd : decide (ib < 0) = true := decide_eq_true hlt0
                              clear hin
                              go_wp2_with (first | (at_builtin; have := M46; clear this; refine wpList_append_apd rfl _ _ rfl w1.heap.size (.slice a8 nA c8) nA (AL.map encT) rfl (HNA.out ▸ HA8.out.next (HAL.out w8 (.cells #[.string bq] (9 : TypeId)))) w8.heap.size (.string bq) rfl (new_cell1 w8 (.string bq) 9 0 _ rfl) rfl HLL.out (Nat.le_trans HD1.out.bel.size (HAL.out w8 (.cells #[.string bq] (9 : TypeId))).size) ?_; intro v10 w10 hown10 hb10 hg10 hl10; obtain ⟨a11, c11, h11⟩ := row_shape hown10; subst h11; have HD2 := hidD (Wdi.put (AM := AL ++ [ws.getD q []]) (HD1.out.next (HAL.out w8 (.cells #[.string bq] (9 : TypeId)))) (HA8.out.next (HAL.out w8 (.cells #[.string bq] (9 : TypeId)))) HAM.out (HTA.out _ _ hown10) hg10 hl10 hb10); clear hown10 hb10 hg10 hl10) | (go_at_call 46; refine (HAT2.out _ HA8.out.sr).mono ?_; rintro e w9 ⟨rfl, he9⟩; have he9' := he9.symm; subst he9'; have M46 := trivial) | (at_builtin; refine wpList_append_apd rfl _ _ rfl w1.heap.size (.slice aC nC cC) nC ((alTo ws (q - 2)).2.map encT) rfl HCA.out wr.heap.size (.string bq) rfl (new_cell1 wr (.string bq) 9 0 _ rfl) rfl HCL.out HSA.out ?_; intro v8 w8 hown8 hb8 hg8 hl8; have HD1 := hidD (Wdi.one (HWDI.out.next (HAL.out wr (.cells #[.string bq] (9 : TypeId)))) hq2 HNE.out HNQ.out (by rw [HNC.out, HEQ.out]; exact hown8) hg8 hl8 hb8); have HA8 := hidD ((HAL1.out.next (HAL.out wr (.cells #[.string bq] (9 : TypeId)))).kept hg8 HWDI.out.c4); obtain ⟨a9, c9, h9⟩ := row_shape hown8; subst h9; have f8 : w8.cell? ⟨g4, q, none⟩ = some (.string bq) := (by rw [← HBQ.out]; exact HWT2.out w8 HD1.out.wrd q hqlt); clear hown8 hb8 hg8 hl8) | (go_at_call 45; refine (HNMQ.out _).mono ?_; rintro e w9 ⟨rfl, he9⟩; have he9' := he9.symm; subst he9'))
                              all_goals first | exact (un_boolP (by assumption)).elim | skip
                              go_roundw
                              case rel => exact ⟨q + 1, by omega, by omega, by go_num, HD2.out.more (by omega)⟩
                              case measure => simp [intOf]; omega
                      · obtain rfl : q = nw := by omega
                        obtain ⟨vs, hvs1, hvs2, hvs3⟩ := HWDI.out.rows
                        obtain ⟨aC, cC, hC⟩ := row_shape HWDI.out.cur
                        subst hC
                        obtain ⟨a6, c6, h6⟩ := row_shape hvs1
                        subst h6
                        have HV1 := hidD hvs1
                        have HV2 := hidD hvs2
                        have hrl := (rd_ok ls 1048576 (fun l hl => by obtain ⟨t, ht, e⟩ := List.getElem_of_mem hl; have := HLN.out t; rw [List.getD_eq_getElem?_getD, List.getElem?_eq_getElem ht, e] at this; exact this) k (by rw [HM.out]; omega) HGOOD.out).1
                        have har := al_len ws (q - 2)
                        have hkm : k * 1048576 ≤ 1048577 * 1048576 := Nat.mul_le_mul_right _ (by omega)
                        have HRL : Hid ((rdTo ls k ++ (alTo ws (q - 2)).1).length ≤ 4398046511104) := by show _ ≤ _; rw [List.length_append]; omega
                        have HLT : Hid (lnS ws = true) := by
                          show _ = _
                          rw [HLD.out, hN0, hA1, decide_eq_true (by rw [HNW.out]; omega)]
                          simp only [Bool.true_and, List.all_eq_true, Bool.or_eq_true, beq_iff_eq]
                          intro y hy
                          obtain ⟨t, ht, e⟩ := List.mem_drop_iff_getElem.1 hy
                          have h := HWDI.out.nam (2 + t) (by omega) (by rw [← HNW.out]; omega)
                          rw [List.getD_eq_getElem?_getD, List.getElem?_eq_getElem (by omega)] at h
                          rw [← e]
                          exact h
                        have HS0 : Hid (skipS ws = false) := by show _ = _; rw [← HWS.out]; exact HSF.out
                        clear hvs1 hvs2 hvs3 hrl har hkm
                        generalize hnR : (rdTo ls k ++ (alTo ws (q - 2)).1).length = nR at *
                        have HNR := hidD hnR
                        generalize hnC : (alTo ws (q - 2)).2.length = nC at *
                        clear hnR hnC
                        have HAL : Hid (∀ (w' : World) o, Below w'.heap.size w' (w'.alloc o)) := fun w' o => (Below.refl _ _).alloc (Nat.le_refl _) o
                        have HSZ := hidD HWDI.out.bel.size
                        have HNBD : Hid (1048576 * k + q ≤ 1048576 * (k + 1)) := by show _ ≤ _; omega
                        clear HNM HBAD HGK HLD
                        go_wp2_with (at_builtin; refine wpList_append_one Tryd.info35 rfl (by decide) Tryd.under50 rfl _ _ rfl w1.heap.size (.slice a6 nR c6) nR vs rfl (row_below HV1.out (HAL.out _ _)) wr.heap.size (.slice aC nC cC) rfl (new_cell1 wr (.slice aC nC cC) 35 0 _ rfl) rfl HRL.out (by have := HSZ.out; simp; omega) ?_; intro v8 w8 hown8 hb8 hk8; obtain ⟨a9, c9, h9⟩ := row_shape hown8; subst h9; have HDN := hidD (Wdi.done (HWDI.out.next (HAL.out wr (.cells #[.slice aC nC cC] (35 : TypeId)))) HNW.out.symm HWS.out HS0.out HLT.out HGOOD.out HNBD.out (HV2.out.next (HAL.out _ _)) (by rw [HNR.out]; exact hown8) hk8 hb8); clear hown8 hb8 hk8)
                        all_goals first | exact (un_boolP (by assumption)).elim | skip
                        go_roundw
                        case rel =>
                          first
                          | exact ⟨k + 1, by omega, by go_num, HDN.out⟩
                          | (repeat apply Exists.intro
                             refine And.intro (a := _) (b := _) ?_ ?_
                             rotate_left
                             · rfl
                             exact ⟨k + 1, by omega, by go_num, HDN.out⟩)
                        case measure => simp [intOf]; omega
      · obtain rfl : k = m := by omega
        have HPL : Hid (parsL x = rdTo ls k) := by show _ = _; unfold parsL; rw [HLS.out, HM.out]
        have HPG : Hid (prG x = true) := prG_true (by rw [HLS.out, HM.out]; exact HLS2.out.good)
        have HRG : Hid (prR x = if prE x = 0 then (0, 0) else ((k : Int), prE x)) := by show _ = _; rw [HR.out, HPG.out, if_pos rfl]
        have HRD := hidD (rd_ok ls 1048576 (fun l hl => by obtain ⟨t, ht, e⟩ := List.getElem_of_mem hl; have := HLN.out t; rw [List.getD_eq_getElem?_getD, List.getElem?_eq_getElem ht, e] at this; exact this) k (by rw [HM.out]; exact Nat.le_refl _) HLS2.out.good)
        have HNMS := hidD (rd_names ls k HLS2.out.good)
        have HTE := hidD (te_doc ls k HLS2.out.good)
        obtain ⟨vs, hv1, hv2⟩ := HLS2.out.rows
        obtain ⟨a6, c6, h6⟩ := row_shape hv1
        subst h6
        obtain ⟨ao, co, hvo⟩ := row_shape HLS2.out.oth
        subst hvo
        have HV1 := hidD hv1
        have HV2 := hidD hv2
        have hkm : k * 1048576 ≤ 1048577 * 1048576 := Nat.mul_le_mul_right _ (by omega)
        have hn6 := HRD.out.1
        have HBEL := hidD (Below.next HB1.out HLS2.out.bel)
        clear hv1 hv2 HWD HR
        by_cases hz : (rdTo ls k).length = 0
        · have HPR : Hid (prR x = ((k : Int), 130)) := by
            show _ = _
            have e : prE x = 130 := by unfold prE; rw [HPL.out, List.eq_nil_of_length_eq_zero hz]; exact newE_nil
            rw [HRG.out, e]; rfl
          rw [hz] at *
          go_wp2_with fail
          refine bodyPost_ret (v := .tuple #[.pointer none, .int .i64 (k : Int), .int .i64 130]) (by simp [results, Tryd.results10, go_sem]) rfl ?_
          exact ⟨fun _ => by rw [HPR.out], fun h => (by rw [HPR.out] at h; cases h), HBEL.out⟩
        · have h1L : 1 ≤ (rdTo ls k).length := by omega
          have HPE : Hid (prE x = if (rdTo ls k).length ≤ 128 ∧ (teS (rdTo ls k)).length + 1 + (otS (rdTo ls k)).length ≤ 128 then 0 else 3) := by
            show _ = _
            unfold prE
            rw [HPL.out]
            exact newE_of HNMS.out h1L
          have hob1 : 0 < (obTo ls k).length := by
            rcases Nat.eq_zero_or_pos (obTo ls k).length with h | h
            · exfalso
              have hr0 : (rdTo ls k).getD 0 [] ∈ rdTo ls k := by rw [List.getD_eq_getElem?_getD, List.getElem?_eq_getElem h1L]; exact List.getElem_mem _
              have := (ob_mem ls (((rdTo ls k).getD 0 []).getD 0 []) k).2 (List.mem_map.2 ⟨_, hr0, rfl⟩)
              rw [List.eq_nil_of_length_eq_zero h] at this
              cases this
            · exact h
          have HST := hidD (ob_first ls k h1L)
          have hobl := ob_len ls k
          have HCO : Hid (∃ g, ao = some ⟨g, 0, none⟩ ∧ w1.heap.size ≤ g ∧ g < wr.heap.size ∧ ∀ q, q < (obTo ls k).length → wr.cell? ⟨g, q, none⟩ = some (.string (bA ((obTo ls k).getD q [])))) := tx_cells HLS2.out.oth rfl hob1
          have HMET : Hid (∀ (non : Bool) (w' : World), Below wr.heap.size wr w' → Calls Tryd.prog 48 #[.slice al k cl, .slice ao (obTo ls k).length co, .bool non] w' fun e w2 => ∃ u, e = .returned u ∧ w2.ownsRow w'.heap.size 9 1 u (mtTo ls (obTo ls k) non k).length ((mtTo ls (obTo ls k) non k).map encT) ∧ Below w'.heap.size w' w2) := fun non w' hb => by
            have := refMet_any ls (obTo ls k) non (by rw [HM.out]; exact hlm) HLN.out (by omega) (.slice al k cl) (.slice ao (obTo ls k).length co) w' (((HSL.out.next HLS2.out.bel).next hb).all) ((HLS2.out.oth.next hb).sr)
            rw [HM.out] at this
            exact this
          obtain ⟨gO, rfl, _, hgO, fO⟩ := HCO.out
          have f0 := fO 0 hob1
          rw [HST.out.1] at f0
          have HNAM := hidD (nam_of HNMS.out)
          have HASM : Hid (∀ (uT uO : Value) (w' : World), Below wr.heap.size wr w' → SrAt w' w'.heap.size uT (teS (rdTo ls k)) → SrAt w' w'.heap.size uO (otS (rdTo ls k)) → Calls Tryd.prog 47 #[uT, uO, .string (bA (stS (rdTo ls k))), .slice a6 (rdTo ls k).length c6] w' fun e w2 => ∃ p, e = .returned (.pointer (some ⟨p, 0, none⟩)) ∧ w'.heap.size ≤ p ∧ RgAt w2 p (teS (rdTo ls k)) (otS (rdTo ls k)) ((rdTo ls k).map (dnF (teS (rdTo ls k)) (otS (rdTo ls k)))) (atS (otS (rdTo ls k)) (stS (rdTo ls k))) ∧ Below w'.heap.size w' w2) := fun uT uO w' hb hT hO => by
            have hfl := HRD.out.2.1
            have hkm2 : k * (2 * 1048576) ≤ 1048577 * (2 * 1048576) := Nat.mul_le_mul_right _ (by omega)
            have hTl : (teS (rdTo ls k)).length ≤ (rdTo ls k).flatten.length := Nat.le_trans (List.length_filter_le _ _) (fr_len _ _)
            have hOl : (otS (rdTo ls k)).length ≤ (rdTo ls k).flatten.length := Nat.le_trans (List.length_filter_le _ _) (fr_len _ _)
            exact assembled_any (teS (rdTo ls k)) (otS (rdTo ls k)) (by omega) (by omega) (stS (rdTo ls k)) (rdTo ls k) (by omega) (fun r hr => ⟨(HRD.out.2.2 r hr).1, (HRD.out.2.2 r hr).2.1⟩) (fun r hr => (HNAM.out.find (.inr (left_in hr (HRD.out.2.2 r hr).1))).2.1) w'.heap.size w'.heap.size uT uO (.slice a6 (rdTo ls k).length c6) w' hT hO (rl_of_own (row_below HV1.out hb) rfl ((HV2.out.next hb).rv))
          have HXT : Hid (mtTo ls (obTo ls k) false k = teS (rdTo ls k)) := HTE.out.1
          have HXO : Hid (mtTo ls (obTo ls k) true k = otS (rdTo ls k)) := HTE.out.2
          have HM1 : Hid (∀ (w' : World), Below wr.heap.size wr w' → Calls Tryd.prog 48 #[.slice al k cl, .slice (some ⟨gO, 0, none⟩) (obTo ls k).length co, .bool false] w' fun e w2 => ∃ u, e = .returned u ∧ w2.ownsRow w'.heap.size 9 1 u (teS (rdTo ls k)).length ((teS (rdTo ls k)).map encT) ∧ Below w'.heap.size w' w2) := fun w' hb => by
            have := HMET.out false w' hb
            rw [HXT.out] at this
            exact this
          have HM2 : Hid (∀ (w' : World), Below wr.heap.size wr w' → Calls Tryd.prog 48 #[.slice al k cl, .slice (some ⟨gO, 0, none⟩) (obTo ls k).length co, .bool true] w' fun e w2 => ∃ u, e = .returned u ∧ w2.ownsRow w'.heap.size 9 1 u (otS (rdTo ls k)).length ((otS (rdTo ls k)).map encT) ∧ Below w'.heap.size w' w2) := fun w' hb => by
            have := HMET.out true w' hb
            rw [HXO.out] at this
            exact this
          have gOf : ∀ i : KB wr [gO], i.v.cell? ⟨gO, 0, none⟩ = some (.string (bA (stS (rdTo ls k)))) := fun i => (i.cell (b := gO) (by simp) _).trans f0
          have HKK : Hid (∀ wB, Below wr.heap.size wr wB → ∃ i : KB wr [gO], wB = i.v) := fun wB hb => ⟨⟨wB, fun b hx => by
            rw [show b = gO by simpa using hx]; exact hb.block _ hgO⟩, rfl⟩
          have HDR : Hid (dgR x = (rdTo ls k).map (dnF (teS (rdTo ls k)) (otS (rdTo ls k)))) := by show _ = _; unfold dgR; rw [HPL.out]
          have hTO : (teS (rdTo ls k)).length ≤ 4398046511104 ∧ (otS (rdTo ls k)).length ≤ 4398046511104 := by
            have hfl := HRD.out.2.1
            have hkm2 : k * (2 * 1048576) ≤ 1048577 * (2 * 1048576) := Nat.mul_le_mul_right _ (by omega)
            have hTl : (teS (rdTo ls k)).length ≤ (rdTo ls k).flatten.length := Nat.le_trans (List.length_filter_le _ _) (fr_len _ _)
            have hOl : (otS (rdTo ls k)).length ≤ (rdTo ls k).flatten.length := Nat.le_trans (List.length_filter_le _ _) (fr_len _ _)
            omega
          obtain ⟨hTb, hOb⟩ := hTO
          clear HMET HXT HXO HTE f0 fO HV1 HV2 HRD HNMS HNAM hkm
          generalize hn6' : (rdTo ls k).length = n6 at *
          generalize hno : (obTo ls k).length = no at *
          clear hno hn6'
          generalize bA (stS (rdTo ls k)) = bs at *
          have hz6 : ¬ (n6 : Int) = 0 := by omega
          have hz6b : ((n6 : Int) == 0) = false := beq_eq_false_iff_ne.2 hz6
          have hoi : (0 : Int) < (no : Int) := by omega
          go_wp2_with fail
          refine wp_region_seg [0, 0, 1, 0, 0, 3, 0, 0, 0, 0, 99, 99] 2 10 [gO] (by kernel_rfl) (by kernel_rfl) (by kernel_rfl) (by kernel_rfl) (by kernel_rfl) (by kernel_rfl) (by kernel_rfl) (by kernel_rfl) (fun _ _ _ _ _ h => h) ?_
          simp only [SegW, pk, Nat.reduceMul, Nat.reduceAdd, Nat.reduceBEq, cond_true, cond_false]
          repeat (go_big_quiet_step (fail))
          refine wpQuiet_nil ?_
          go_wp2_with (go_at_call 48; refine (HM1.out _ ((Below.refl _ _).drew)).mono ?_; rintro e w2 ⟨uT, rfl, hoT, hbT⟩; obtain ⟨aT, cT, hT⟩ := row_shape hoT; subst hT)
          have HT1 : Hid (Below wr.heap.size wr w2) := ((Below.refl _ _).drew).trans hbT
          have HoT := hidD hoT
          clear hoT hbT HM1
          refine ⟨HKK.out _ HT1.out, ?_⟩
          repeat (go_big_quiet_step (fail))
          refine wpQuiet_nil ?_
          go_wp2_with (go_at_call 48; refine (HM2.out _ HT1.out).mono ?_; rintro e w3 ⟨uO, rfl, hoO, hbO⟩; obtain ⟨aO, cO, hO⟩ := row_shape hoO; subst hO)
          have HT2 : Hid (Below wr.heap.size wr w3) := Below.next HT1.out hbO
          have HA47 := hidD (HASM.out _ _ w3 HT2.out (((sr_of_own HoT.out rfl).next hbO).all) (sr_of_own hoO rfl))
          clear hoO hbO HM2 HASM
          refine ⟨HKK.out _ HT2.out, ?_⟩
          repeat (go_big_quiet_step (fail))
          refine wpQuiet_nil ?_
          clear gOf
          go_wp2_with (go_at_call 47; refine HA47.out.mono ?_; rintro e w4 ⟨p, rfl, hp, hrg, hb4⟩)
          have HT3 := hidD (Below.next HT2.out hb4)
          have HRGA := hidD hrg
          have HPW : Hid (w.heap.size ≤ p) := Nat.le_trans (Below.next HBEL.out HT2.out).size hp
          obtain ⟨v0, v1, v2, base, xs, hc, hsT, hsO, ho, hr⟩ := hrg
          obtain ⟨b0, d0, hv0⟩ := hsT.shape
          subst hv0
          obtain ⟨b1, d1, hv1⟩ := hsO.shape
          subst hv1
          obtain ⟨c0, c1, _, _⟩ := hc.cells
          clear hc hsT hsO ho hr hb4 hp HA47 HKK HoT
          have HPEE := hidD HPE.out
          clear HPE
          have HTL : Hid (parsL x = rdTo ls k) := HPL.out
          generalize hnT : (teS (rdTo ls k)).length = nT at *
          generalize hnO : (otS (rdTo ls k)).length = nO at *
          clear hnT hnO
          by_cases h6 : 128 < n6
          · have h6i : (128 : Int) < (n6 : Int) := by omega
            have h6d : decide ((128 : Int) < (n6 : Int)) = true := decide_eq_true h6i
            have HPR : Hid (prR x = ((k : Int), 3)) := by
              show _ = _
              have e : prE x = 3 := (by rw [HPEE.out, if_neg (fun h => by omega)])
              rw [HRG.out, e]; rfl
            clear HRGA HDR HTL
            · go_wp2_with fail
              go_quiet (fail)
              go_wp2_with fail
              all_goals first | exact (un_boolP (by assumption)).elim | (exfalso; omega) | skip
              refine bodyPost_ret (v := .tuple #[.pointer none, .int .i64 (k : Int), .int .i64 3]) (by simp [results, Tryd.results10, go_sem]) rfl ?_
              exact ⟨fun _ => by rw [HPR.out], fun h => (by rw [HPR.out] at h; cases h), below_drewN (Below.next HBEL.out HT3.out) _⟩
          · have h6i : ¬ (128 : Int) < (n6 : Int) := by omega
            have h6d : decide ((128 : Int) < (n6 : Int)) = false := decide_eq_false h6i
            by_cases h7 : 128 < nT + nO + 1
            · have h7i : (128 : Int) < (nT : Int) + (nO : Int) + 1 := by omega
              have h7d : decide ((128 : Int) < (nT : Int) + (nO : Int) + 1) = true := decide_eq_true h7i
              have h7m : decide (128 < nT + nO + 1) = true := decide_eq_true h7
              have HPR : Hid (prR x = ((k : Int), 3)) := by
                show _ = _
                have e : prE x = 3 := (by rw [HPEE.out, if_neg (fun h => by omega)])
                rw [HRG.out, e]; rfl
              clear HRGA HDR HTL
              go_wp2_with fail
              go_quiet (fail)
              go_wp2_with fail
              all_goals first | exact (un_boolP (by assumption)).elim | (exfalso; omega) | skip
              refine bodyPost_ret (v := .tuple #[.pointer none, .int .i64 (k : Int), .int .i64 3]) (by simp [results, Tryd.results10, go_sem]) rfl ?_
              exact ⟨fun _ => by rw [HPR.out], fun h => (by rw [HPR.out] at h; cases h), below_drewN (Below.next HBEL.out HT3.out) _⟩
            · have h7i : ¬ (128 : Int) < (nT : Int) + (nO : Int) + 1 := by omega
              have h7d : decide ((128 : Int) < (nT : Int) + (nO : Int) + 1) = false := decide_eq_false h7i
              have h7m : decide (128 < nT + nO + 1) = false := decide_eq_false h7
              have HPR : Hid (prR x = (0, 0)) := by
                show _ = _
                have e : prE x = 0 := (by rw [HPEE.out, if_pos ⟨by omega, by omega⟩])
                rw [HRG.out, e]; rfl
              go_wp2_with fail
              go_quiet (fail)
              go_wp2_with fail
              all_goals first | exact (un_boolP (by assumption)).elim | (exfalso; omega) | skip
              refine bodyPost_ret (v := .tuple #[.pointer (some ⟨p, 0, none⟩), .int .i64 0, .int .i64 0]) (by simp [results, Tryd.results10, go_sem]) rfl ?_
              refine ⟨fun h => (h (by rw [HPR.out])).elim, fun _ => ⟨p, rfl, HPW.out, ?_⟩, below_drewN (Below.next HBEL.out HT3.out) _⟩
              have h := HRGA.out
              rw [HDR.out, HTL.out]
              exact h.next (below_drewN (Below.refl _ _) _)
end Go.Proofs.YtgmbkelmgolkpaaDoor
