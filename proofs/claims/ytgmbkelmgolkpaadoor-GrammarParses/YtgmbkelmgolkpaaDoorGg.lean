/- Texts of one proof, one behind the other. -/
import Derived.Test.YtgmbkelmgolkpaaDoorRgb
import Derived.Test.YtgmbkelmgolkpaaDoorRfn
/- Rows of texts that grow beside one another: what each leaves of the others. -/
namespace Go.Proofs.YtgmbkelmgolkpaaDoor
open Go.RowKit Go.Maps
set_option linter.unusedVariables false

/-- A row of texts of one's own. -/
def TxR (w : World) (B : Nat) (u : Value) (c : List Tx) : Prop := w.ownsRow B 9 1 u c.length (c.map encT)
/-- A row grew: it lies where it lay, or at the heap's end. -/
def Moved (w : World) (v v' : Value) : Prop := v'.ownBlock = v.ownBlock ∨ v'.ownBlock = some w.heap.size
theorem TxR.kept {w w' : World} {B : Nat} {u v : Value} {c : List Tx} (h : TxR w B u c) (hg : w.grownBy w' v.ownBlock) (ha : Ap u v) : TxR w' B u c := World.ownsRow.kept h hg ha
theorem TxR.next {w w' : World} {B : Nat} {u : Value} {c : List Tx} (h : TxR w B u c) (hb : Below w.heap.size w w') : TxR w' B u c := row_below h hb
theorem TxR.stay {w w' : World} {B : Nat} {u : Value} {c : List Tx} (h : TxR w B u c) (hk : Kept 35 w w') : TxR w' B u c := Kept.row h hk (by decide)
theorem TxR.mono {w : World} {B B' : Nat} {u : Value} {c : List Tx} (h : TxR w B u c) (hB : B' ≤ B) : TxR w B' u c := row_mono h hB
theorem TxR.ap {w : World} {B : Nat} {u v v' : Value} {c : List Tx} (h : TxR w B u c) (ha : Ap u v) (hm : Moved w v v') : Ap u v' := ap_next h ha hm
theorem TxR.sr {w : World} {B : Nat} {u : Value} {c : List Tx} (h : TxR w B u c) : SrAt w w.heap.size u c := sr_of_own h rfl
/-- A new block is unlike all that was there. -/
theorem TxR.new {w : World} {B : Nat} {u v : Value} {c : List Tx} (h : TxR w B u c) (hv : ∀ b, v.ownBlock = some b → w.heap.size ≤ b) : Ap u v ∧ Ap v u := by
  constructor
  · cases hu : u.ownBlock with
    | none => exact .inl hu
    | some b => exact .inr (by rw [hu]; intro e; have := h.lt b hu; have := hv b e.symm; omega)
  · cases hb : v.ownBlock with
    | none => exact .inl hb
    | some b => exact .inr (by rw [hb]; intro e; have := h.lt b e.symm; have := hv b hb; omega)
/-- A row that grew beside another that did not. -/
theorem Moved.ap {w : World} {B : Nat} {u v v' : Value} {c : List Tx} (hm : Moved w v v') (h : TxR w B u c) (ha : Ap v u) : Ap v' u := by
  cases hb : v'.ownBlock with
  | none => exact .inl hb
  | some b =>
    refine .inr ?_
    rw [hb]
    intro e
    rcases hm with hm | hm
    · rw [hb] at hm
      rcases ha with ha | ha
      · rw [ha] at hm; cases hm
      · exact ha (by rw [← hm]; exact e)
    · rw [hb] at hm
      cases hm
      have := h.lt _ e.symm
      omega
/-- Values that are rows of texts, none of them one of two that grow. -/
def RvO (w : World) (B : Nat) (vs : List Value) (L : List (List Tx)) (o a : Value) : Prop := vs.length = L.length ∧ ∀ k, k < L.length → ∃ u, vs[k]? = some u ∧ TxR w B u (L.getD k []) ∧ Ap u o ∧ Ap u a
theorem RvO.nil (w : World) (B : Nat) (o a : Value) : RvO w B [] [] o a := ⟨rfl, fun k hk => absurd hk (by simp)⟩
theorem RvO.next {w w' : World} {B : Nat} {vs : List Value} {L : List (List Tx)} {o a : Value} (h : RvO w B vs L o a) (hb : Below w.heap.size w w') : RvO w' B vs L o a := ⟨h.1, fun k hk => by
  obtain ⟨u, h1, h2, h3⟩ := h.2 k hk
  exact ⟨u, h1, h2.next hb, h3⟩⟩
theorem RvO.stay {w w' : World} {B : Nat} {vs : List Value} {L : List (List Tx)} {o a : Value} (h : RvO w B vs L o a) (hk : Kept 35 w w') : RvO w' B vs L o a := ⟨h.1, fun k hk' => by
  obtain ⟨u, h1, h2, h3⟩ := h.2 k hk'
  exact ⟨u, h1, h2.stay hk, h3⟩⟩
/-- The first one grew. -/
theorem RvO.growO {w w' : World} {B : Nat} {vs : List Value} {L : List (List Tx)} {o o' a : Value} (h : RvO w B vs L o a) (hg : w.grownBy w' o.ownBlock) (hm : Moved w o o') : RvO w' B vs L o' a := ⟨h.1, fun k hk => by
  obtain ⟨u, h1, h2, h3, h4⟩ := h.2 k hk
  exact ⟨u, h1, h2.kept hg h3, h2.ap h3 hm, h4⟩⟩
/-- The second one grew. -/
theorem RvO.growA {w w' : World} {B : Nat} {vs : List Value} {L : List (List Tx)} {o a a' : Value} (h : RvO w B vs L o a) (hg : w.grownBy w' a.ownBlock) (hm : Moved w a a') : RvO w' B vs L o a' := ⟨h.1, fun k hk => by
  obtain ⟨u, h1, h2, h3, h4⟩ := h.2 k hk
  exact ⟨u, h1, h2.kept hg h4, h3, h2.ap h4 hm⟩⟩
/-- One more row. -/
theorem RvO.more {w : World} {B : Nat} {vs : List Value} {L : List (List Tx)} {o a : Value} (h : RvO w B vs L o a) {u : Value} {c : List Tx} (hu : TxR w B u c) (h1 : Ap u o) (h2 : Ap u a) : RvO w B (vs ++ [u]) (L ++ [c]) o a := by
  refine ⟨by rw [List.length_append, List.length_append, h.1]; rfl, fun k hk => ?_⟩
  rw [List.length_append, List.length_singleton] at hk
  by_cases hl : k < L.length
  · obtain ⟨u', e1, e2⟩ := h.2 k hl
    refine ⟨u', ?_, ?_⟩
    · rw [List.getElem?_append_left (by rw [h.1]; omega)]; exact e1
    · rw [List.getD_eq_getElem?_getD, List.getElem?_append_left hl, ← List.getD_eq_getElem?_getD]; exact e2
  · obtain rfl : k = L.length := by omega
    refine ⟨u, ?_, ?_⟩
    · rw [List.getElem?_append_right (by rw [h.1]; omega), h.1, Nat.sub_self]; rfl
    · rw [List.getD_eq_getElem?_getD, List.getElem?_append_right (Nat.le_refl _), Nat.sub_self]
      exact ⟨hu, h1, h2⟩
/-- None of the rows is a third one, either. -/
def OffV (vs : List Value) (c : Value) : Prop := ∀ u ∈ vs, Ap u c
theorem RvO.growC {w w' : World} {B : Nat} {vs : List Value} {L : List (List Tx)} {o a c : Value} (h : RvO w B vs L o a) (hg : w.grownBy w' c.ownBlock) (hc : OffV vs c) : RvO w' B vs L o a := ⟨h.1, fun k hk => by
  obtain ⟨u, h1, h2, h3⟩ := h.2 k hk
  exact ⟨u, h1, h2.kept hg (hc u (List.mem_of_getElem? h1)), h3⟩⟩
theorem RvO.offNext {w : World} {B : Nat} {vs : List Value} {L : List (List Tx)} {o a c c' : Value} (h : RvO w B vs L o a) (hc : OffV vs c) (hm : Moved w c c') : OffV vs c' := fun u hu => by
  obtain ⟨k, hk, e⟩ := List.getElem_of_mem hu
  obtain ⟨u', h1, h2, _⟩ := h.2 k (by rw [← h.1]; exact hk)
  rw [List.getElem?_eq_getElem hk, e] at h1
  cases h1
  exact h2.ap (hc u hu) hm
theorem RvO.offNew {w : World} {B : Nat} {vs : List Value} {L : List (List Tx)} {o a v : Value} (h : RvO w B vs L o a) (hv : ∀ b, v.ownBlock = some b → w.heap.size ≤ b) : OffV vs v := fun u hu => by
  obtain ⟨k, hk, e⟩ := List.getElem_of_mem hu
  obtain ⟨u', h1, h2, _⟩ := h.2 k (by rw [← h.1]; exact hk)
  rw [List.getElem?_eq_getElem hk, e] at h1
  cases h1
  exact (h2.new hv).1
theorem RvO.rv {w : World} {B : Nat} {vs : List Value} {L : List (List Tx)} {o a : Value} (h : RvO w B vs L o a) : RvAt w w.heap.size vs L := ⟨h.1, fun k hk => by
  obtain ⟨u, h1, h2, _⟩ := h.2 k hk
  exact ⟨u, h1, h2.sr⟩⟩
end Go.Proofs.YtgmbkelmgolkpaaDoor
/- What holds as the document's Parse goes through lines and words. -/
namespace Go.Proofs.YtgmbkelmgolkpaaDoor
open Go.RowKit Go.Maps
set_option linter.unusedVariables false

theorem un_boolP {b : Bool} (h : some undef = some (Value.bool b)) : False := by simp [undef] at h
/-- The rules, with the document's numbers, of a text. -/
def dgR (x : Tx) : List (Nat × List Int) := (parsL x).map (dnF (teS (parsL x)) (otS (parsL x)))
def RpIs (x : Tx) (w w' : World) (e : Ending) : Prop := ((prR x).2 ≠ 0 → e = .returned (.tuple #[.pointer none, .int .i64 (prR x).1, .int .i64 (prR x).2])) ∧ ((prR x).2 = 0 → ∃ p, e = .returned (.tuple #[.pointer (some ⟨p, 0, none⟩), .int .i64 0, .int .i64 0]) ∧ w.heap.size ≤ p ∧ RgAt w' p (teS (parsL x)) (otS (parsL x)) (dgR x) (atS (otS (parsL x)) (stS (parsL x)))) ∧ Below w.heap.size w w'
/-- What the walk through the lines holds. -/
structure Lns (w1 wr : World) (ls : List Tx) (k : Nat) (vr vo va : Value) : Prop where
  good : ∀ j, j < k → goodL ls j = true
  rows : ∃ vs, wr.ownsRow w1.heap.size 35 1 vr (rdTo ls k).length vs ∧ RvO wr w1.heap.size vs (rdTo ls k) vo va
  oth : TxR wr w1.heap.size vo (obTo ls k)
  all : ∃ AL, TxR wr w1.heap.size va AL ∧ AL.length ≤ 1048576 * k
  ap1 : Ap vo va
  ap2 : Ap va vo
  bel : Below w1.heap.size w1 wr
theorem Lns.next {w1 wr w2 : World} {ls : List Tx} {k : Nat} {vr vo va : Value} (h : Lns w1 wr ls k vr vo va) (hb : Below wr.heap.size wr w2) : Lns w1 w2 ls k vr vo va := by
  obtain ⟨vs, h1, h2⟩ := h.rows
  obtain ⟨AL, h3, h4⟩ := h.all
  exact ⟨h.good, ⟨vs, row_below h1 hb, h2.next hb⟩, h.oth.next hb, ⟨AL, h3.next hb, h4⟩, h.ap1, h.ap2, Below.next h.bel hb⟩
theorem Lns.skip {w1 wr : World} {ls : List Tx} {k : Nat} {vr vo va : Value} (h : Lns w1 wr ls k vr vo va) (hs : skipS (fldS (ls.getD k [])) = true) : Lns w1 wr ls (k + 1) vr vo va := by
  have e1 : rdTo ls (k + 1) = rdTo ls k := by rw [rdTo, if_pos hs]
  have e2 : obTo ls (k + 1) = obTo ls k := by rw [obTo, if_pos hs]
  obtain ⟨AL, h3, h4⟩ := h.all
  refine ⟨fun j hj => ?_, by rw [e1]; exact h.rows, by rw [e2]; exact h.oth, ⟨AL, h3, by omega⟩, h.ap1, h.ap2, h.bel⟩
  rcases Nat.lt_or_ge j k with hl | hl
  · exact h.good j hl
  · obtain rfl : j = k := by omega
    unfold goodL; rw [hs]; rfl
theorem tx_nil (w : World) (B : Nat) : TxR w B (.slice none 0 0) [] := ⟨rfl, .inl ⟨rfl, rfl⟩⟩
theorem ap_none (v : Value) (a b : Nat) : Ap (.slice none a b) v := .inl rfl
/-- Behind the line's first name. -/
structure Mid (w1 wx : World) (ls ws : List Tx) (k : Nat) (vr vo va vW : Value) : Prop where
  rows : ∃ vs, wx.ownsRow w1.heap.size 35 1 vr (rdTo ls k).length vs ∧ RvO wx w1.heap.size vs (rdTo ls k) vo va
  oth : TxR wx w1.heap.size vo (obTo ls (k + 1))
  all : ∃ AL, TxR wx w1.heap.size va AL ∧ AL.length ≤ 1048576 * k
  ap1 : Ap vo va
  ap2 : Ap va vo
  wrd : TxR wx w1.heap.size vW ws
  apw : Ap vW va
  bel : Below w1.heap.size w1 wx
theorem Mid.same {w1 wx : World} {ls ws : List Tx} {k : Nat} {vr vo va vW : Value} (h : Lns w1 wx ls k vr vo va) (hs : skipS (fldS (ls.getD k [])) = false) (hm : (fldS (ls.getD k [])).getD 0 [] ∈ obTo ls k) (hw : TxR wx w1.heap.size vW ws) (ha : Ap vW va) : Mid w1 wx ls ws k vr vo va vW := by
  refine ⟨h.rows, ?_, h.all, h.ap1, h.ap2, hw, ha, h.bel⟩
  rw [obTo, hs, if_neg (by simp), ins_old hm]
  exact h.oth
theorem Mid.grow {w1 wx w' : World} {ls ws : List Tx} {k : Nat} {vr vo vo' va vW : Value} (h : Lns w1 wx ls k vr vo va) (hs : skipS (fldS (ls.getD k [])) = false) (hm : (fldS (ls.getD k [])).getD 0 [] ∉ obTo ls k) (hw : TxR wx w1.heap.size vW ws) (ha : Ap vW va) (hwo : Ap vW vo)
    (ho : w'.ownsRow w1.heap.size 9 1 vo' ((obTo ls k).length + 1) ((obTo ls k).map encT ++ [encT ((fldS (ls.getD k [])).getD 0 [])])) (hg : wx.grownBy w' vo.ownBlock) (hv : Moved wx vo vo') (hb : Below w1.heap.size wx w') : Mid w1 w' ls ws k vr vo' va vW := by
  obtain ⟨vs, h1, h2⟩ := h.rows
  obtain ⟨AL, h3, h4⟩ := h.all
  refine ⟨⟨vs, ?_, h2.growO hg hv⟩, ?_, ⟨AL, h3.kept hg h.ap2, h4⟩, hv.ap h3 h.ap1, h3.ap h.ap2 hv, hw.kept hg hwo, ha, h.bel.trans hb⟩
  · exact Kept.row h1 (kept_of_grown h.oth hg) (by decide)
  · rw [obTo, hs, if_neg (by simp), insL, if_neg (fun hc => hm (List.contains_iff_mem.1 hc))]
    unfold TxR
    rw [List.length_append, List.length_singleton, List.map_append]
    exact ho
theorem ob_len (ls : List Tx) : ∀ k, (obTo ls k).length ≤ k
  | 0 => Nat.le_refl _
  | k + 1 => by
    have := ob_len ls k
    rw [obTo]
    split
    · omega
    · unfold insL; split
      · omega
      · rw [List.length_append, List.length_singleton]; omega
/-- Within a line's words. -/
structure Wdi (w1 wi : World) (ls ws : List Tx) (k q nb : Nat) (vr vo va vW vC : Value) : Prop where
  rows : ∃ vs, wi.ownsRow w1.heap.size 35 1 vr (rdTo ls k ++ (alTo ws (q - 2)).1).length vs ∧ RvO wi w1.heap.size vs (rdTo ls k ++ (alTo ws (q - 2)).1) vo va ∧ OffV vs vC
  oth : TxR wi w1.heap.size vo (obTo ls (k + 1))
  all : ∃ AL, TxR wi w1.heap.size va AL ∧ AL.length ≤ nb
  cur : TxR wi w1.heap.size vC (alTo ws (q - 2)).2
  wrd : TxR wi w1.heap.size vW ws
  ap1 : Ap vo va
  ap2 : Ap va vo
  c1 : Ap vC vo
  c2 : Ap vC va
  c3 : Ap vo vC
  c4 : Ap va vC
  w1' : Ap vW va
  w2' : Ap vW vC
  bel : Below w1.heap.size w1 wi
  nam : ∀ t, 2 ≤ t → t < q → ws.getD t [] = tOr ∨ nmS (ws.getD t []) = true
theorem Wdi.next {w1 wi w' : World} {ls ws : List Tx} {k q nb : Nat} {vr vo va vW vC : Value} (h : Wdi w1 wi ls ws k q nb vr vo va vW vC) (hb : Below wi.heap.size wi w') : Wdi w1 w' ls ws k q nb vr vo va vW vC := by
  obtain ⟨vs, h1, h2, h3⟩ := h.rows
  obtain ⟨AL, h4, h5⟩ := h.all
  exact ⟨⟨vs, row_below h1 hb, h2.next hb, h3⟩, h.oth.next hb, ⟨AL, h4.next hb, h5⟩, h.cur.next hb, h.wrd.next hb, h.ap1, h.ap2, h.c1, h.c2, h.c3, h.c4, h.w1', h.w2', Below.next h.bel hb, h.nam⟩
theorem Wdi.more {w1 wi : World} {ls ws : List Tx} {k q nb nb' : Nat} {vr vo va vW vC : Value} (h : Wdi w1 wi ls ws k q nb vr vo va vW vC) (hb : nb ≤ nb') : Wdi w1 wi ls ws k q nb' vr vo va vW vC := by
  obtain ⟨AL, h4, h5⟩ := h.all
  exact ⟨h.rows, h.oth, ⟨AL, h4, by omega⟩, h.cur, h.wrd, h.ap1, h.ap2, h.c1, h.c2, h.c3, h.c4, h.w1', h.w2', h.bel, h.nam⟩
/-- A new row of one text. -/
theorem tx_one (w : World) (x : Tx) {B : Nat} (hB : B ≤ w.heap.size) : TxR (w.alloc (.cells #[.string (bA x)] (9 : TypeId))) B (.slice (some ⟨w.heap.size, 0, none⟩) 1 1) [x] :=
  ⟨rfl, .inr ⟨w.heap.size, 1, #[.string (bA x)], rfl, hB, heap_alloc_new _ _, Nat.le_refl _, by unfold maxLen; decide, rfl, rfl⟩⟩
theorem new_own (w : World) : ∀ b, (Value.slice (some ⟨w.heap.size, 0, none⟩) 1 1).ownBlock = some b → w.heap.size ≤ b := fun b h => by
  cases h; exact Nat.le_refl _
theorem Wdi.start {w1 wc : World} {ls ws : List Tx} {k : Nat} {vr vo va vW : Value} (h : Mid w1 wc ls ws k vr vo va vW) : Wdi w1 (wc.alloc (.cells #[.string (bA (ws.getD 0 []))] (9 : TypeId))) ls ws k 2 (1048576 * k) vr vo va vW (.slice (some ⟨wc.heap.size, 0, none⟩) 1 1) := by
  have hb : Below wc.heap.size wc (wc.alloc (.cells #[.string (bA (ws.getD 0 []))] (9 : TypeId))) := (Below.refl _ _).alloc (Nat.le_refl _) _
  obtain ⟨vs, h1, h2⟩ := h.rows
  obtain ⟨AL, h4, h5⟩ := h.all
  have hn := new_own wc
  exact ⟨⟨vs, by rw [show (alTo ws (2 - 2)).1 = [] from rfl, List.append_nil]; exact row_below h1 hb, by rw [show (alTo ws (2 - 2)).1 = [] from rfl, List.append_nil]; exact h2.next hb, h2.offNew hn⟩, h.oth.next hb, ⟨AL, h4.next hb, h5⟩, tx_one wc _ h.bel.size, h.wrd.next hb, h.ap1, h.ap2, (h.oth.new hn).2, (h4.new hn).2, (h.oth.new hn).1, (h4.new hn).1, h.apw, (h.wrd.new hn).1, Below.next h.bel hb, fun t h1 h2 => absurd h2 (by omega)⟩
/-- A name behind the one that is not ended. -/
theorem Wdi.one {w1 wi w' : World} {ls ws : List Tx} {k q nb : Nat} {vr vo va vW vC vC' : Value} (h : Wdi w1 wi ls ws k q nb vr vo va vW vC) (hq : 2 ≤ q) (hne : ws.getD q [] ≠ tOr) (hnm : nmS (ws.getD q []) = true)
    (ho : w'.ownsRow w1.heap.size 9 1 vC' ((alTo ws (q - 2)).2.length + 1) ((alTo ws (q - 2)).2.map encT ++ [encT (ws.getD q [])])) (hg : wi.grownBy w' vC.ownBlock) (hv : Moved wi vC vC') (hb : Below w1.heap.size wi w') : Wdi w1 w' ls ws k (q + 1) nb vr vo va vW vC' := by
  obtain ⟨vs, h1, h2, h3⟩ := h.rows
  obtain ⟨AL, h4, h5⟩ := h.all
  have ea : alTo ws (q + 1 - 2) = ((alTo ws (q - 2)).1, (alTo ws (q - 2)).2 ++ [ws.getD q []]) := by
    rw [show q + 1 - 2 = (q - 2) + 1 by omega, alTo, if_neg (fun e => hne (by rw [← beq_iff_eq.1 e, show 2 + (q - 2) = q by omega])), show 2 + (q - 2) = q by omega]
  refine ⟨⟨vs, ?_, ?_, h2.offNext h3 hv⟩, h.oth.kept hg h.c3, ⟨AL, h4.kept hg h.c4, h5⟩, ?_, h.wrd.kept hg h.w2', h.ap1, h.ap2, hv.ap h.oth h.c1, hv.ap h4 h.c2, h.oth.ap h.c3 hv, h4.ap h.c4 hv, h.w1', h.wrd.ap h.w2' hv, h.bel.trans hb, fun t h1 h2 => ?_⟩
  · rw [ea]; exact Kept.row h1 (kept_of_grown h.cur hg) (by decide)
  · rw [ea]; exact h2.growC hg h3
  · rw [ea]
    unfold TxR
    rw [List.length_append, List.length_singleton, List.map_append]
    exact ho
  · rcases Nat.lt_or_ge t q with hl | hl
    · exact h.nam t h1 hl
    · obtain rfl : t = q := by omega
      exact .inr hnm
/-- A name behind all. -/
theorem Wdi.put {w1 wi w' : World} {ls ws : List Tx} {k q nb : Nat} {vr vo va va' vW vC : Value} (h : Wdi w1 wi ls ws k q nb vr vo va vW vC) {AL AM : List Tx} (ha : TxR wi w1.heap.size va AL) (hm : AM.length ≤ nb + 1)
    (ho : TxR w' w1.heap.size va' AM) (hg : wi.grownBy w' va.ownBlock) (hv : Moved wi va va') (hb : Below w1.heap.size wi w') : Wdi w1 w' ls ws k q (nb + 1) vr vo va' vW vC := by
  obtain ⟨vs, h1, h2, h3⟩ := h.rows
  exact ⟨⟨vs, Kept.row h1 (kept_of_grown ha hg) (by decide), h2.growA hg hv, h3⟩, h.oth.kept hg h.ap1, ⟨AM, ho, hm⟩, h.cur.kept hg h.c2, h.wrd.kept hg h.w1', h.oth.ap h.ap1 hv, hv.ap h.oth h.ap2, h.c1, h.cur.ap h.c2 hv, h.c3, hv.ap h.cur h.c4, h.wrd.ap h.w1' hv, h.w2', h.bel.trans hb, h.nam⟩
/-- A mark ends a rule. -/
theorem Wdi.bar {w1 wi w' : World} {ls ws : List Tx} {k q nb : Nat} {vr vr' vo va vW vC : Value} (h : Wdi w1 wi ls ws k q nb vr vo va vW vC) (hq : 2 ≤ q) (he : ws.getD q [] = tOr) {vs : List Value} (hR : RvO wi w1.heap.size vs (rdTo ls k ++ (alTo ws (q - 2)).1) vo va)
    (ho : w'.ownsRow w1.heap.size 35 1 vr' ((rdTo ls k ++ (alTo ws (q - 2)).1).length + 1) (vs ++ [vC])) (hk : Kept 35 wi w') (hs : wi.heap.size ≤ w'.heap.size) (hb : Below w1.heap.size wi w') :
    Wdi w1 (w'.alloc (.cells #[.string (bA (ws.getD 0 []))] (9 : TypeId))) ls ws k (q + 1) nb vr' vo va vW (.slice (some ⟨w'.heap.size, 0, none⟩) 1 1) := by
  have hbn : Below w'.heap.size w' (w'.alloc (.cells #[.string (bA (ws.getD 0 []))] (9 : TypeId))) := (Below.refl _ _).alloc (Nat.le_refl _) _
  have hn := new_own w'
  obtain ⟨AL, h4, h5⟩ := h.all
  have ea : alTo ws (q + 1 - 2) = ((alTo ws (q - 2)).1 ++ [(alTo ws (q - 2)).2], [ws.getD 0 []]) := by
    rw [show q + 1 - 2 = (q - 2) + 1 by omega, alTo, if_pos (beq_iff_eq.2 (by rw [show 2 + (q - 2) = q by omega]; exact he))]
  have hR2 : RvO w' w1.heap.size (vs ++ [vC]) (rdTo ls k ++ (alTo ws (q + 1 - 2)).1) vo va := by
    rw [ea, ← List.append_assoc]
    exact (hR.stay hk).more (h.cur.stay hk) h.c1 h.c2
  have hl2 : (rdTo ls k ++ (alTo ws (q + 1 - 2)).1).length = (rdTo ls k ++ (alTo ws (q - 2)).1).length + 1 := by
    rw [ea, ← List.append_assoc, List.length_append, List.length_singleton]
  have o2 := h.oth.stay hk
  have a2 := h4.stay hk
  have w2 := h.wrd.stay hk
  refine ⟨⟨vs ++ [vC], by rw [hl2]; exact row_below ho hbn, hR2.next hbn, hR2.offNew hn⟩, o2.next hbn, ⟨AL, a2.next hbn, h5⟩, by rw [ea]; exact tx_one w' _ (Nat.le_trans h.bel.size hs), w2.next hbn, h.ap1, h.ap2, (o2.new hn).2, (a2.new hn).2, (o2.new hn).1, (a2.new hn).1, h.w1', (w2.new hn).1, Below.next (h.bel.trans hb) hbn, fun t h1 h2 => ?_⟩
  rcases Nat.lt_or_ge t q with hl | hl
  · exact h.nam t h1 hl
  · obtain rfl : t = q := by omega
    exact .inl he
/-- The line is done. -/
theorem Wdi.done {w1 wi w' : World} {ls ws : List Tx} {k q nb : Nat} {vr vr' vo va vW vC : Value} (h : Wdi w1 wi ls ws k q nb vr vo va vW vC) (hq : q = ws.length) (hws : fldS (ls.getD k []) = ws) (hs0 : skipS ws = false) (hln : lnS ws = true) (hg : ∀ j, j < k → goodL ls j = true) (hnb : nb ≤ 1048576 * (k + 1)) {vs : List Value} (hR : RvO wi w1.heap.size vs (rdTo ls k ++ (alTo ws (q - 2)).1) vo va)
    (ho : w'.ownsRow w1.heap.size 35 1 vr' ((rdTo ls k ++ (alTo ws (q - 2)).1).length + 1) (vs ++ [vC])) (hk : Kept 35 wi w') (hb : Below w1.heap.size wi w') : Lns w1 w' ls (k + 1) vr' vo va := by
  obtain ⟨AL, h4, h5⟩ := h.all
  have er : rdTo ls (k + 1) = (rdTo ls k ++ (alTo ws (q - 2)).1) ++ [(alTo ws (q - 2)).2] := by
    rw [rdTo, hws, hs0, if_neg (by simp), alS, ← hq, List.append_assoc]
  refine ⟨fun j hj => ?_, ⟨vs ++ [vC], ?_, ?_⟩, h.oth.stay hk, ⟨AL, h4.stay hk, by omega⟩, h.ap1, h.ap2, h.bel.trans hb⟩
  · rcases Nat.lt_or_ge j k with hl | hl
    · exact hg j hl
    · obtain rfl : j = k := by omega
      unfold goodL; rw [hws, hln]; simp
  · rw [er, List.length_append, List.length_singleton]; exact ho
  · rw [er]; exact (hR.stay hk).more (h.cur.stay hk) h.c1 h.c2
theorem ob_first (ls : List Tx) : ∀ k, 1 ≤ (rdTo ls k).length → (obTo ls k).getD 0 [] = stS (rdTo ls k) ∧ 0 < (obTo ls k).length
  | 0, h => by simp [rdTo] at h
  | k + 1, h => by
    rw [rdTo] at h ⊢
    rw [obTo]
    by_cases hs : skipS (fldS (ls.getD k [])) = true
    · rw [if_pos hs] at h ⊢
      rw [if_pos hs]
      exact ob_first ls k h
    · rw [if_neg hs] at h ⊢
      rw [if_neg hs]
      by_cases hl : 1 ≤ (rdTo ls k).length
      · obtain ⟨h1, h2⟩ := ob_first ls k hl
        have e : (insL (obTo ls k) ((fldS (ls.getD k [])).getD 0 [])).getD 0 [] = (obTo ls k).getD 0 [] := by
          unfold insL
          split
          · rfl
          · rw [List.getD_eq_getElem?_getD, List.getElem?_append_left h2, ← List.getD_eq_getElem?_getD]
        refine ⟨?_, ?_⟩
        · rw [e, h1]
          unfold stS
          rw [List.getD_eq_getElem?_getD (l := rdTo ls k ++ _), List.getElem?_append_left hl, ← List.getD_eq_getElem?_getD]
        · unfold insL; split
          · exact h2
          · rw [List.length_append]; omega
      · have e0 : rdTo ls k = [] := List.eq_nil_of_length_eq_zero (by omega)
        have eo : obTo ls k = [] := by
          cases ho : obTo ls k with
          | nil => rfl
          | cons a l =>
            have := (ob_mem ls a k).1 (by rw [ho]; exact List.mem_cons_self)
            rw [e0] at this
            cases this
        rw [e0, eo, List.nil_append]
        refine ⟨?_, by unfold insL; simp⟩
        obtain ⟨r, l, hr⟩ : ∃ r l, alS (fldS (ls.getD k [])) = r :: l := List.exists_cons_of_ne_nil (alS_ne _)
        have := alS_left (fldS (ls.getD k [])) r (by rw [hr]; exact List.mem_cons_self)
        unfold stS insL
        rw [hr]
        simp only [List.contains_nil, Bool.false_eq_true, if_false, List.nil_append]
        show _ = r.getD 0 []
        rw [this]; rfl
theorem tx_cells {w : World} {b nw c : Nat} {a : Option Addr} {ws : List Tx} (h : w.ownsRow b 9 1 (.slice a nw c) nw (ws.map encT)) (hn : ws.length = nw) (h0 : 0 < nw) : ∃ g, a = some ⟨g, 0, none⟩ ∧ b ≤ g ∧ g < w.heap.size ∧ ∀ q, q < nw → w.cell? ⟨g, q, none⟩ = some (.string (bA (ws.getD q []))) := by
  rcases h.2 with ⟨e, e0⟩ | ⟨g, cap, cur, e, hb, hg, _⟩
  · omega
  · cases e
    refine ⟨g, rfl, hb, row_lt hg, fun q hq => ?_⟩
    have := h.cells (g := g) rfl q (encT (ws.getD q [])) (by rw [List.getElem?_map, List.getElem?_eq_getElem (by omega), List.getD_eq_getElem?_getD, List.getElem?_eq_getElem (by omega)]; rfl)
    rw [Addr.add_lit, Nat.zero_add] at this
    exact this
theorem pr_bad {x : Tx} {ls : List Tx} (hls : lnsS x = ls) {k : Nat} (hk : k < ls.length) (h : ∀ j, j < k → goodL ls j = true) (hb : goodL ls k = false) : prG x = false ∧ prK x = k := by
  subst hls
  exact prK_at hk h hb
end Go.Proofs.YtgmbkelmgolkpaaDoor
