/- Texts of one proof, one behind the other. -/
import Derived.Test.YtgmbkelmgolkpaaDoorMkb
import Derived.Test.YtgmbkelmgolkpaaDoorSam
import Derived.Test.YtgmbkelmgolkpaaDoorTxs
import Derived.Test.YtgmbkelmgolkpaaDoorGnl
/- GrammarMakes: copies of rows, each apart from the others; what stands where copies are written. -/
namespace Go.Proofs.YtgmbkelmgolkpaaDoor
open Go.RowKit Go.Maps
set_option linter.unusedVariables false

theorem var_next {w w' : World} {mx : Int} (h00 : 0 < w.heap.size) (hm : w.cell? ⟨0, 0, none⟩ = some (.int .i64 mx)) (hb : Below w.heap.size w w') : 0 < w'.heap.size ∧ w'.cell? ⟨0, 0, none⟩ = some (.int .i64 mx) := ⟨Nat.lt_of_lt_of_le h00 hb.size, (hb.cell (p := ⟨0, 0, none⟩) h00).trans hm⟩
/-- Rows of texts in blocks of their own, rising. -/
def RtC (w : World) (bd : Nat → Nat) (vs : List Value) (L : List (List Tx)) : Prop := vs.length = L.length ∧ ∀ k, k < L.length → ∃ u, vs[k]? = some u ∧ w.ownsRow (bd k) 9 1 u (L.getD k []).length ((L.getD k []).map encT) ∧ (∀ g, u.ownBlock = some g → g < bd (k + 1)) ∧ bd k ≤ bd (k + 1)
theorem RtC.nil (w : World) (bd : Nat → Nat) : RtC w bd [] [] := ⟨rfl, fun k hk => absurd hk (by simp)⟩
theorem RtC.stay {w w' : World} {bd : Nat → Nat} {vs : List Value} {L : List (List Tx)} {e' : TypeId} (h : RtC w bd vs L) (hk : Kept e' w w') (hne : (9 : TypeId) ≠ e') : RtC w' bd vs L := ⟨h.1, fun k hk' => by
  obtain ⟨u, h1, h2, h3⟩ := h.2 k hk'
  exact ⟨u, h1, Kept.row h2 hk hne, h3⟩⟩
theorem RtC.next {w w' : World} {bd : Nat → Nat} {vs : List Value} {L : List (List Tx)} (h : RtC w bd vs L) (hb : Below w.heap.size w w') : RtC w' bd vs L := ⟨h.1, fun k hk' => by
  obtain ⟨u, h1, h2, h3⟩ := h.2 k hk'
  exact ⟨u, h1, row_below h2 hb, h3⟩⟩
theorem RtC.more {w : World} {bd : Nat → Nat} {vs : List Value} {L : List (List Tx)} (h : RtC w bd vs L) {k0 B : Nat} {u : Value} {r : List Tx} (hk0 : L.length = k0) (hB : bd k0 ≤ B) (hr : w.ownsRow B 9 1 u r.length (r.map encT)) (hBw : B ≤ w.heap.size) : RtC w (fun j => if j ≤ k0 then bd j else w.heap.size) (vs ++ [u]) (L ++ [r]) := by
  subst hk0
  refine ⟨by rw [List.length_append, List.length_append, h.1]; rfl, fun k hk => ?_⟩
  rw [List.length_append, List.length_singleton] at hk
  by_cases hl : k < L.length
  · obtain ⟨u', e1, e3, e4, e5⟩ := h.2 k hl
    refine ⟨u', ?_, ?_, ?_, ?_⟩
    · rw [List.getElem?_append_left (by rw [h.1]; omega)]; exact e1
    · rw [List.getD_eq_getElem?_getD, List.getElem?_append_left hl, ← List.getD_eq_getElem?_getD]; simp only [if_pos (Nat.le_of_lt hl)]; exact e3
    · simp only [if_pos (show k + 1 ≤ L.length by omega)]; exact e4
    · simp only [if_pos (show k + 1 ≤ L.length by omega), if_pos (Nat.le_of_lt hl)]; exact e5
  · obtain rfl : k = L.length := by omega
    have e : (L ++ [r]).getD L.length [] = r := by rw [List.getD_eq_getElem?_getD, List.getElem?_append_right (Nat.le_refl _), Nat.sub_self]; rfl
    refine ⟨u, ?_, by rw [e]; simp only [if_pos (Nat.le_refl L.length)]; exact row_mono hr hB, fun g hg => ?_, ?_⟩
    · rw [List.getElem?_append_right (by rw [h.1]; omega), h.1, Nat.sub_self]; rfl
    · simp only [if_neg (show ¬ L.length + 1 ≤ L.length by omega)]; exact (own_lt hr hg).2
    · simp only [if_neg (show ¬ L.length + 1 ≤ L.length by omega), if_pos (Nat.le_refl L.length)]; exact Nat.le_trans hB hBw
theorem RtC.up {w : World} {bd : Nat → Nat} {vs : List Value} {L : List (List Tx)} (h : RtC w bd vs L) {i : Nat} : ∀ j, i ≤ j → j ≤ L.length → bd i ≤ bd j
  | 0, hi, _ => by rw [Nat.le_zero.1 hi]; exact Nat.le_refl _
  | j + 1, hi, hj => by
    rcases Nat.lt_or_ge i (j + 1) with h1 | h1
    · obtain ⟨_, _, _, _, h5⟩ := h.2 j (by omega)
      exact Nat.le_trans (h.up j (by omega) (by omega)) h5
    · rw [Nat.le_antisymm hi h1]; exact Nat.le_refl _
theorem RtC.rv {w : World} {bd : Nat → Nat} {vs : List Value} {L : List (List Tx)} (h : RtC w bd vs L) : RvAt w w.heap.size vs L := ⟨h.1, fun k hk => by
  obtain ⟨u, h1, h2, _⟩ := h.2 k hk
  exact ⟨u, h1, sr_of_own h2 rfl⟩⟩
/-- The rows from k on stand. -/
def RtF (w : World) (bd : Nat → Nat) (vs : List Value) (L : List (List Tx)) (k : Nat) : Prop := ∀ j, k ≤ j → j < L.length → ∀ u, vs[j]? = some u → w.ownsRow (bd j) 9 1 u (L.getD j []).length ((L.getD j []).map encT)
theorem RtC.rows {w : World} {bd : Nat → Nat} {vs : List Value} {L : List (List Tx)} (h : RtC w bd vs L) : RtF w bd vs L 0 := fun j _ hj u hx => by
  obtain ⟨u', h2, h3, _⟩ := h.2 j hj
  rw [h2] at hx
  cases hx
  exact h3
theorem RtF.next {w w' : World} {bd : Nat → Nat} {vs : List Value} {L : List (List Tx)} {k : Nat} (h : RtF w bd vs L k) (hb : Below w.heap.size w w') : RtF w' bd vs L k := fun j h1 h2 u h3 => row_below (h j h1 h2 u h3) hb
theorem own_one35 (w : World) (v : Value) (hv : v.oneCell' = true) : (w.alloc (.cells #[v] (35 : TypeId))).ownsRow w.heap.size 35 1 (.slice (some ⟨w.heap.size, 0, none⟩) 1 1) 1 [v] :=
  ⟨rfl, .inr ⟨w.heap.size, 1, #[v], rfl, Nat.le_refl _, heap_alloc_new _ _, Nat.le_refl _, by unfold maxLen; omega, rfl, rfl⟩⟩
theorem row_one {w : World} {b n : Nat} {e : TypeId} {k : Nat} {v : Value} {xs : List Value} (h : w.ownsRow b e k v n xs) : v.oneCell' = true := by
  rcases h.2 with ⟨rfl, _⟩ | ⟨g, cap, cur, rfl, _⟩ <;> rfl
/-- Nothing but rows of texts below X was written. -/
def Spo (X : Nat) (w w' : World) : Prop := w.heap.size ≤ w'.heap.size ∧ ∀ b, b < w.heap.size → (b < X → ∀ cs, w.heap[b]? ≠ some (.cells cs 9 (0, 0))) → w'.heap[b]? = w.heap[b]?
theorem Spo.refl (X : Nat) (w : World) : Spo X w w := ⟨Nat.le_refl _, fun _ _ _ => rfl⟩
theorem Spo.put {X g : Nat} {w wr : World} (h : Spo X w wr) (hg : g < X) (hc : ∃ cs, w.heap[g]? = some (.cells cs 9 (0, 0))) (i : Nat) (v : Value) : Spo X w (wr.setCell ⟨g, i, none⟩ v) := by
  refine ⟨by rw [show (wr.setCell ⟨g, i, none⟩ v).heap.size = wr.heap.size by simp]; exact h.1, fun b hb hn => ?_⟩
  rw [heap_setCell_other wr ⟨g, i, none⟩ b v (fun e => by
    obtain ⟨cs, hc⟩ := hc
    have e' : b = g := e
    subst e'
    exact hn hg cs hc)]
  exact h.2 b hb hn
theorem Spo.next {X : Nat} {w wr w' : World} (h : Spo X w wr) (hb : Below wr.heap.size wr w') : Spo X w w' := ⟨Nat.le_trans h.1 hb.size, fun b h1 h2 => (hb.block b (Nat.lt_of_lt_of_le h1 h.1)).trans (h.2 b h1 h2)⟩
theorem Spo.sr {X : Nat} {w w' : World} (h : Spo X w w') {B : Nat} {v : Value} {ss : List Tx} (hs : SrAt w B v ss) (hf : ∀ g o n c, v = .slice (some ⟨g, o, none⟩) n c → X ≤ g) : SrAt w' B v ss := by
  obtain ⟨a, cap, h1, h2, h3, h4⟩ := hs
  refine ⟨a, cap, h1, h2, h3, fun k hk => ?_⟩
  obtain ⟨g, o, cs, e1, e2, e3, e4⟩ := h4 k hk
  subst e1
  have := hf g o _ _ h1
  exact ⟨g, o, cs, rfl, e2, (h.2 g (row_lt e3) (fun hx => by omega)).trans e3, e4⟩
theorem Spo.block {X : Nat} {w w' : World} (h : Spo X w w') {b : Nat} {cs : Array Value} {e : TypeId} (hb : w.heap[b]? = some (.cells cs e (0, 0))) (he : e ≠ 9) : w'.heap[b]? = w.heap[b]? := h.2 b (row_lt hb) (fun _ cs' hc => by rw [hb] at hc; cases hc; exact he rfl)
theorem Spo.row {X : Nat} {w w' : World} (h : Spo X w w') {base e k n : Nat} {v : Value} {xs : List Value} (hr : w.ownsRow base e k v n xs) (he : (e : TypeId) ≠ 9) : w'.ownsRow base e k v n xs := by
  refine ⟨hr.1, ?_⟩
  rcases hr.2 with h0 | ⟨b, cap, cur, hv, hb, hc, hr⟩
  · exact .inl h0
  · exact .inr ⟨b, cap, cur, hv, hb, (h.block hc he).trans hc, hr⟩
theorem Spo.ru {X : Nat} {w w' : World} (h : Spo X w w') {B : Nat} {xs : List Value} {R : List (Nat × List Int)} (hr : RuB w B xs R) : RuB w' B xs R := ⟨hr.1, fun k hk => by
  obtain ⟨u, h1, h2, h3⟩ := hr.2 k hk
  exact ⟨u, h1, h2, h3.kept fun g _ _ ⟨cs, hc⟩ => h.block hc (by decide)⟩⟩
theorem FarS.next {N p k : Nat} {w w' : World} (h : FarS N w p k) (hp : p < w.heap.size) (hb : Below w.heap.size w w') : FarS N w' p k := fun g o n c hc => h g o n c ((hb.cell (p := ⟨p, k, none⟩) hp).symm.trans hc)
theorem GfN.next {N p : Nat} {w w' : World} {R : List (Nat × List Int)} (h : GfN N w p R) (hp : p < w.heap.size) (hb : Below w.heap.size w w') : GfN N w' p R := by
  obtain ⟨h1, v, B, base, xs, e1, e2, e3⟩ := h
  exact ⟨h1.next hp hb, v, B, base, xs, (hb.cell (p := ⟨p, 4, none⟩) hp).trans e1, row_below e2 hb, e3.next hb⟩
theorem Spo.gf {X : Nat} {w w' : World} (h : Spo X w w') {p : Nat} {T O : List Tx} {st : Nat} {R : List (Nat × List Int)} {nul : Nat} {bg fo : Nat → Nat} (hg : GfAt w p T O st R nul bg fo) (hn : GfN X w p R) : GfAt w' p T O st R nul bg fo := by
  obtain ⟨⟨cs, h0, ⟨v, B, h1, h2⟩, ⟨b, n, h3, h4⟩, h5, h6, ⟨v4, h7, h8⟩, h9, h10, h11⟩, r1, r2, r3, r4, r5, r6, r7, r8, r9, r10⟩ := hg
  obtain ⟨hf, v', B', base, xs, e1, e2, e3⟩ := hn
  have hv : v4 = v' := Option.some.inj ((h7.symm.trans (h0.cell 4).symm).trans e1)
  subst hv
  refine ⟨⟨cs, (h.block h0 (by decide)).trans h0, ⟨v, B, h1, h.sr h2 fun g o n c hv => hf g o n c ((h0.cell 0).trans (by rw [h1, hv]))⟩, ⟨b, n, h3, ?_⟩, h5, h6, ⟨v4, h7, ?_⟩, h9, h10, h11⟩, r1, r2, r3, r4, r5, r6, r7, r8, r9, r10⟩
  · refine h4.kept (h.2 b h4.lt fun _ cs' hc => ?_)
    obtain ⟨es, clock, hm⟩ := h4.is
    rw [hm] at hc; cases hc
  · exact ru_of_own (h.row e2 (by decide)) rfl (h.ru e3)
theorem Spo.rg {X : Nat} {w w' : World} (h : Spo X w w') {p : Nat} {T O : List Tx} {R : List (Nat × List Int)} {s : Int} (hg : RgAt w p T O R s) (hf0 : FarS X w p 0) (hf1 : FarS X w p 1) : RgAt w' p T O R s := by
  obtain ⟨v0, v1, v2, base, xs, h1, h2, h3, h4, h5⟩ := hg
  obtain ⟨c0, c1, c2, c3⟩ := h1.cells
  refine ⟨v0, v1, v2, base, xs, (h.block h1 (by decide)).trans h1, h.sr h2 fun g o n c hv => hf0 g o n c (by rw [c0, hv]), h.sr h3 fun g o n c hv => hf1 g o n c (by rw [c1, hv]), h.row h4 (by decide), (h.ru h5).mono h.1⟩
end Go.Proofs.YtgmbkelmgolkpaaDoor
/- GrammarMakes: the law's walk. -/
namespace Go.Proofs.YtgmbkelmgolkpaaDoor
open Go.RowKit Go.Maps
set_option linter.unusedVariables false

/-- What New left of a grammar: nothing, or new memory. -/
def MadeG (T O : List Tx) (s : Tx) (L : List (List Tx)) (N : Nat) (w : World) (gv : Value) : Prop := (newE T O s L ≠ 0 ∧ gv = .pointer none) ∨ (newE T O s L = 0 ∧ ∃ p nul bg fo, gv = .pointer (some ⟨p, 0, none⟩) ∧ p < w.heap.size ∧ GfAt w p T O (vaF (nuF T O) s).toNat (L.map (rnF (nuF T O))) nul bg fo ∧ GfN N w p (L.map (rnF (nuF T O))))
theorem MadeG.next {T O : List Tx} {s : Tx} {L : List (List Tx)} {N : Nat} {w w' : World} {gv : Value} (h : MadeG T O s L N w gv) (hb : Below w.heap.size w w') : MadeG T O s L N w' gv := by
  rcases h with h | ⟨h0, p, nul, bg, fo, h1, h2, h3, h4⟩
  · exact .inl h
  · exact .inr ⟨h0, p, nul, bg, fo, h1, Nat.lt_of_lt_of_le h2 hb.size, h3.next hb, h4.next h2 hb⟩
def MadeR (T O : List Tx) (s : Tx) (L : List (List Tx)) (N : Nat) (w : World) (rv : Value) : Prop := (newE T O s L ≠ 0 ∧ rv = .pointer none) ∨ (newE T O s L = 0 ∧ ∃ p, rv = .pointer (some ⟨p, 0, none⟩) ∧ RgAt w p T O (L.map (dnF T O)) (atS O s) ∧ FarS N w p 0 ∧ FarS N w p 1)
theorem made_same {T O : List Tx} {s : Tx} {L : List (List Tx)} {N : Nat} {w w' : World} {gv rv : Value} (hg : MadeG T O s L N w gv) (hr : MadeR T O s L N w rv) (h : Spo N w w') : Calls Tryd.prog 11 #[gv, rv] w' fun e w'' => e = .returned (.bool true) ∧ Below w'.heap.size w' w'' := by
  rcases hg with ⟨h0, rfl⟩ | ⟨h0, p, nul, bg, fo, rfl, _, h3, h4⟩
  · rcases hr with ⟨_, rfl⟩ | ⟨h1, _⟩
    · exact same_nil w'
    · exact absurd h1 h0
  · rcases hr with ⟨h1, _⟩ | ⟨_, p2, rfl, g1, g2, g3⟩
    · exact absurd h0 h1
    · have hd : docE T O s L = 0 := by rw [doc_new]; exact h0
      obtain ⟨k1, k2⟩ := doc_start hd
      rw [doc_rules hd] at h3 h4
      exact same_any (h.gf h3 h4) (h.rg g1 g2 g3) k1 k2 (doc_ok hd).1
set_option maxRecDepth 100000 in
set_option maxHeartbeats 3200000 in
theorem makes_any (T O : List Tx) (hT : TxOk T) (hO : TxOk O) (hTl : T.length ≤ 1048576) (hOl : O.length ≤ 1048576) (s : Tx) (hsl : s.length ≤ maxLen) (L : List (List Tx)) (hok : LxOk L) (hll : L.length ≤ 1048576) (hrl : ∀ r ∈ L, r.length ≤ 1048576) (v0 v1 v3 : Value) (mx : Int) (w : World) (h00 : 0 < w.heap.size) (hmx : w.cell? ⟨0, 0, none⟩ = some (.int .i64 mx)) (h0 : StAt w 0 v0 T) (h1 : StAt w 0 v1 O) (h3 : RqAt w v3 L) :
    Calls Tryd.prog 4 #[v0, v1, encT s, v3] w fun e w' => e = .returned (.bool true) ∧ Below w.heap.size w w' := by
  have HNEW : Hid (∀ (w6 : World) (t o v : Value), SrAt w6 w6.heap.size t T → SrAt w6 w6.heap.size o O → RlAt w6 v L → Calls Tryd.prog 15 #[t, o, encT s, v] w6 fun e w' => ∃ gv, e = .returned (.tuple #[gv, .int .i64 (newE T O s L)]) ∧ MadeG T O s L w6.heap.size w' gv ∧ Below w6.heap.size w6 w') := fun w6 t o v k1 k2 k3 => (new_own T O hT hO (by omega) s hsl L hok (by omega) hrl _ _ t o v w6 k1 k2 k3).mono fun e w' hh => by
    obtain ⟨hb, e1, e2⟩ := hh
    by_cases hE : newE T O s L = 0
    · obtain ⟨p, nul, bg, fo, k1, k2, k3, k4⟩ := e2 hE
      refine ⟨_, by rw [hE]; exact k1, .inr ⟨hE, p, nul, bg, fo, rfl, ?_, k3, k4⟩, hb⟩
      obtain ⟨cs, hcs, _⟩ := k3.cs
      exact hcs.lt
    · exact ⟨_, e1 hE, .inl ⟨hE, rfl⟩, hb⟩
  have HREF : Hid (∀ (w7 : World) (N : Nat), Below w.heap.size w w7 → N ≤ w7.heap.size → Calls Tryd.prog 16 #[v0, v1, encT s, v3] w7 fun e w' => ∃ rv, e = .returned (.tuple #[rv, .int .i64 (newE T O s L)]) ∧ MadeR T O s L N w' rv ∧ Below w7.heap.size w7 w') := fun w7 N hb hN => (refNew_any T O hT hO hTl hOl s L hll hrl 0 0 v0 v1 v3 w7 (h0.next hb) (h1.next hb) (h3.next hb)).mono fun e w' hh => by
    obtain ⟨hb, e1, e2⟩ := hh
    rw [doc_new] at e1 e2
    by_cases hE : newE T O s L = 0
    · obtain ⟨p, k1, k2, k3, k4, k5⟩ := e2 hE
      exact ⟨_, by rw [hE]; exact k1, .inr ⟨hE, p, rfl, k3, fun g o n c h => Nat.le_trans hN (k4 g o n c h), fun g o n c h => Nat.le_trans hN (k5 g o n c h)⟩, hb⟩
    · exact ⟨_, e1 hE, .inl ⟨hE, rfl⟩, hb⟩
  have HSAM : Hid (∀ (N : Nat) (w8 w' : World) (gv rv : Value), MadeG T O s L N w8 gv → MadeR T O s L N w8 rv → Spo N w8 w' → Calls Tryd.prog 11 #[gv, rv] w' fun e w'' => e = .returned (.bool true) ∧ Below w'.heap.size w' w'') := fun N w8 w' gv rv k1 k2 k3 => made_same k1 k2 k3
  have HALV := hidD (fun w1 (hb : Below w.heap.size w w1) => alive_any mx w1 (var_next h00 hmx hb).1 (var_next h00 hmx hb).2)
  have HTXT := hidD (fun (ss : List Tx) (hl : ss.length ≤ 1048576) (B B' : Nat) (u v : Value) (w' : World) (k1 : StAt w' B u ss) (k2 : StAt w' B' v ss) => texts_same ss (by omega) B B' u v w' k1 k2)
  have HT := hidD h0
  have HO := hidD h1
  have HL := hidD h3
  have HRL := hidD hrl
  have HAA : Hid (∀ (wB : World) o, Below wB.heap.size wB (wB.alloc o)) := fun wB o => (Below.refl _ _).alloc (Nat.le_refl _) o
  obtain ⟨a0, c0, rfl⟩ := h0.shape
  obtain ⟨a1, c1, rfl⟩ := h1.shape
  obtain ⟨a3, c3, rfl, hc31, hc32, _⟩ := h3
  have HTL : Hid (T.length ≤ 1048576) := hTl
  have HOL : Hid (O.length ≤ 1048576) := hOl
  have HLE : Hid (L.take L.length = L) := List.take_length
  have HLK : Hid (∀ k, k < L.length → L.take (k + 1) = L.take k ++ [L.getD k []]) := fun k hk => by rw [List.take_succ_eq_append_getElem hk, List.getD_eq_getElem?_getD, List.getElem?_eq_getElem hk]; rfl
  have HLT : Hid (∀ k, k ≤ L.length → (L.take k).length = k) := fun k hk => by rw [List.length_take]; omega
  have hEE : (newE T O s L == newE T O s L) = true := beq_self_eq_true _
  clear h0 h1 hT hO hok hrl hmx h00
  unfold encT
  unfold encT at HNEW HREF
  generalize hnT : T.length = nT at *
  generalize hnO : O.length = nO at *
  generalize hnL : L.length = nL at *
  have HNT := hidD hnT
  have HNO := hidD hnO
  have HNL := hidD hnL
  clear hnT hnO hnL
  have HMG : Hid (∀ (N : Nat) (w1 w2 : World) (gv : Value), MadeG T O s L N w1 gv → Below w1.heap.size w1 w2 → MadeG T O s L N w2 gv) := fun N w1 w2 gv h hb => h.next hb
  generalize bA s = SS at *
  generalize newE T O s L = E at *
  generalize MadeG T O s L = MG at *
  generalize MadeR T O s L = MR at *
  go_enter Tryd.func4, Tryd.ntmps4
  go_wp2_with fail
  go_loopw [9, 10] (fun ov i wr => ∃ (k : Nat) (bd : Nat → Nat) (vs : List Value), k ≤ nL ∧ i = .int .i64 (k : Int) ∧ wr.ownsRow w.heap.size 35 1 ov k vs ∧ RtC wr bd vs (L.take k) ∧ (bd k ≤ wr.heap.size ∧ w.heap.size ≤ bd 0) ∧ Below w.heap.size w wr) (fun _ i _ => nL - (intOf i).toNat)
  case atStart => exact ⟨0, fun _ => w.heap.size, [], Nat.zero_le _, rfl, own_none _ _ _ _, RtC.nil _ _, ⟨Nat.le_refl _, Nat.le_refl _⟩, Below.refl _ _⟩
  case round =>
    obtain ⟨k, bd, vs, hk, rfl, hown, hrt, hB, hbel⟩ := hrel
    have HOW := hidD hown
    have HRT := hidD hrt
    have HBB := hidD hB
    have HBW := hidD hbel
    obtain ⟨a9, c9, h9⟩ := row_shape hown
    subst h9
    clear hown hrt hB hbel
    by_cases hlt : k < nL
    · have hlti : (k : Int) < (nL : Int) := by omega
      obtain ⟨g3, o3, u, e4, hg3, f3, hst⟩ := rq_cell (HL.out.next HBW.out) (k := k) (by rw [HNL.out]; exact hlt)
      subst e4
      obtain ⟨ar, cr, rfl⟩ := hst.shape
      have HST := hidD hst
      have HLK1 := hidD (HLK.out k hlt)
      have hrb : (L.getD k []).length ≤ 1048576 := HRL.out _ (by rw [List.getD_eq_getElem?_getD, List.getElem?_eq_getElem (by rw [HNL.out]; exact hlt)]; exact List.getElem_mem _)
      generalize L.getD k [] = r at *
      clear hst
      generalize hnr : r.length = nr at *
      have HNR := hidD hnr
      clear hnr
      have f4 : ∀ o, (wr.alloc o).cell? ⟨g3, o3 + k, none⟩ = some (.slice ar nr cr) := fun o => ((HAA.out wr o).cell (p := ⟨g3, o3 + k, none⟩) hg3).trans f3
      go_wp2_with (first
        | (at_builtin; refine wpList_append_rows rfl _ _ rfl w.heap.size (.slice a9 k c9) k vs rfl (row_below HOW5.out (HAA.out w5 _)) w5.heap.size (.slice (some ⟨w5.heap.size, 0, none⟩) 1 1) 1 [.slice aT nr cT] rfl (own_one35 w5 _ rfl) (by intro y hy; rw [List.mem_singleton] at hy; rw [hy]; rfl) (by omega) (by have := HBW5.out.size; simp; omega) ?_; intro v8 w8 hown8 hb8 hk8; have HO8 := hidD hown8; have HB8 := hidD (Below.trans (Below.next HBW5.out (HAA.out w5 _)) hb8); have HR8 := hidD ((HRT5.out.next (HAA.out w5 _)).stay hk8 (by decide)); have HT8 := hidD (Kept.row (row_below HOT.out (HAA.out w5 _)) hk8 (by decide)); have HZ8 : Hid (wr.heap.size ≤ w8.heap.size) := Nat.le_trans HB5.out.size (Nat.le_trans (HAA.out w5 _).size hb8.size); clear hown8 hb8 hk8)
        | (at_builtin; refine wpList_append_st rfl _ _ rfl wr.heap.size (.slice (some ⟨wr.heap.size, 0, none⟩) 0 0) 0 [] rfl (own_empty wr) _ (.slice ar nr cr) r rfl (HST.out.next (HAA.out _ _)) (by rw [HNR.out]; omega) (by simp) ?_; intro vT w5 hoT hbT hkT; rw [HNR.out, Nat.zero_add, List.nil_append] at hoT; have HOT := hidD hoT; obtain ⟨aT, cT, hvT⟩ := row_shape hoT; subst hvT; have HB5 := hidD (Below.trans (HAA.out wr (.cells #[] (9 : TypeId))) hbT); have HOW5 := hidD (row_below HOW.out HB5.out); have HRT5 := hidD (HRT.out.next HB5.out); have HBW5 := hidD (Below.next HBW.out HB5.out); clear hoT hbT hkT))
      go_roundw
      case rel =>
        refine ⟨k + 1, fun j => if j ≤ k then bd j else w8.heap.size, vs ++ [.slice aT nr cT], by omega, by go_num, HO8.out, ?_, ⟨(by simp only [if_neg (show ¬ k + 1 ≤ k by omega)]; exact Nat.le_refl _), (by simp only [if_pos (Nat.zero_le k)]; exact HBB.out.2)⟩, HB8.out⟩
        rw [HLK1.out]
        exact HR8.out.more (HLT.out k hk) HBB.out.1 (by rw [HNR.out]; exact HT8.out) HZ8.out
      case measure => simp [intOf]; omega
    · obtain rfl : k = nL := by omega
      rw [HLE.out] at HRT
      obtain ⟨wL, hwL⟩ : ∃ wL, wL = wr := ⟨_, rfl⟩
      subst hwL
      have HBK : Hid (bd k ≤ wL.heap.size) := HBB.out.1
      have HBZ : Hid (w.heap.size ≤ bd 0) := HBB.out.2
      go_upto_region 9 with (first
        | (go_at_call 16; refine (HREF.out _ w6.heap.size HBW7.out HB7.out.size).mono ?_; rintro e w8 ⟨rv, rfl, hmr, hb8⟩; have HMR := hidD hmr; have HB8 := hidD hb8; clear hmr hb8)
        | (go_at_call 15; refine (HNEW.out _ _ _ _ (sr_of_own HOT6.out HNT.out.symm) (sr_of_own HOO.out HNO.out.symm) (rl_of_own HOW6.out HNL.out.symm HRT6.out.rv)).mono ?_; rintro e w7 ⟨gv, rfl, hmg, hb7⟩; have HMG7 := hidD hmg; have HB7 := hidD hb7; have HBW7 := hidD (Below.next HBW6.out hb7); clear hmg hb7)
        | (at_builtin; have := M1; clear this; refine wpList_append_st rfl _ _ rfl w5.heap.size (.slice (some ⟨w5.heap.size, 0, none⟩) 0 0) 0 [] rfl (own_empty w5) 0 (.slice a1 nO c1) O rfl ((HO.out.next HBW5.out).next (HAA.out _ _)) (by rw [HNO.out]; omega) (by simp) ?_; intro vo w6 hoO hbO hkO; rw [HNO.out, Nat.zero_add, List.nil_append] at hoO; have HOO := hidD hoO; obtain ⟨ao, co, hvO⟩ := row_shape hoO; subst hvO; have HB6 := hidD (Below.trans (HAA.out w5 (.cells #[] (9 : TypeId))) hbO); have HOT6 := hidD (row_below HOT.out HB6.out); have HOW6 := hidD (row_below HOW5.out HB6.out); have HRT6 := hidD (HRT5.out.next HB6.out); have HBW6 := hidD (Below.next HBW5.out HB6.out); clear hoO hbO hkO)
        | (at_builtin; refine wpList_append_st rfl _ _ rfl wL.heap.size (.slice (some ⟨wL.heap.size, 0, none⟩) 0 0) 0 [] rfl (own_empty wL) 0 (.slice a0 nT c0) T rfl ((HT.out.next HBW.out).next (HAA.out _ _)) (by rw [HNT.out]; omega) (by simp) ?_; intro vt w5 hoT hbT hkT; rw [HNT.out, Nat.zero_add, List.nil_append] at hoT; have HOT := hidD hoT; obtain ⟨aT, cT, hvT⟩ := row_shape hoT; subst hvT; have HB5 := hidD (Below.trans (HAA.out wL (.cells #[] (9 : TypeId))) hbT); have HOW5 := hidD (row_below HOW.out HB5.out); have HRT5 := hidD (HRT.out.next HB5.out); have HBW5 := hidD (Below.next HBW.out HB5.out); have M1 := trivial; clear hoT hbT hkT))
      have HBW8 := hidD (Below.next HBW7.out HB8.out)
      have HB68 := hidD (Below.next HB7.out HB8.out)
      have HMG8 := hidD (HMG.out _ _ _ _ HMG7.out HB8.out)
      have HSM8 := hidD (fun (w' : World) (k3 : Spo w6.heap.size w8 w') => HSAM.out _ _ _ _ _ HMG8.out HMR.out k3)
      have HOW8 := hidD (row_below HOW6.out HB68.out)
      have HRT8 := hidD (HRT6.out.next HB68.out)
      have HOT8 := hidD (row_below HOT6.out HB68.out)
      have HOO8 := hidD (row_below (row_mono HOO.out HB5.out.size) HB68.out)
      have HL6 : Hid (wL.heap.size ≤ w6.heap.size) := Nat.le_trans HB5.out.size HB6.out.size
      have HS0 := hidD (Spo.refl w6.heap.size w8)
      clear HNEW HREF HSAM HMG7 HMG8 HMR HMG HOW HOW5 HOW6 HRT HRT5 HRT6 HOT HOT6 HOO HB5 HB6 HB7 HB8 HB68 HBW HBW5 HBW6 HBW7 M1 HBB
      go_wp2_with fail
      go_loopw [17, 18] (fun i _ wr => ∃ m : Nat, m ≤ k ∧ i = .int .i64 (m : Int) ∧ wr.ownsRow w.heap.size 35 1 (.slice a9 k c9) k vs ∧ RtF wr bd vs L m ∧ wr.ownsRow wL.heap.size 9 1 (.slice aT nT cT) nT (T.map encT) ∧ wr.ownsRow wL.heap.size 9 1 (.slice ao nO co) nO (O.map encT) ∧ Spo w6.heap.size w8 wr ∧ Below w.heap.size w wr) (fun i _ _ => k - (intOf i).toNat)
      case atStart => exact ⟨0, Nat.zero_le _, rfl, HOW8.out, HRT8.out.rows, HOT8.out, HOO8.out, HS0.out, HBW8.out⟩
      case round =>
        obtain ⟨m, hm, rfl, hou, hrf, hot, hoo, hsp, hbel⟩ := hrel
        obtain ⟨wo, hwo⟩ : ∃ wo, wo = wr := ⟨_, rfl⟩
        subst hwo
        have HOU := hidD hou
        have HRF := hidD hrf
        have HOT := hidD hot
        have HOO := hidD hoo
        have HSP := hidD hsp
        have HBO := hidD hbel
        clear hou hrf hot hoo hsp hbel
        by_cases hmt : m < k
        · have hmti : (m : Int) < (k : Int) := by omega
          obtain ⟨gu, cu, hu, hgu, _⟩ := own_some HOU.out (by omega)
          cases hu
          obtain ⟨u, x0, row8, hblk, hup⟩ := HRT8.out.2 m (by rw [HNL.out]; exact hmt)
          have hrow := HRF.out m (Nat.le_refl _) (by rw [HNL.out]; exact hmt) u x0
          have HCU : Hid (∀ w' : World, w'.ownsRow w.heap.size 35 1 (.slice (some ⟨gu, 0, none⟩) k c9) k vs → w'.cell? ⟨gu, m, none⟩ = some u) := fun w' ho => by
            have := ho.cells (g := gu) rfl m _ x0
            rwa [Addr.add_lit, Nat.zero_add] at this
          have c1 := HCU.out wo HOU.out
          obtain ⟨g3, o3, u3, e4, hg3, f3, hst⟩ := rq_cell (HL.out.next HBO.out) (k := m) (by rw [HNL.out]; exact hmt)
          subst e4
          obtain ⟨a4, c4, rfl⟩ := hst.shape
          have HST := hidD hst
          have hrb : (L.getD m []).length ≤ 1048576 := HRL.out _ (by rw [List.getD_eq_getElem?_getD, List.getElem?_eq_getElem (by rw [HNL.out]; exact hmt)]; exact List.getElem_mem _)
          have HROW := hidD hrow
          have HSR := hidD (sr_of_own hrow rfl).st
          have HBLK := hidD hblk
          have HR8 := hidD row8
          have HUJ : Hid (∀ j, m + 1 ≤ j → j ≤ k → bd (m + 1) ≤ bd j) := fun j k1 k2 => HRT8.out.up j k1 (by rw [HNL.out]; exact k2)
          have HU0 : Hid (w.heap.size ≤ bd m) := Nat.le_trans HBZ.out (HRT8.out.up m (Nat.zero_le _) (by rw [HNL.out]; exact hm))
          obtain ⟨ar, cr3, hrv⟩ := row_shape hrow
          subst hrv
          have HTX := hidD (fun (w' : World) (B B' : Nat) k1 k2 => HTXT.out (L.getD m []) hrb B B' (.slice ar (L.getD m []).length cr3) (.slice a4 (L.getD m []).length c4) w' k1 k2)
          clear hst hrow hblk hup row8 x0
          generalize hrr : L.getD m [] = r at *
          clear hrr
          generalize hnr : r.length = nr at *
          have HNR := hidD hnr
          clear hnr
          go_wp2_with fail
          have j0 : ∀ i : BW wo, i.v.cell? ⟨gu, m, none⟩ = _ := fun i => (i.cell (cell_lt c1)).trans c1
          have j1 : ∀ i : BW wo, i.v.cell? ⟨g3, o3 + m, none⟩ = _ := fun i => (i.cell hg3).trans f3
          have q17 := hidD (fun (i : BW wo) => HTX.out i.v _ _ (HSR.out.next i.below) (HST.out.next i.below))
          clear c1 f3
          refine wp_region_below (by kernel_rfl) (by kernel_rfl) ?_
          repeat (go_big_quiet_step ((go_at_call 17; exact Calls.below_of (q17.out _))))
          refine wpQuiet_nil ?_
          intro i
          have HB3 := hidD (Below.next HBO.out i.below)
          have HO3 := hidD (row_below HOU.out i.below)
          have HRW3 := hidD (row_below HROW.out i.below)
          have HRF3 := hidD (HRF.out.next i.below)
          have HOT3 := hidD (row_below HOT.out i.below)
          have HOO3 := hidD (row_below HOO.out i.below)
          have HSP3 := hidD (HSP.out.next i.below)
          clear j0 j1 q17
          generalize i.v = w3 at *
          go_wp2_with fail
          go_loopw [18] (fun i wr => ∃ (q : Nat) (ys : List Value), q ≤ nr ∧ i = .int .i64 (q : Int) ∧ wr.ownsRow (bd m) 9 1 (.slice ar nr cr3) nr ys ∧ wr.ownsRow w.heap.size 35 1 (.slice (some ⟨gu, 0, none⟩) k c9) k vs ∧ RtF wr bd vs L (m + 1) ∧ wr.ownsRow wL.heap.size 9 1 (.slice aT nT cT) nT (T.map encT) ∧ wr.ownsRow wL.heap.size 9 1 (.slice ao nO co) nO (O.map encT) ∧ Spo w6.heap.size w8 wr ∧ Below w.heap.size w wr) (fun i _ => nr - (intOf i).toNat)
          case atStart => exact ⟨0, _, Nat.zero_le _, rfl, HRW3.out, HO3.out, fun j h1 h2 => HRF3.out j (by omega) h2, HOT3.out, HOO3.out, HSP3.out, HB3.out⟩
          case round =>
            obtain ⟨q, ys, hq, rfl, hro, hou, hrf, hot, hoo, hsp, hbel⟩ := hrel
            have HRO := hidD hro
            have HOU4 := hidD hou
            have HRF4 := hidD hrf
            have HOT4 := hidD hot
            have HOO4 := hidD hoo
            have HSP4 := hidD hsp
            have HB4 := hidD hbel
            have c1 := HCU.out wr hou
            clear hro hou hrf hot hoo hsp hbel
            by_cases hqt : q < nr
            · have hqti : (q : Int) < (nr : Int) := by omega
              obtain ⟨g2, c5, hv, hg2, hg3', cs2, hcs2⟩ := own_some HRO.out (by omega)
              cases hv
              have hfz := HRO.out.frozenAt q
              obtain ⟨yv, hyv⟩ : ∃ yv, wr.cell? ⟨g2, q, none⟩ = some yv := by
                have hly : ys.length = nr := by have := HRO.out.1; omega
                have := HRO.out.cells (g := g2) rfl q (ys[q]'(by omega)) (List.getElem?_eq_getElem (by omega))
                rw [Addr.add_lit, Nat.zero_add] at this
                exact ⟨_, this⟩
              have HG2 : Hid (g2 < bd (m + 1)) := HBLK.out g2 rfl
              have HGL : Hid (g2 < wL.heap.size) := Nat.lt_of_lt_of_le HG2.out (Nat.le_trans (HUJ.out k (by omega) (Nat.le_refl _)) HBK.out)
              have HT8 : Hid (∃ cs, w8.heap[g2]? = some (.cells cs 9 (0, 0))) := by
                obtain ⟨g9, c9', e9, _, _, cs9, hcs9⟩ := own_some HR8.out (by omega)
                cases e9
                exact ⟨cs9, hcs9⟩
              have HST5 := hidD (HRO.out.stored q (.string ⟨#[115, 112, 111, 105, 108, 116]⟩))
              have HNE : Hid ((Value.slice (some ⟨gu, 0, none⟩) k c9).ownBlock ≠ some g2) := fun e => by
                obtain ⟨g9, c9', e9, _, _, cs9, hcs9⟩ := own_some HOU4.out (by omega)
                cases e9
                cases e
                rw [hcs2] at hcs9
                cases hcs9
              have HFIN : Hid (RtF (wr.setCell ⟨g2, q, none⟩ (.string ⟨#[115, 112, 111, 105, 108, 116]⟩)) bd vs L (m + 1)) := fun j h1 h2 rv' h3 => own_other (HRF4.out j h1 h2 rv' h3) HST5.out.2 (fun e => by
                have h5 := (own_lt (HRF4.out j h1 h2 rv' h3) e).1
                have h6 := HUJ.out j h1 (by rw [← HNL.out]; omega)
                have h7 := HG2.out
                omega)
              have HOU5 := hidD (own_other HOU4.out HST5.out.2 HNE.out)
              have HOT5 := hidD (own_other HOT4.out HST5.out.2 (fun e => by have h5 := (own_lt HOT4.out e).1; have := HGL.out; omega))
              have HOO5 := hidD (own_other HOO4.out HST5.out.2 (fun e => by have h5 := (own_lt HOO4.out e).1; have := HGL.out; omega))
              have HSP5 := hidD (HSP4.out.put (Nat.lt_of_lt_of_le HGL.out HL6.out) HT8.out q (.string ⟨#[115, 112, 111, 105, 108, 116]⟩))
              have HB5 := hidD (HB4.out.setCell (p := ⟨g2, q, none⟩) (show w.heap.size ≤ g2 from Nat.le_trans HU0.out hg2) (.string ⟨#[115, 112, 111, 105, 108, 116]⟩))
              go_wp2_with fail
              go_roundw
              case rel => exact ⟨q + 1, _, by omega, by go_num, HST5.out.1, HOU5.out, HFIN.out, HOT5.out, HOO5.out, HSP5.out, HB5.out⟩
              case measure => simp [intOf]; omega
            · obtain rfl : q = nr := by omega
              go_wp2_with fail
              go_roundw
              case rel => exact ⟨m + 1, by omega, by go_num, HOU4.out, HRF4.out, HOT4.out, HOO4.out, HSP4.out, HB4.out⟩
              case measure => simp [intOf]; omega
        · obtain rfl : m = k := by omega
          have HX1 := hidD (HTXT.out T (by rw [HNT.out]; exact HTL.out) _ _ _ _ _ (sr_of_own HOT.out HNT.out.symm).st (HT.out.next HBO.out))
          have HX2 : Hid (∀ w', Below wo.heap.size wo w' → Calls Tryd.prog 17 #[.slice ao nO co, .slice a1 nO c1] w' fun e w'' => e = .returned (.bool true) ∧ Below w'.heap.size w' w'') := fun w' hb => HTXT.out O (by rw [HNO.out]; exact HOL.out) _ _ _ _ _ ((sr_of_own HOO.out HNO.out.symm).st.next hb) ((HO.out.next HBO.out).next hb)
          go_wp2_with first
            | (go_at_call 12; refine (HALV.out _ HB7.out).mono ?_; rintro e w9 ⟨rfl, hb9⟩; have HB9 := hidD (Below.next HB7.out hb9); clear hb9)
            | (go_at_call 11; refine (HSM8.out _ HSP6.out).mono ?_; rintro e w7 ⟨rfl, hb7⟩; have HB7 := hidD (Below.next HB6.out hb7); clear hb7)
            | (go_at_call 17; have := M2; clear this; refine (HX2.out _ HB5w.out).mono ?_; rintro e w6' ⟨rfl, hb6⟩; have HB6 := hidD (Below.next HB5.out hb6); have HSP6 := hidD (HSP5.out.next hb6); clear hb6)
            | (go_at_call 17; refine HX1.out.mono ?_; rintro e w5 ⟨rfl, hb5⟩; have HB5 := hidD (Below.next HBO.out hb5); have HB5w := hidD hb5; have HSP5 := hidD (HSP.out.next hb5); have M2 := trivial; clear hb5)
          all_goals first | exact (un_bool5 (by assumption)).elim | skip
          go_ret
          exact ⟨rfl, HB9.out⟩
end Go.Proofs.YtgmbkelmgolkpaaDoor
