/- Texts of one proof, one behind the other. -/
import Derived.Test.YtgmbkelmgolkpaaDoorGs
import Derived.ArgAppend
/- Appends that say which blocks stay: rows of texts, of rows, of whatever one cell. -/
namespace Go.Proofs.YtgmbkelmgolkpaaDoor
open Go.RowKit
set_option linter.unusedVariables false

/-- All blocks that are no rows of this type are as they were. -/
def Kept (e : TypeId) (w w' : World) : Prop := ∀ b, b < w.heap.size → (∀ cs, w.heap[b]? ≠ some (.cells cs e (0, 0))) → w'.heap[b]? = w.heap[b]?
theorem row_mono {w : World} {base base' e size n : Nat} {v : Value} {xs : List Value} (h : w.ownsRow base e size v n xs) (hb : base' ≤ base) : w.ownsRow base' e size v n xs := by
  refine ⟨h.1, ?_⟩
  rcases h.2 with h0 | ⟨g, cap, cur, hv, hbg, r⟩
  · exact .inl h0
  · exact .inr ⟨g, cap, cur, hv, by omega, r⟩
theorem kept_of_grown {w w' : World} {base e size n : Nat} {v : Value} {xs : List Value} (h : w.ownsRow base e size v n xs) (hg : w.grownBy w' v.ownBlock) : Kept e w w' := by
  intro b hb hne
  refine hg.block b hb fun e => ?_
  rcases h.2 with ⟨rfl, _⟩ | ⟨g, cap, cur, rfl, hbg, hgg, _⟩
  · cases e
  · cases e
    exact hne cur hgg
theorem kept_none {w w' : World} {e : TypeId} (hg : w.grownBy w' none) : Kept e w w' := fun b hb _ => hg.block b hb nofun
theorem Kept.row {w w' : World} {base e e' size n : Nat} {v : Value} {xs : List Value} (h : w.ownsRow base e size v n xs) (hk : Kept e' w w') (hne : e ≠ e') : w'.ownsRow base e size v n xs := by
  refine ⟨h.1, ?_⟩
  rcases h.2 with h0 | ⟨g, cap, cur, hv, hbg, hgg, r⟩
  · exact .inl h0
  · refine .inr ⟨g, cap, cur, hv, hbg, ?_, r⟩
    rw [hk g (row_lt hgg) (fun cs e1 => ?_)]
    · exact hgg
    · rw [hgg] at e1; cases e1; exact hne rfl
theorem below_none {w w' : World} (hg : w.grownBy w' none) : Below w.heap.size w w' := ⟨hg.os, hg.tape, hg.output, hg.size, fun k hk => hg.block k hk nofun⟩
theorem SrAt.stay {w w' : World} {B : Nat} {v : Value} {ss : List Tx} {e' : TypeId} (h : SrAt w B v ss) (hk : Kept e' w w') (hne : (9 : TypeId) ≠ e') : SrAt w' B v ss := h.kept fun g _ hg ⟨cs, hc⟩ => hk g hg fun cs' e => by rw [hc] at e; cases e; exact hne rfl
theorem SrAt.below {w w' : World} {B B' : Nat} {v : Value} {ss : List Tx} (h : SrAt w B v ss) (hb : Below B' w w') (hB : B ≤ B') : SrAt w' B v ss := h.kept fun g hg _ _ => hb.block g (by omega)
/-- Values that read as rows of texts. -/
def RvAt (w : World) (B : Nat) (vs : List Value) (L : List (List Tx)) : Prop := vs.length = L.length ∧ ∀ k, k < L.length → ∃ u, vs[k]? = some u ∧ SrAt w B u (L.getD k [])
theorem RvAt.nil (w : World) (B : Nat) : RvAt w B [] [] := ⟨rfl, fun k hk => absurd hk (by simp)⟩
theorem RvAt.stay {w w' : World} {B : Nat} {vs : List Value} {L : List (List Tx)} {e' : TypeId} (h : RvAt w B vs L) (hk : Kept e' w w') (hne : (9 : TypeId) ≠ e') : RvAt w' B vs L := ⟨h.1, fun k hk' => by
  obtain ⟨u, h1, h2⟩ := h.2 k hk'
  exact ⟨u, h1, h2.stay hk hne⟩⟩
theorem RvAt.below {w w' : World} {B B' : Nat} {vs : List Value} {L : List (List Tx)} (h : RvAt w B vs L) (hb : Below B' w w') (hB : B ≤ B') : RvAt w' B vs L := ⟨h.1, fun k hk' => by
  obtain ⟨u, h1, h2⟩ := h.2 k hk'
  exact ⟨u, h1, h2.below hb hB⟩⟩
theorem RvAt.next {w w' : World} {B : Nat} {vs : List Value} {L : List (List Tx)} (h : RvAt w B vs L) (hb : Below w.heap.size w w') : RvAt w' B vs L := ⟨h.1, fun k hk' => by
  obtain ⟨u, h1, h2⟩ := h.2 k hk'
  exact ⟨u, h1, h2.next hb⟩⟩
theorem RvAt.mono {w : World} {B B' : Nat} {vs : List Value} {L : List (List Tx)} (h : RvAt w B vs L) (hB : B ≤ B') : RvAt w B' vs L := ⟨h.1, fun k hk' => by
  obtain ⟨u, h1, h2⟩ := h.2 k hk'
  exact ⟨u, h1, h2.mono hB⟩⟩
theorem RvAt.more {w : World} {B : Nat} {vs us : List Value} {L M : List (List Tx)} (h : RvAt w B vs L) (h2 : RvAt w B us M) : RvAt w B (vs ++ us) (L ++ M) := by
  refine ⟨by rw [List.length_append, List.length_append, h.1, h2.1], fun k hk => ?_⟩
  by_cases hl : k < L.length
  · obtain ⟨u, e1, e2⟩ := h.2 k hl
    refine ⟨u, by rw [List.getElem?_append_left (by rw [h.1]; exact hl)]; exact e1, ?_⟩
    rw [List.getD_eq_getElem?_getD, List.getElem?_append_left hl, ← List.getD_eq_getElem?_getD]; exact e2
  · rw [List.length_append] at hk
    obtain ⟨u, e1, e2⟩ := h2.2 (k - L.length) (by omega)
    refine ⟨u, by rw [List.getElem?_append_right (by rw [h.1]; omega), h.1]; exact e1, ?_⟩
    rw [List.getD_eq_getElem?_getD, List.getElem?_append_right (by omega), ← List.getD_eq_getElem?_getD]; exact e2
theorem RvAt.one {w : World} {B : Nat} {u : Value} {c : List Tx} (h : SrAt w B u c) : RvAt w B [u] [c] := ⟨rfl, fun k hk => by
  rw [List.length_singleton] at hk
  obtain rfl : k = 0 := by omega
  exact ⟨u, rfl, h⟩⟩
theorem rl_of_own {w : World} {base n : Nat} {v : Value} {vs : List Value} {L : List (List Tx)} {B : Nat} (h : w.ownsRow base 35 1 v n vs) (hn : n = L.length) (hr : RvAt w B vs L) : RlAt w v L := by
  subst hn
  rcases h.2 with ⟨rfl, h0⟩ | ⟨g, cap, cur, rfl, hb, hg, hnc, hcm, hcs, htk⟩
  · exact ⟨none, 0, by rw [h0], by omega, by omega, fun k hk => absurd hk (by omega)⟩
  · refine ⟨_, cap, rfl, hnc, by unfold maxLen at hcm; omega, fun k hk => ?_⟩
    obtain ⟨u, e1, e2⟩ := hr.2 k hk
    refine ⟨g, 0, u, rfl, row_lt hg, ?_, e2.all⟩
    have := h.cells (g := g) rfl k u e1
    rwa [show (⟨g, 0, none⟩ : Addr).add k = ⟨g, 0 + k, none⟩ from Addr.add_lit ..] at this
theorem Tryd.info35 : (Tryd.prog.info? 35).map (fun i => (i.zero, i.size, i.bytes)) = some (some (.slice none 0 0), 1, 24) := by kernel_rfl
theorem Tryd.under48 : Tryd.prog.underlying 35 = some (.slice 9) := by kernel_rfl
theorem Tryd.under50 : Tryd.prog.underlying 36 = some (.slice 35) := by kernel_rfl
/-- A value of one cell that is put behind a row of one's own. -/
theorem wpList_append_one {e t bytes : Nat} {z : Value} (hinfo : (Tryd.prog.info? e).map (fun i => (i.zero, i.size, i.bytes)) = some (some z, 1, bytes)) (hz : z.cells.size = 1) (hbt : bytes ≤ 24) (hut : Tryd.prog.underlying t = some (.slice e))
    {ops : Array Oper} {rest : List Oper} {o : Oper} {a : Act} {Q : Exit → Act → World → Prop} {w : World} (hgd : o.guard = none) (s x : Operand)
    (ho : o.op = .call { callee := .builtin .append, args := #[s, x], argTypes := #[t, t] }) (base : Nat) (v : Value) (n : Nat) (xs : List Value)
    (hs : a.eval s = v) (hown : w.ownsRow base e 1 v n xs) (g : Nat) (y : Value) (hx : a.eval x = .slice (some ⟨g, 0, none⟩) 1 1) (hc : w.cell? ⟨g, 0, none⟩ = some y) (hy : y.oneCell' = true) (hl : n ≤ 4398046511104) (hbase : base ≤ w.heap.size)
    (h : ∀ v' w', w'.ownsRow base e 1 v' (n + 1) (xs ++ [y]) → Below base w w' → Kept e w w' → wpList Tryd.prog ops Q rest (a.put o.dst v') w') : wpList Tryd.prog ops Q (o :: rest) a w := by
  obtain ⟨i0, hi, hz0, hz1, hz2⟩ := info_parts hinfo
  refine wpList_append_own w hgd s x t ho base e i0 z 1 bytes hut hi hz0 hz1 hz2 hz (by decide) v n xs hs hown ⟨g, 0, none⟩ 1 1 [y] hx (by simp) (fun j u hu => ?_) (by intro u hu; rw [List.mem_singleton] at hu; rw [hu]; exact hy) (by unfold maxLen; omega) (Nat.le_trans (Nat.mul_le_mul_left _ hbt) (by omega)) hbase ?_
  · match j, hu with
    | 0, hu =>
      rw [Go.WideShapes.add_plain]
      simp at hu
      rw [← hu]; exact hc
    | j + 1, hu => simp at hu
  · intro v' w' h1 h2 _
    exact h v' w' h1 (row_grown hown (Below.refl _ _) h2 hbase) (kept_of_grown hown h2)
/-- A row of texts that is one's own, or one without room. -/
def CurAt (w : World) (B : Nat) (v : Value) (c : List Tx) : Prop := w.ownsRow B 9 1 v c.length (c.map encT) ∨ (∃ a, v = .slice a c.length c.length) ∧ SrAt w w.heap.size v c
theorem CurAt.sr {w : World} {B : Nat} {v : Value} {c : List Tx} (h : CurAt w B v c) : SrAt w w.heap.size v c := by
  rcases h with h | h
  · exact sr_of_own h rfl
  · exact h.2
theorem CurAt.next {w w' : World} {B : Nat} {v : Value} {c : List Tx} (h : CurAt w B v c) (hb : Below w.heap.size w w') : CurAt w' B v c := by
  rcases h with h | ⟨h1, h2⟩
  · exact .inl (row_below h hb)
  · exact .inr ⟨h1, (h2.next hb).mono hb.size⟩
theorem CurAt.stay {w w' : World} {B : Nat} {v : Value} {c : List Tx} {e' : TypeId} (h : CurAt w B v c) (hk : Kept e' w w') (hne : (9 : TypeId) ≠ e') : CurAt w' B v c := by
  rcases h with h | ⟨h1, h2⟩
  · exact .inl (Kept.row h hk hne)
  · exact .inr ⟨h1, (h2.stay hk hne).all⟩
/-- A text that is put behind it. -/
theorem wpList_append_cur {ops : Array Oper} {rest : List Oper} {o : Oper} {a : Act} {Q : Exit → Act → World → Prop} {w : World} (hgd : o.guard = none) (s x : Operand)
    (ho : o.op = .call { callee := .builtin .append, args := #[s, x], argTypes := #[35, 35] }) (B : Nat) (v : Value) (c : List Tx)
    (hs : a.eval s = v) (hcur : CurAt w B v c) (g : Nat) (y : Tx) (hx : a.eval x = .slice (some ⟨g, 0, none⟩) 1 1) (hc : w.cell? ⟨g, 0, none⟩ = some (encT y)) (hl : c.length ≤ 4398046511104) (hB : B ≤ w.heap.size)
    (h : ∀ v' w', w'.ownsRow B 9 1 v' (c.length + 1) ((c ++ [y]).map encT) → Below B w w' → Kept 9 w w' → wpList Tryd.prog ops Q rest (a.put o.dst v') w') : wpList Tryd.prog ops Q (o :: rest) a w := by
  rcases hcur with hown | ⟨⟨ad, hv⟩, hsr⟩
  · refine wpList_append_one Tryd.info9 rfl (by decide) Tryd.under48 hgd s x ho B v c.length (c.map encT) hs hown g (encT y) hx hc rfl hl hB ?_
    intro v' w' h1 h2 h3
    exact h v' w' (by rw [List.map_append]; exact h1) h2 h3
  · obtain ⟨i0, hi, hz0, hz1, hz2⟩ := info_parts Tryd.info9
    have hsr' := hsr
    obtain ⟨a', cap', e, hcc, _, hcl⟩ := hsr'
    rw [hv] at e hsr
    cases e
    refine wpList_append_grows (P := Tryd.prog) w hgd s x 35 ho 9 i0 _ 1 16 Tryd.under48 hi hz0 hz1 hz2 rfl (by decide) ad c.length c.length (c.map encT) (hs.trans hv) ?_ (by rw [List.length_map]; omega) ?_ ⟨g, 0, none⟩ 1 1 [encT y] hx (by simp) ?_ (by intro u hu; rw [List.mem_singleton] at hu; rw [hu]; rfl) (by omega) (by unfold maxLen; omega) (by omega) ?_
    · intro hn
      by_cases h0 : c.length = 0
      · exact ⟨h0, h0⟩
      · obtain ⟨g', o', e, _⟩ := hsr.cell (k := 0) (by omega)
        rw [hn] at e; cases e
    · intro b hb j u hu
      have hj : j < c.length := by
        rcases Nat.lt_or_ge j c.length with h1 | h1
        · exact h1
        · rw [List.getElem?_eq_none (by rw [List.length_map]; exact h1)] at hu; cases hu
      obtain ⟨g', o', e, _, _, e4⟩ := hsr.cell (k := j) hj
      rw [hb] at e; cases e
      rw [show (⟨g', o', none⟩ : Addr).add j = ⟨g', o' + j, none⟩ from Addr.add_lit .., e4, ← hu, List.getElem?_map, List.getElem?_eq_getElem hj, List.getD_eq_getElem?_getD, List.getElem?_eq_getElem hj]
      rfl
    · intro j u hu
      match j, hu with
      | 0, hu =>
        rw [Go.WideShapes.add_plain]
        simp at hu
        rw [← hu]; exact hc
      | j + 1, hu => simp at hu
    · intro v' w' h1 h2
      exact h v' w' (by rw [List.map_append]; exact row_mono h1 hB) ((below_none h2).mono hB) (kept_none h2)
end Go.Proofs.YtgmbkelmgolkpaaDoor
/- What alternatives answers. -/
namespace Go.Proofs.YtgmbkelmgolkpaaDoor
open Go.RowKit
set_option linter.unusedVariables false

theorem slice_one {w0 : World} {B : Nat} {a : Option Addr} {cap n : Nat} {L : List Tx} (hb : SrAt w0 B (.slice a n cap) L) (h1 : 1 ≤ n) : ∃ a2, (∀ w, (Instr.sliceAt 35 (.slice a n cap) none (some (.int .i64 1)) (some (.int .i64 1))).run Tryd.prog w = .ok (.slice a2 1 1) w) ∧ SrAt w0 B (.slice a2 1 1) [L.getD 0 []] := by
  obtain ⟨a', cap', e, hc1, hc2, hc3⟩ := hb
  cases e
  have hu : Tryd.prog.underlying 35 = some (.slice (Tryd.prog.elem 35)) := by kernel_rfl
  have he : Tryd.prog.elem 35 = 9 := by kernel_rfl
  obtain ⟨i0, hin, _, hz1, _⟩ := info_parts Tryd.info9
  obtain ⟨g, o, cs, e1, e2, e3, e4⟩ := hc3 0 (by omega)
  refine ⟨a, fun w => ?_, a, 1, rfl, Nat.le_refl _, ⟨by omega, fun hn => by rw [hn] at e1; cases e1⟩, fun k hk => ?_⟩
  · rw [run_sliceAt_slice w 35 _ _ _ _ hu, run_slice_hm w 35 a _ cap hu .i64 .i64 1 1 (by omega) (by omega) (by omega), he, run_sizeOf w hin, Result.andThen_ok, e1]
    simp only [sliced, Nat.zero_mul, Option.map_some, Addr.add_lit, Nat.add_zero]
    rw [if_neg (by decide)]
    rfl
  · rw [List.length_singleton] at hk
    obtain rfl : k = 0 := by omega
    exact ⟨g, o, cs, e1, e2, e3, e4⟩
set_option maxRecDepth 100000 in
set_option maxHeartbeats 3200000 in
theorem alternatives_any (ws : List Tx) (h2 : 2 ≤ ws.length) (hwl : ws.length ≤ 4294967296) (v : Value) (w : World) (h : SrAt w w.heap.size v ws) : Calls Tryd.prog 41 #[v] w fun e w' => ∃ u vs, e = .returned u ∧ w'.ownsRow w.heap.size 35 1 u (alS ws).length vs ∧ RvAt w' w'.heap.size vs (alS ws) ∧ Below w.heap.size w w' := by
  obtain ⟨a, cap, rfl⟩ := h.shape
  obtain ⟨a1, hs1, hl1⟩ := slice_one h (by omega)
  obtain ⟨a2, cp2, hs2, hl2⟩ := slice_from h 2 h2
  have hs2 : ∀ w, (Instr.sliceAt 35 (.slice a ws.length cap) (some (.int .i64 2)) none none).run Tryd.prog w = .ok (.slice a2 (ws.length - 2) cp2) w := hs2
  have HL1 := hidD hl1
  have HL2 := hidD hl2
  have HAS : Hid (alS ws = (alTo ws (ws.length - 2)).1 ++ [(alTo ws (ws.length - 2)).2]) := rfl
  have HA0 : Hid (alTo ws 0 = ([], [ws.getD 0 []])) := rfl
  have HAN : Hid (∀ k, alTo ws (k + 1) = if ws.getD (2 + k) [] == tOr then ((alTo ws k).1 ++ [(alTo ws k).2], [ws.getD 0 []]) else ((alTo ws k).1, (alTo ws k).2 ++ [ws.getD (2 + k) []])) := fun k => rfl
  have HLE := hidD (al_len ws)
  have HCU := hidD (al_cur ws)
  have HDL : Hid ((ws.drop 2).length = ws.length - 2) := List.length_drop
  have HDG : Hid (∀ k, (ws.drop 2).getD k [] = ws.getD (2 + k) []) := fun k => getD_drop ws 2 k
  have HAL : Hid (∀ (w' : World) o, Below w'.heap.size w' (w'.alloc o)) := fun w' o => (Below.refl _ _).alloc (Nat.le_refl _) o
  clear h hl1 hl2
  generalize hm : ws.length - 2 = m at *
  have hmb : m ≤ 4294967296 := by omega
  clear hm
  generalize ws.length = n at *
  go_enter Tryd.func41, Tryd.ntmps41
  go_wp2
  go_loopw [4, 5, 14] (fun rs r i wr => ∃ (k B : Nat) (vs : List Value), k ≤ m ∧ i = .int .i64 k ∧ wr.ownsRow w.heap.size 35 1 rs (alTo ws k).1.length vs ∧ RvAt wr B vs (alTo ws k).1 ∧ CurAt wr B r (alTo ws k).2 ∧ B ≤ wr.heap.size ∧ w.heap.size ≤ B ∧ Below w.heap.size w wr) (fun _ _ i _ => m - (intOf i).toNat)
  case atStart =>
    refine ⟨0, w.heap.size, [], Nat.zero_le _, rfl, ?_, ?_, ?_, Nat.le_refl _, Nat.le_refl _, Below.refl _ _⟩
    · rw [HA0.out]; exact World.ownsRow_nil _ _ _ _
    · rw [HA0.out]; exact RvAt.nil _ _
    · rw [HA0.out]; exact .inr ⟨⟨a1, rfl⟩, HL1.out⟩
  case round =>
    obtain ⟨k, B, vs, hk, rfl, hown, hrv, hcur, hB1, hB2, hbel⟩ := hrel
    have HRV := hidD hrv
    have HOW := hidD hown
    have HCR := hidD hcur
    have HBW := hidD hbel
    have HB1 := hidD hB1
    have HB2 := hidD hB2
    have HLK := hidD (HLE.out k)
    have HCK := hidD (HCU.out k).2
    have HNK := hidD (HAN.out k)
    obtain ⟨a4, c4, h4⟩ := row_shape hown
    obtain ⟨a5, c5, h5⟩ := hcur.sr.shape
    subst h4
    subst h5
    clear hown hrv hcur hbel hB1 hB2
    by_cases hlt : k < m
    · have hlti : (k : Int) < m := by omega
      obtain ⟨g2, o2, rfl, hg2, _, fk0⟩ := HL2.out.cell (k := k) (by have := HDL.out; omega)
      have fk : wr.cell? ⟨g2, o2 + k, none⟩ = some (encT (ws.getD (2 + k) [])) := by rw [HBW.out.cell (p := ⟨g2, o2 + k, none⟩) hg2, fk0, HDG.out]
      clear fk0
      unfold encT at fk
      have hA := ba_list (ws.getD (2 + k) [])
      have HOR : Hid ((bA (ws.getD (2 + k) [])).toList = [124] ↔ ws.getD (2 + k) [] = tOr) := by show _ ↔ _; rw [hA]; rfl
      clear hA
      generalize ws.getD (2 + k) [] = x at *
      generalize hDN : (alTo ws k).1 = DN at *
      generalize hCR : (alTo ws k).2 = CR at *
      clear hDN hCR
      generalize hdl : DN.length = dl at *
      generalize hcl : CR.length = cl at *
      have HDN := hidD hdl
      have HCL := hidD hcl
      have hdb : dl ≤ 4294967296 := by have := HLK.out; omega
      have hcb : cl ≤ 4294967297 := by have := HCK.out; omega
      clear hdl hcl
      by_cases e1 : (bA x).toList = [124]
      · have e1d : ((bA x).toList == [124]) = true := beq_iff_eq.2 e1
        rw [if_pos (by rw [HOR.out.1 e1]; rfl)] at HNK
        have HO6 := hidD (fun o => row_below HOW.out (HAL.out wr o))
        have HR6 := hidD (fun o => RvAt.next HRV.out (HAL.out wr o))
        have HC6 := hidD (fun o => CurAt.next HCR.out (HAL.out wr o))
        go_wp2_with (at_builtin; refine wpList_append_one Tryd.info35 rfl (by decide) Tryd.under50 rfl _ _ rfl w.heap.size (.slice a4 dl c4) dl vs rfl (HO6.out _) wr.heap.size (.slice a5 cl c5) rfl (new_cell1 wr (.slice a5 cl c5) 35 0 _ rfl) rfl (by omega) (by have := HBW.out.size; simp; omega) ?_; intro v8 w8 hown8 hb8 hk8; have HO8 := hidD hown8; have HB8 := hidD (Below.trans (Below.next HBW.out (HAL.out _ _)) hb8); have HR8 := hidD ((((HR6.out _).stay hk8 (by decide)).mono (show B ≤ w8.heap.size by have := HB1.out; have := hb8.size; simp at this; omega)).more (RvAt.one (((HC6.out _).sr.stay hk8 (by decide)).all))); have HL8 : Hid (SrAt w8 w8.heap.size (.slice a1 1 1) [ws.getD 0 []]) := (((HL1.out.below HBW.out (Nat.le_refl _)).next (HAL.out _ _)).stay hk8 (by decide)).all; clear hown8 hb8 hk8)
        go_roundw
        case rel =>
          refine ⟨k + 1, w8.heap.size, vs ++ [.slice a5 cl c5], by omega, by go_num, ?_, ?_, ?_, Nat.le_refl _, HB8.out.size, HB8.out⟩
          · rw [HNK.out]; simp only [List.length_append, List.length_singleton, HDN.out]; exact HO8.out
          · rw [HNK.out]; exact HR8.out
          · rw [HNK.out]; exact .inr ⟨⟨a1, rfl⟩, HL8.out⟩
        case measure => simp [intOf]; omega
      · have e1d : ((bA x).toList == [124]) = false := beq_eq_false_iff_ne.2 e1
        rw [if_neg (fun h => e1 (HOR.out.2 (beq_iff_eq.1 h)))] at HNK
        have HO6 := hidD (fun o => row_below HOW.out (HAL.out wr o))
        have HR6 := hidD (fun o => RvAt.next HRV.out (HAL.out wr o))
        have HC6 := hidD (fun o => CurAt.next HCR.out (HAL.out wr o))
        go_wp2_with (at_builtin; refine wpList_append_cur rfl _ _ rfl B (.slice a5 cl c5) CR rfl (HC6.out _) wr.heap.size x rfl (new_cell1 wr (encT x) 9 0 _ rfl) (by rw [HCL.out]; omega) (by have := HB1.out; simp; omega) ?_; intro v8 w8 hown8 hb8 hk8; have HO8 := hidD hown8; have HB8 := hidD (Below.trans (Below.next HBW.out (HAL.out _ _)) (hb8.mono HB2.out)); have HR8 := hidD ((HR6.out _).below hb8 (Nat.le_refl _)); have HS8 := hidD (Kept.row (HO6.out _) hk8 (by decide)); have HZ8 : Hid (B ≤ w8.heap.size) := by { have := HB1.out; have := hb8.size; simp at this; show _ ≤ _; omega }; clear hown8 hb8 hk8)
        go_roundw
        case rel =>
          refine ⟨k + 1, B, vs, by omega, by go_num, ?_, ?_, ?_, HZ8.out, HB2.out, HB8.out⟩
          · rw [HNK.out]; simp only [HDN.out]; exact HS8.out
          · rw [HNK.out]; exact HR8.out
          · rw [HNK.out]; refine .inl ?_; simp only [List.length_append, List.length_singleton]; exact HO8.out
        case measure => simp [intOf]; omega
    · obtain rfl : m = k := by omega
      generalize hDN : (alTo ws m).1 = DN at *
      generalize hCR : (alTo ws m).2 = CR at *
      clear hDN hCR
      generalize hdl : DN.length = dl at *
      generalize hcl : CR.length = cl at *
      have HDN := hidD hdl
      have hdb : dl ≤ 4294967296 := by have := HLK.out; omega
      clear hdl hcl
      have HO6 := hidD (fun o => row_below HOW.out (HAL.out wr o))
      have HR6 := hidD (fun o => RvAt.next HRV.out (HAL.out wr o))
      have HC6 := hidD (fun o => CurAt.next HCR.out (HAL.out wr o))
      go_wp2_with (at_builtin; refine wpList_append_one Tryd.info35 rfl (by decide) Tryd.under50 rfl _ _ rfl w.heap.size (.slice a4 dl c4) dl vs rfl (HO6.out _) wr.heap.size (.slice a5 cl c5) rfl (new_cell1 wr (.slice a5 cl c5) 35 0 _ rfl) rfl (by omega) (by have := HBW.out.size; simp; omega) ?_; intro v8 w8 hown8 hb8 hk8; have HO8 := hidD hown8; have HB8 := hidD (Below.trans (Below.next HBW.out (HAL.out _ _)) hb8); have HR8 := hidD ((((HR6.out _).stay hk8 (by decide)).mono (show B ≤ w8.heap.size by have := HB1.out; have := hb8.size; simp at this; omega)).more (RvAt.one (((HC6.out _).sr.stay hk8 (by decide)).all))); clear hown8 hb8 hk8)
      go_ret
      refine ⟨_, _, rfl, ?_, by rw [HAS.out]; exact HR8.out, HB8.out⟩
      rw [HAS.out, List.length_append, List.length_singleton, HDN.out]; exact HO8.out
end Go.Proofs.YtgmbkelmgolkpaaDoor
