/- Texts of one proof, one behind the other. -/
import Derived.Test.YtgmbkelmgolkpaaDoorGd
/- Rows of rows of numbers; what pushFilled and innerSymbols answer. -/
namespace Go.Proofs.YtgmbkelmgolkpaaDoor
open Go.RowKit Go.Maps
set_option linter.unusedVariables false

theorem Tryd.info43 : (Tryd.prog.info? 43).map (fun i => (i.zero, i.size, i.bytes)) = some (some (.slice none 0 0), 1, 24) := by kernel_rfl
theorem Tryd.under104 : Tryd.prog.underlying 101 = some (.slice 43) := by kernel_rfl
/-- Values that read as rows of numbers. -/
def IvAt (w : World) (B : Nat) (vs : List Value) (L : List (List Int)) : Prop := vs.length = L.length ∧ ∀ k, k < L.length → ∃ u, vs[k]? = some u ∧ IrAt w B u (L.getD k [])
theorem IvAt.nil (w : World) (B : Nat) : IvAt w B [] [] := ⟨rfl, fun k hk => absurd hk (by simp)⟩
theorem IvAt.stay {w w' : World} {B : Nat} {vs : List Value} {L : List (List Int)} {e' : TypeId} (h : IvAt w B vs L) (hk : Kept e' w w') (hne : (3 : TypeId) ≠ e') : IvAt w' B vs L := ⟨h.1, fun k hk' => by
  obtain ⟨u, h1, h2⟩ := h.2 k hk'
  exact ⟨u, h1, h2.stay hk hne⟩⟩
theorem IvAt.below {w w' : World} {B B' : Nat} {vs : List Value} {L : List (List Int)} (h : IvAt w B vs L) (hb : Below B' w w') (hB : B ≤ B') : IvAt w' B vs L := ⟨h.1, fun k hk' => by
  obtain ⟨u, h1, h2⟩ := h.2 k hk'
  exact ⟨u, h1, h2.below hb hB⟩⟩
theorem IvAt.next {w w' : World} {B : Nat} {vs : List Value} {L : List (List Int)} (h : IvAt w B vs L) (hb : Below w.heap.size w w') : IvAt w' B vs L := ⟨h.1, fun k hk' => by
  obtain ⟨u, h1, h2⟩ := h.2 k hk'
  exact ⟨u, h1, h2.next hb⟩⟩
theorem IvAt.mono {w : World} {B B' : Nat} {vs : List Value} {L : List (List Int)} (h : IvAt w B vs L) (hB : B ≤ B') : IvAt w B' vs L := ⟨h.1, fun k hk' => by
  obtain ⟨u, h1, h2⟩ := h.2 k hk'
  exact ⟨u, h1, h2.mono hB⟩⟩
theorem IvAt.push {w : World} {B : Nat} {vs : List Value} {L : List (List Int)} {u : Value} {c : List Int} (h : IvAt w B vs L) (h2 : IrAt w B u c) : IvAt w B (vs ++ [u]) (L ++ [c]) := by
  refine ⟨by rw [List.length_append, List.length_append, h.1]; rfl, fun k hk => ?_⟩
  rw [List.length_append, List.length_singleton] at hk
  by_cases hl : k < L.length
  · obtain ⟨u', e1, e2⟩ := h.2 k hl
    refine ⟨u', by rw [List.getElem?_append_left (by rw [h.1]; exact hl)]; exact e1, ?_⟩
    rw [List.getD_eq_getElem?_getD, List.getElem?_append_left hl, ← List.getD_eq_getElem?_getD]; exact e2
  · obtain rfl : k = L.length := by omega
    refine ⟨u, by rw [List.getElem?_append_right (by rw [h.1]; omega), h.1, Nat.sub_self]; rfl, ?_⟩
    rw [List.getD_eq_getElem?_getD, List.getElem?_append_right (Nat.le_refl _), Nat.sub_self]; exact h2
theorem IvAt.take {w : World} {B : Nat} {vs : List Value} {L : List (List Int)} (h : IvAt w B vs L) (m : Nat) : IvAt w B (vs.take m) (L.take m) := by
  refine ⟨by rw [List.length_take, List.length_take, h.1], fun k hk => ?_⟩
  rw [List.length_take] at hk
  obtain ⟨u, e1, e2⟩ := h.2 k (by omega)
  refine ⟨u, by rw [List.getElem?_take, if_pos (by omega)]; exact e1, ?_⟩
  rw [List.getD_eq_getElem?_getD, List.getElem?_take, if_pos (by omega), ← List.getD_eq_getElem?_getD]; exact e2
/-- The first of a row's elements, in the same block. -/
theorem row_less {w : World} {base e n cap m : Nat} {a : Option Addr} {xs : List Value} (h : w.ownsRow base e 1 (.slice a n cap) n xs) (hm : m ≤ n) (h0 : a ≠ none) : w.ownsRow base e 1 (.slice a m cap) m (xs.take m) := by
  refine ⟨by rw [List.length_take, h.1]; omega, ?_⟩
  rcases h.2 with ⟨h1, _⟩ | ⟨g, c, cur, hv, hb, hg, hnc, hcm, hcs, htk⟩
  · cases h1; exact absurd rfl h0
  · cases hv
    refine .inr ⟨g, cap, cur, rfl, hb, hg, by omega, hcm, hcs, ?_⟩
    rw [← htk, List.take_take, Nat.mul_one, Nat.mul_one, Nat.min_eq_left hm]
set_option maxRecDepth 100000 in
set_option maxHeartbeats 800000 in
theorem push_empty (v : Value) (a : Option Addr) (c : Nat) (w : World) : Calls Tryd.prog 97 #[v, .slice a 0 c] w fun e w' => e = .returned v ∧ w' = w := by
  go_enter Tryd.func97, Tryd.ntmps97
  go_wp2
  go_ret
  exact ⟨rfl, rfl⟩
set_option maxRecDepth 100000 in
set_option maxHeartbeats 800000 in
theorem push_some {base n : Nat} {v : Value} {xs : List Value} (a : Option Addr) (m c : Nat) (hm : 1 ≤ m) (hn : n ≤ 4398046511000) (w : World) (hown : w.ownsRow base 43 1 v n xs) (hbase : base ≤ w.heap.size) : Calls Tryd.prog 97 #[v, .slice a m c] w fun e w' => ∃ u, e = .returned u ∧ w'.ownsRow base 43 1 u (n + 1) (xs ++ [.slice a m c]) ∧ Below base w w' ∧ Kept 43 w w' := by
  have HOW := hidD hown
  obtain ⟨a0, c0, rfl⟩ := row_shape hown
  have h0 : ¬ (m : Int) = 0 := by omega
  have h0b : ((m : Int) == 0) = false := beq_eq_false_iff_ne.2 h0
  have HBS := hidD hbase
  have HAL : Hid (∀ o, Below base w (w.alloc o)) := fun o => (Below.refl _ _).alloc hbase o
  have HKA : Hid (∀ o, Kept 43 w (w.alloc o)) := fun o b hb _ => heap_alloc_old w o hb
  clear hown
  go_enter Tryd.func97, Tryd.ntmps97
  go_wp2_with (at_builtin; refine wpList_append_one Tryd.info43 rfl (by decide) Tryd.under104 rfl _ _ rfl base (.slice a0 n c0) n xs rfl (HOW.out.alloc _) w.heap.size (.slice a m c) rfl (new_cell1 w (.slice a m c) 43 0 _ rfl) rfl (by omega) (by have := HBS.out; simp; omega) ?_; intro v8 w8 h81 h82 h83; have HX1 := hidD h81; have HX2 := hidD ((HAL.out _).trans h82); have HX3 : Hid (Kept 43 w w8) := (fun b hb hne => by { have e1 := heap_alloc_old w (.cells #[.slice a m c] (43 : TypeId)) hb; exact (h83 b (by simp; omega) (fun cs e => hne cs (e1 ▸ e))).trans e1 }); clear h81 h82 h83)
  go_ret
  exact ⟨_, rfl, HX1.out, HX2.out, HX3.out⟩
end Go.Proofs.YtgmbkelmgolkpaaDoor
/- What innerSymbols answers. -/
namespace Go.Proofs.YtgmbkelmgolkpaaDoor
open Go.RowKit Go.Maps
set_option linter.unusedVariables false

/-- The nonterminals among symbols. -/
def inS (T : Nat) (r : List Int) : List Int := r.filter fun s => decide ((T : Int) ≤ s)
theorem in_next {T : Nat} {r : List Int} {q : Nat} (hq : q < r.length) : inS T (r.take (q + 1)) = if (T : Int) ≤ r.getD q 0 then inS T (r.take q) ++ [r.getD q 0] else inS T (r.take q) := by
  unfold inS
  rw [List.take_succ_eq_append_getElem hq, List.filter_append, show r[q] = r.getD q 0 by rw [List.getD_eq_getElem?_getD, List.getElem?_eq_getElem hq]; rfl]
  generalize r.getD q 0 = s
  by_cases h : (T : Int) ≤ s
  · rw [if_pos h]; simp [h]
  · rw [if_neg h]; simp [h]
theorem in_len (T : Nat) (r : List Int) (q : Nat) : (inS T (r.take q)).length ≤ q := Nat.le_trans (List.length_filter_le _ _) (by rw [List.length_take]; omega)
def llTo (T : Nat) (R : List (Nat × List Int)) : Nat → List (List Int)
  | 0 => List.replicate R.length []
  | k + 1 => (llTo T R k).set k (inS T (R.getD k (0, [])).2)
theorem ll_len (T : Nat) (R : List (Nat × List Int)) : ∀ k, (llTo T R k).length = R.length
  | 0 => List.length_replicate
  | k + 1 => by rw [llTo, List.length_set]; exact ll_len T R k
theorem ll_get (T : Nat) (R : List (Nat × List Int)) (j : Nat) (hj : j < R.length) : ∀ k, (llTo T R k).getD j [] = if j < k then inS T (R.getD j (0, [])).2 else []
  | 0 => by
    rw [if_neg (by omega), llTo, List.getD_eq_getElem?_getD, List.getElem?_replicate, if_pos hj]; rfl
  | k + 1 => by
    have ih := ll_get T R j hj k
    have hl := ll_len T R k
    rw [llTo, List.getD_eq_getElem?_getD, List.getElem?_set]
    by_cases h : k = j
    · subst h
      rw [if_pos rfl, if_pos (by omega), if_pos (by omega)]; rfl
    · rw [if_neg h, ← List.getD_eq_getElem?_getD, ih]
      by_cases h2 : j < k
      · rw [if_pos h2, if_pos (by omega)]
      · rw [if_neg h2, if_neg (by omega)]
theorem IvAt.set {w : World} {B : Nat} {vs : List Value} {L : List (List Int)} {u : Value} {c : List Int} (h : IvAt w B vs L) (h2 : IrAt w B u c) {k : Nat} (hk : k < L.length) : IvAt w B (vs.set k u) (L.set k c) := by
  refine ⟨by rw [List.length_set, List.length_set, h.1], fun j hj => ?_⟩
  rw [List.length_set] at hj
  by_cases e : k = j
  · subst e
    exact ⟨u, by rw [List.getElem?_set, if_pos rfl, if_pos (by rw [h.1]; exact hk)], by rw [List.getD_eq_getElem?_getD, List.getElem?_set, if_pos rfl, if_pos hk]; exact h2⟩
  · obtain ⟨u', e1, e2⟩ := h.2 j hj
    exact ⟨u', by rw [List.getElem?_set, if_neg e]; exact e1, by rw [List.getD_eq_getElem?_getD, List.getElem?_set, if_neg e, ← List.getD_eq_getElem?_getD]; exact e2⟩
theorem IrAt.nil (w : World) (B : Nat) : IrAt w B (.slice none 0 0) [] := ⟨none, 0, rfl, Nat.le_refl _, ⟨by omega, fun _ => rfl⟩, fun k hk => absurd hk (by simp)⟩
theorem iv_nils (w : World) (B n : Nat) : IvAt w B (List.replicate n (.slice none 0 0)) (List.replicate n []) := ⟨by rw [List.length_replicate, List.length_replicate], fun k hk => by
  rw [List.length_replicate] at hk
  exact ⟨.slice none 0 0, by rw [List.getElem?_replicate, if_pos hk], by rw [List.getD_eq_getElem?_getD, List.getElem?_replicate, if_pos hk]; exact IrAt.nil w B⟩⟩
theorem CsAt.stay {w w' : World} {g : Nat} {cs : Array Value} {t e' : TypeId} (h : CsAt w g cs t) (hk : Kept e' w w') (hne : t ≠ e') : CsAt w' g cs t := (hk g h.lt fun cs' e => by rw [show w.heap[g]? = _ from h] at e; cases e; exact hne rfl).trans h
theorem cs_of_full {w : World} {base e g n : Nat} {xs : List Value} (h : w.ownsRow base e 1 (.slice (some ⟨g, 0, none⟩) n n) n xs) : CsAt w g xs.toArray e := by
  rcases h.2 with ⟨h1, _⟩ | ⟨g', cap, cur, hv, hb, hg, hnc, hcm, hcs, htk⟩
  · cases h1
  · cases hv
    have : cur = xs.toArray := by
      apply Array.toList_inj.1
      rw [← htk, List.take_of_length_le (by rw [Array.length_toList]; omega)]
    rw [← this]; exact hg
theorem full_of_cs {w : World} {base e g : Nat} {xs : List Value} {n : Nat} (h : CsAt w g xs.toArray e) (hb : base ≤ g) (hn : xs.length = n) (hm : n ≤ maxLen) : w.ownsRow base e 1 (.slice (some ⟨g, 0, none⟩) n n) n xs :=
  ⟨by omega, .inr ⟨g, n, xs.toArray, rfl, hb, h, Nat.le_refl _, hm, by rw [List.size_toArray]; omega, by rw [List.take_of_length_le (by show xs.length ≤ _; omega)]⟩⟩
theorem kept_of_cs {w w' : World} {g : Nat} {cs : Array Value} {t : TypeId} (hc : CsAt w g cs t) (hb : But g w w') : Kept t w w' := fun b hl hne => hb.rest b hl fun e => by
  subst e
  exact hne cs hc
set_option maxRecDepth 100000 in
set_option maxHeartbeats 3200000 in
theorem inner_any {p : Nat} (R : List (Nat × List Int)) (n : Nat) (hR : RuOk R n) (hRl : R.length ≤ 1048576) (T : Nat) (hTb : T ≤ 128) (vr : Value) (w : World) (hp : p < w.heap.size) (hpt : w.cell? ⟨p, 2, none⟩ = some (.int .i64 (T : Int))) (hpc : w.cell? ⟨p, 4, none⟩ = some vr) (hr : RuAt w vr R) : Calls Tryd.prog 96 #[.pointer (some ⟨p, 0, none⟩)] w fun e w' => ∃ g vs, e = .returned (.slice (some ⟨g, 0, none⟩) R.length R.length) ∧ CsAt w' g vs.toArray 43 ∧ IvAt w' w'.heap.size vs (llTo T R R.length) ∧ w.heap.size ≤ g ∧ Below w.heap.size w w' := by
  obtain ⟨ar, cr, rfl, hrc⟩ := hr
  have HRC := hidD hrc
  have HRO := hidD hR
  have HPT := hidD hpt
  have HPC := hidD hpc
  have HGP := hidD hp
  have HLL := hidD (ll_len T R)
  have HLN : Hid (∀ k, llTo T R (k + 1) = (llTo T R k).set k (inS T (R.getD k (0, [])).2)) := fun _ => rfl
  have HL0 : Hid (llTo T R 0 = List.replicate R.length []) := rfl
  have HIN := hidD (fun (r : List Int) q (hq : q < r.length) => in_next (T := T) hq)
  have HIL := hidD (fun r q => in_len T r q)
  have HI0 : Hid (∀ r : List Int, inS T (r.take 0) = []) := fun r => by show inS T (r.take 0) = []; rw [List.take_zero]; rfl
  obtain ⟨i27, hi27, hz270, hz271, hz272⟩ := info_parts Tryd.info43
  obtain ⟨hz76, hsz76⟩ := zero_of_info Tryd.zero63
  have HAL : Hid (∀ (w' : World) o, Below w'.heap.size w' (w'.alloc o)) := fun w' o => (Below.refl _ _).alloc (Nat.le_refl _) o
  clear hrc hR hpt
  generalize hRn : R.length = rn at *
  have HRN := hidD hRn
  clear hRn
  go_enter Tryd.func96, Tryd.ntmps96
  go_wp2_with (refine wpList_make_full w rfl _ _ 101 rfl w.heap.size 43 i27 _ 1 Tryd.under104 hi27 hz270 hz271 .i64 .i64 (rn : Int) (rn : Int) rn rfl rfl rfl rfl (by rw [hz272]; omega) (by unfold maxLen; omega) (Nat.le_refl _) ?_; intro w1 ho1 hg1; have HC1 := hidD (cs_of_full ho1); have HB1 := hidD (below_none hg1); have g4 : w1.cell? ⟨p, 4, none⟩ = some (.slice ar rn cr) := (HB1.out.cell (p := ⟨p, 4, none⟩) HGP.out).trans HPC.out; clear ho1 hg1)
  rw [show (madeCells (Value.slice none 0 0).cells (rn * 1)).toList = List.replicate rn (.slice none 0 0) by rw [Nat.mul_one]; exact toList_madeCells_one _ _] at HC1
  clear g4
  generalize hgi : w.heap.size = gi at *
  have HGI := hidD hgi
  clear hgi
  go_loopw [19] (fun i wr => ∃ (k : Nat) (vs : List Value), k ≤ rn ∧ i = .int .i64 k ∧ CsAt wr gi vs.toArray 43 ∧ IvAt wr wr.heap.size vs (llTo T R k) ∧ (∀ j, k ≤ j → j < rn → vs[j]? = some (.slice none 0 0)) ∧ Below gi w wr) (fun i _ => rn - (intOf i).toNat)
  case atStart => exact ⟨0, _, Nat.zero_le _, rfl, HC1.out, by rw [HL0.out]; exact iv_nils _ _ _, fun j _ hj => by rw [List.getElem?_replicate, if_pos hj], HB1.out⟩
  case round =>
    obtain ⟨k, vs, hk, rfl, hcs, hiv, hnil, hbel⟩ := hrel
    have HCS := hidD hcs
    have HIV := hidD hiv
    have HNI := hidD hnil
    have HBW := hidD hbel
    by_cases hlt : k < rn
    · have hlti : (k : Int) < rn := by omega
      obtain ⟨gr, orr, rv, har, hgr, hc1, hc2, hil⟩ := HRC.out k hlt
      obtain ⟨hleft, hrl, hrs⟩ := HRO.out k (by rw [HRN.out]; exact hlt)
      subst har
      have f0 : wr.cell? ⟨gr, orr + k * 2, none⟩ = some (.int .i64 ((R.getD k (0, [])).1 : Int)) := (hbel.cell (p := ⟨gr, orr + k * 2, none⟩) hgr).trans hc1
      have f1 : wr.cell? ⟨gr, orr + k * 2 + 1, none⟩ = some rv := (hbel.cell (p := ⟨gr, orr + k * 2 + 1, none⟩) hgr).trans hc2
      obtain ⟨a2, c2, hrv, hrc1, hrc2, hrcell⟩ := hil
      subst hrv
      have HRCL := hidD hrcell
      have HNK := hidD (HLN.out k)
      have HVL : Hid (vs.length = rn) := by show _ = _; rw [hiv.1, HLL.out]; try exact HRN.out
      obtain ⟨wp, hwp⟩ : ∃ wp, wp = wr := ⟨_, rfl⟩
      subst hwp
      generalize hLF : (R.getD k (0, [])).1 = LF at *
      generalize hRR : (R.getD k (0, [])).2 = RR at *
      clear hLF hRR hcs hiv hnil hbel hc1 hc2 hrcell hrs
      generalize hmm : RR.length = m at *
      have HMM := hidD hmm
      clear hmm
      go_wp2_with fail
      have HB5 : Hid (Below wp.heap.size wp (wp.alloc (.cells #[.int .i64 (LF : Int), .slice a2 m c2] (63 : TypeId)))) := (Below.refl _ _).alloc (Nat.le_refl _) _
      have HC5 := hidD (HCS.out.next HB5.out)
      have HI5 := hidD (HIV.out.next HB5.out)
      have HBW5 : Hid (Below gi w (wp.alloc (.cells #[.int .i64 (LF : Int), .slice a2 m c2] (63 : TypeId)))) := HBW.out.trans (HB5.out.mono (by have := HBW.out.size; have := HGI.out; omega))
      generalize hw5 : (wp.alloc (.cells #[.int .i64 (LF : Int), .slice a2 m c2] (63 : TypeId))) = w5 at *
      clear hw5 f0 f1
      have HSET : Hid (vs.set k (.slice none 0 0) = vs) := by
        show _ = _
        apply List.ext_getElem?
        intro j
        rw [List.getElem?_set]
        by_cases e : k = j
        · subst e; rw [if_pos rfl, if_pos (by rw [HVL.out]; exact hlt), HNI.out k (Nat.le_refl _) hlt]
        · rw [if_neg e]
      have HBKL : Hid (wp.heap.size ≤ w5.heap.size) := HB5.out.size
      have HGB : Hid (gi ≤ wp.heap.size) := Nat.le_of_lt HCS.out.lt
      generalize hbk : wp.heap.size = Bk at *
      clear hbk
      have HTM : Hid (inS T (RR.take m) = inS T RR) := by show _ = _; rw [← HMM.out, List.take_length]
      go_loopw [27] (fun i wr => ∃ (q : Nat) (u : Value), q ≤ m ∧ i = .int .i64 q ∧ CsAt wr gi (vs.set k u).toArray 43 ∧ wr.ownsRow Bk 3 1 u (inS T (RR.take q)).length ((inS T (RR.take q)).map encI) ∧ IvAt wr Bk vs (llTo T R k) ∧ Bk ≤ wr.heap.size ∧ Below gi w wr) (fun i _ => m - (intOf i).toNat)
      case atStart => exact ⟨0, .slice none 0 0, Nat.zero_le _, rfl, by rw [HSET.out]; exact HC5.out, by rw [HI0.out]; exact World.ownsRow_nil _ _ _ _, HI5.out, HBKL.out, HBW5.out⟩
      case round =>
        obtain ⟨q, u, hq, rfl, hcs, hown, hiv, hbk, hbel⟩ := hrel
        have HQC := hidD hcs
        have HQO := hidD hown
        have HQI := hidD hiv
        have HQB := hidD hbk
        have HQW := hidD hbel
        have HILQ := hidD (HIL.out RR q)
        obtain ⟨a9, c9, h9⟩ := row_shape hown
        subst h9
        by_cases hqt : q < m
        · have hqti : (q : Int) < m := by omega
          obtain ⟨gs, os, rfl, hgs, hcs2⟩ := HRCL.out q hqt
          rw [HGI.out] at hgs
          have f4 : wr.cell? ⟨gs, os + q, none⟩ = some (.int .i64 (RR.getD q 0)) := (hbel.cell (p := ⟨gs, os + q, none⟩) hgs).trans hcs2
          have f5 : wr.cell? ⟨p, 2, none⟩ = some (.int .i64 (T : Int)) := (hbel.cell (p := ⟨p, 2, none⟩) HGP.out).trans HPT.out
          have HINQ := hidD (HIN.out RR q (by rw [HMM.out]; exact hqt))
          have f6 : wr.cell? ⟨gi, k, none⟩ = some (.slice a9 (inS T (RR.take q)).length c9) := (hcs.cell k).trans (by rw [List.getElem?_toArray, List.getElem?_set, if_pos rfl, if_pos (by rw [HVL.out]; exact hlt)])
          clear hcs hown hiv hbk hbel hcs2
          generalize RR.getD q 0 = sq at *
          generalize hIQ : inS T (RR.take q) = IQ at *
          clear hIQ
          generalize hiq : IQ.length = iq at *
          have HIQN := hidD hiq
          have hiqb : iq ≤ 1048576 := by have := HILQ.out; omega
          clear hiq
          by_cases hT : (T : Int) ≤ sq
          · rw [if_pos hT] at HINQ
            have HC6 := hidD (fun o => HQC.out.next (HAL.out wr o))
            have HIA := hidD (fun o => HQI.out.next (HAL.out wr o))
            have HWA : Hid (∀ o, Below gi w (wr.alloc o)) := fun o => HQW.out.trans ((HAL.out wr o).mono (by have := HQB.out; have := HGB.out; omega))
            have HVK : Hid ((vs.set k (.slice a9 iq c9)).toArray[k]? = some (.slice a9 iq c9)) := by show _ = _; rw [List.getElem?_toArray, List.getElem?_set, if_pos rfl, if_pos (by rw [HVL.out]; exact hlt)]
            have HSS : Hid (∀ u v : Value, (vs.set k u).toArray.setIfInBounds k v = (vs.set k v).toArray) := fun u v => by rw [List.setIfInBounds_toArray, List.set_set]
            go_wp2_with (at_builtin; refine wpList_append_one Tryd.info3 rfl (by decide) Tryd.underlying43' rfl _ _ rfl Bk (.slice a9 iq c9) iq (IQ.map encI) rfl (HQO.out.alloc _) wr.heap.size (.int .i64 sq) rfl (new_cell1 wr (.int .i64 sq) 3 0 _ rfl) rfl (by omega) (by have := HQB.out; simp; omega) ?_; intro v8 w8 h81 h82 h83; obtain ⟨a8, c8, h8⟩ := row_shape h81; subst h8; have HX1 := hidD h81; have HX2 := hidD ((HWA.out _).trans (h82.mono HGB.out)); have HX3 := hidD ((HC6.out _).stay h83 (by decide)); have HX4 := hidD ((HIA.out _).below h82 (Nat.le_refl _)); have HX5 : Hid (Bk ≤ w8.heap.size) := Nat.le_trans HQB.out (Nat.le_trans (HAL.out _ _).size h82.size); have z1 : w8.cell? ⟨gi, k, none⟩ = some (.slice a9 iq c9) := (HX3.out.cell k).trans HVK.out; have z2 := HX3.out.frz k; clear h81 h82 h83)
            go_roundw
            case rel =>
              have hq9 : But gi w8 (w8.setCell ⟨gi, k, none⟩ (.slice a8 (iq + 1) c8)) := (But.refl _ _).put k _
              have hk9 := kept_of_cs HX3.out hq9
              refine ⟨q + 1, .slice a8 (iq + 1) c8, by omega, by go_num, ?_, ?_, HX4.out.stay hk9 (by decide), Nat.le_trans HX5.out hq9.bel.size, HX2.out.trans hq9.bel⟩
              · have := HX3.out.put k (.slice a8 (iq + 1) c8)
                rw [HSS.out] at this
                exact this
              · rw [HINQ.out, List.length_append, List.length_singleton, HIQN.out, List.map_append]
                exact Kept.row HX1.out hk9 (by decide)
            case measure => simp [intOf]; omega
          · rw [if_neg hT] at HINQ
            go_wp2
            go_roundw
            case rel => exact ⟨q + 1, _, by omega, by go_num, HQC.out, by rw [HINQ.out, HIQN.out]; exact HQO.out, HQI.out, HQB.out, HQW.out⟩
            case measure => simp [intOf]; omega
        · obtain rfl : m = q := by omega
          clear hcs hown hiv hbk hbel
          go_wp2
          go_roundw
          case rel =>
            refine ⟨k + 1, vs.set k (.slice a9 (inS T (RR.take m)).length c9), by omega, by go_num, HQC.out, ?_, fun j h1 h2 => ?_, HQW.out⟩
            · have hi := ir_of_own (ss := inS T (RR.take m)) HQO.out rfl
              rw [HNK.out, ← HTM.out]
              exact (HQI.out.mono HQB.out).set hi (by have h := HLL.out k; omega)
            · rw [List.getElem?_set, if_neg (by omega)]
              exact HNI.out j (by omega) h2
          case measure => simp [intOf]; omega
    · obtain rfl : rn = k := by omega
      clear hcs hiv hnil hbel
      go_wp2
      go_ret
      exact ⟨gi, vs, rfl, HCS.out, HIV.out, by rw [HGI.out]; exact Nat.le_refl _, by rw [HGI.out]; exact HBW.out⟩
end Go.Proofs.YtgmbkelmgolkpaaDoor
/- What tryRules needs. -/
namespace Go.Proofs.YtgmbkelmgolkpaaDoor
open Go.RowKit Go.Maps
set_option linter.unusedVariables false

theorem sliceH27 (g o n c m : Nat) (hm : m ≤ c) (hc : 1 ≤ c) (w : World) : (Instr.sliceAt 43 (.slice (some ⟨g, o, none⟩) n c) none (some (.int .i64 (m : Int))) none).run Tryd.prog w = .ok (.slice (some ⟨g, o, none⟩) m c) w := by
  have hu : Tryd.prog.underlying 43 = some (.slice (Tryd.prog.elem 43)) := by kernel_rfl
  have he : Tryd.prog.elem 43 = 3 := by kernel_rfl
  obtain ⟨i0, hin, _, hz1, _⟩ := info_parts Tryd.info3
  rw [run_sliceAt_slice w 43 _ _ _ _ hu, run_slice_h w 43 _ n c hu .i64 (m : Int) (by omega) (by omega), he, run_sizeOf w hin, Result.andThen_ok]
  simp only [sliced, Int.toNat_natCast, Nat.zero_mul, Nat.sub_zero, Option.map_some, Addr.add_lit, Nat.add_zero]
  rw [if_neg (by omega)]
theorem sliceH104 (g o n c m : Nat) (hm : m ≤ c) (hc : 1 ≤ c) (w : World) : (Instr.sliceAt 101 (.slice (some ⟨g, o, none⟩) n c) none (some (.int .i64 (m : Int))) none).run Tryd.prog w = .ok (.slice (some ⟨g, o, none⟩) m c) w := by
  have hu : Tryd.prog.underlying 101 = some (.slice (Tryd.prog.elem 101)) := by kernel_rfl
  have he : Tryd.prog.elem 101 = 43 := by kernel_rfl
  obtain ⟨i0, hin, _, hz1, _⟩ := info_parts Tryd.info43
  rw [run_sliceAt_slice w 101 _ _ _ _ hu, run_slice_h w 101 _ n c hu .i64 (m : Int) (by omega) (by omega), he, run_sizeOf w hin, Result.andThen_ok]
  simp only [sliced, Int.toNat_natCast, Nat.zero_mul, Nat.sub_zero, Option.map_some, Addr.add_lit, Nat.add_zero]
  rw [if_neg (by omega)]
theorem IrAt.less {w : World} {B n c : Nat} {a : Option Addr} {l : List Int} (h : IrAt w B (.slice a n c) l) (m : Nat) (hm : m ≤ l.length) : IrAt w B (.slice a m c) (l.take m) := by
  obtain ⟨a', cap', e, h1, h2, h3⟩ := h
  cases e
  have hl : (l.take m).length = m := by rw [List.length_take]; omega
  refine ⟨a, c, by rw [hl], by omega, h2, fun k hk => ?_⟩
  rw [hl] at hk
  obtain ⟨g, o, cs, e1, e2, e3, e4⟩ := h3 k (by omega)
  exact ⟨g, o, cs, e1, e2, e3, by rw [List.getD_eq_getElem?_getD, List.getElem?_take, if_pos hk, ← List.getD_eq_getElem?_getD]; exact e4⟩
theorem IrAt.cell {w : World} {B n cap : Nat} {a : Option Addr} {ss : List Int} (h : IrAt w B (.slice a n cap) ss) {k : Nat} (hk : k < ss.length) : ∃ g o, a = some ⟨g, o, none⟩ ∧ g < w.heap.size ∧ w.cell? ⟨g, o + k, none⟩ = some (.int .i64 (ss.getD k 0)) ∧ ss.length ≤ cap := by
  obtain ⟨a2, cap2, h1, h0, _, h2⟩ := h
  cases h1
  obtain ⟨g, o, cs, e1, e2, e3, e4⟩ := h2 k hk
  exact ⟨g, o, e1, row_lt e3, (cell_of_row _ _ _ _ _ _ e3).trans e4, h0⟩
/-- A list that is pushed if it is filled. -/
def pfS (W : List (List Int)) (c : List Int) : List (List Int) := if c.length = 0 then W else W ++ [c]
theorem pf_flat (W : List (List Int)) (c : List Int) : (pfS W c).flatten = W.flatten ++ c := by
  unfold pfS; split
  · rename_i h; rw [List.eq_nil_of_length_eq_zero h, List.append_nil]
  · rw [List.flatten_append, List.flatten_singleton]
theorem pf_len (W : List (List Int)) (c : List Int) : (pfS W c).length ≤ W.length + 1 := by
  unfold pfS; split
  · omega
  · rw [List.length_append]; exact Nat.le_refl _
theorem pf_all {W : List (List Int)} {c : List Int} (h : ∀ r ∈ W, 1 ≤ r.length) : ∀ r ∈ pfS W c, 1 ≤ r.length := by
  unfold pfS; split
  · exact h
  · rename_i h0
    intro r hr
    rcases List.mem_append.1 hr with hr | hr
    · exact h r hr
    · rw [List.mem_singleton] at hr; subst hr; omega
theorem push_any {base : Nat} {v u : Value} {vs : List Value} {W : List (List Int)} {c : List Int} (w : World) (hn : W.length ≤ 4398046511000) (hown : w.ownsRow base 43 1 v W.length vs) (hiv : IvAt w w.heap.size vs W) (hir : IrAt w w.heap.size u c) (hbase : base ≤ w.heap.size) : Calls Tryd.prog 97 #[v, u] w fun e w' => ∃ v' vs', e = .returned v' ∧ w'.ownsRow base 43 1 v' (pfS W c).length vs' ∧ IvAt w' w'.heap.size vs' (pfS W c) ∧ Below base w w' ∧ Kept 43 w w' := by
  have hir' := hir
  obtain ⟨a, cap, rfl⟩ := hir'.shape
  by_cases h0 : c.length = 0
  · have hp : pfS W c = W := if_pos h0
    rw [h0]
    refine (push_empty v a cap w).mono fun e w' ⟨h1, h2⟩ => ⟨v, vs, h1, ?_, ?_, ?_, ?_⟩
    · rw [h2, hp]; exact hown
    · rw [h2, hp]; exact hiv
    · rw [h2]; exact Below.refl _ _
    · rw [h2]; exact fun _ _ _ => rfl
  · have hp : pfS W c = W ++ [c] := if_neg h0
    refine (push_some a c.length cap (by omega) hn w hown hbase).mono fun e w' ⟨u', h1, h2, h3, h4⟩ => ⟨u', vs ++ [.slice a c.length cap], h1, ?_, ?_, h3, h4⟩
    · rw [hp, List.length_append]; exact h2
    · rw [hp]; exact ((hiv.stay h4 (by decide)).mono h3.size).push ((hir.stay h4 (by decide)).mono h3.size)
/-- Rules that are tried: the nonterminals that wait, how long it gets. -/
def rgN (R : List (Nat × List Int)) (l : List Int) (k : Nat) : Nat × List Int := R.getD (l.getD k 0).toNat (0, [])
def pnTo (T : Nat) (R : List (Nat × List Int)) (st : Nat) (l : List Int) : Nat → List Int
  | 0 => [(st : Int)]
  | k + 1 => (pnTo T R st l k).dropLast ++ inS T (rgN R l k).2
def szTo (R : List (Nat × List Int)) (l : List Int) : Nat → Int
  | 0 => 1
  | k + 1 => szTo R l k + (((rgN R l k).2.length : Int) - 1)
def bgTo (R : List (Nat × List Int)) (l : List Int) : Nat → Bool
  | 0 => false
  | k + 1 => bgTo R l k || decide (1048576 < szTo R l (k + 1))
def fitS (T : Nat) (R : List (Nat × List Int)) (st : Nat) (l : List Int) (k : Nat) : Bool := decide (0 ≤ l.getD k 0) && decide (l.getD k 0 < (R.length : Int)) && decide (1 ≤ (pnTo T R st l k).length) && decide ((pnTo T R st l k).getD ((pnTo T R st l k).length - 1) 0 = ((rgN R l k).1 : Int))
def fitsS (T : Nat) (R : List (Nat × List Int)) (st : Nat) (l : List Int) : Bool := (List.range l.length).all (fitS T R st l)
def tryE (T : Nat) (R : List (Nat × List Int)) (st : Nat) (l : List Int) : Int := if fitsS T R st l then (if bgTo R l l.length then 3 else 0) else 1
theorem fits_true {T : Nat} {R : List (Nat × List Int)} {st : Nat} {l : List Int} (h : ∀ j, j < l.length → fitS T R st l j = true) : fitsS T R st l = true := by
  unfold fitsS
  rw [List.all_eq_true]
  exact fun j hj => h j (List.mem_range.1 hj)
theorem fits_false {T : Nat} {R : List (Nat × List Int)} {st : Nat} {l : List Int} {k : Nat} (hk : k < l.length) (h : fitS T R st l k = false) : fitsS T R st l = false := by
  unfold fitsS
  cases ha : (List.range l.length).all (fitS T R st l) with
  | false => rfl
  | true =>
    rw [List.all_eq_true] at ha
    rw [ha k (List.mem_range.2 hk)] at h; cases h
theorem last_of {α : Type} {l : List α} (h : 1 ≤ l.length) : ∃ l' x, l = l' ++ [x] := by
  rcases List.eq_nil_or_concat l with h1 | ⟨l', x, h1⟩
  · rw [h1] at h; simp at h
  · exact ⟨l', x, by rw [h1, List.concat_eq_append]⟩
theorem last_two {W : List (List Int)} (h1 : 1 ≤ W.length) (hne : ∀ r ∈ W, 1 ≤ r.length) : ∃ WI XI s, W = WI ++ [XI ++ [s]] := by
  obtain ⟨WI, X, rfl⟩ := last_of h1
  obtain ⟨XI, s, rfl⟩ := last_of (hne X (by simp))
  exact ⟨WI, XI, s, rfl⟩
theorem sz_bound {R : List (Nat × List Int)} {l : List Int} (h : ∀ k, (rgN R l k).2.length ≤ 1048576) : ∀ k : Nat, 1 - (k : Int) ≤ szTo R l k ∧ szTo R l k ≤ 1 + (k : Int) * 1048576
  | 0 => by simp [szTo]
  | k + 1 => by
    have ih := sz_bound h k
    have := h k
    rw [szTo]
    omega
theorem rg_len {R : List (Nat × List Int)} {n : Nat} (hR : RuOk R n) (l : List Int) (k : Nat) : (rgN R l k).2.length ≤ 1048576 := by
  unfold rgN
  by_cases h : (l.getD k 0).toNat < R.length
  · exact (hR _ h).2.1
  · rw [List.getD_eq_getElem?_getD, List.getElem?_eq_none (by omega)]; simp
end Go.Proofs.YtgmbkelmgolkpaaDoor
/- What tryRules answers. -/
namespace Go.Proofs.YtgmbkelmgolkpaaDoor
open Go.RowKit Go.Maps
set_option linter.unusedVariables false

set_option maxRecDepth 100000 in
set_option maxHeartbeats 6400000 in
theorem tryRules_any {p : Nat} (R : List (Nat × List Int)) (n : Nat) (hR : RuOk R n) (hRl : R.length ≤ 1048576) (T : Nat) (hTb : T ≤ 128) (st : Nat) (l : List Int) (hll : l.length ≤ 1099511627776) (v vr : Value) (w : World) (hp : p < w.heap.size) (hpt : w.cell? ⟨p, 2, none⟩ = some (.int .i64 (T : Int))) (hps : w.cell? ⟨p, 3, none⟩ = some (.int .i64 (st : Int))) (hpc : w.cell? ⟨p, 4, none⟩ = some vr) (hr : RuAt w vr R) (hl : IlAt w v l) : Calls Tryd.prog 83 #[.pointer (some ⟨p, 0, none⟩), v] w fun e w' => e = .returned (.int .i64 (tryE T R st l)) ∧ Below w.heap.size w w' := by
  have HIN := hidD (inner_any R n hR hRl T hTb vr w hp hpt hpc hr)
  have HRU := hidD hr
  obtain ⟨ar, cr, rfl, hrc⟩ := hr
  have HRC := hidD hrc
  obtain ⟨al, cl, rfl, hlc1, hlc2, hlc⟩ := hl
  have HLC := hidD hlc
  have HPC := hidD hpc
  have HPS := hidD hps
  have HGP := hidD hp
  have HTE : Hid (tryE T R st l = if fitsS T R st l then (if bgTo R l l.length then 3 else 0) else 1) := rfl
  have HFT := hidD (fits_true (T := T) (R := R) (st := st) (l := l))
  have HFF := hidD (fun k => fits_false (T := T) (R := R) (st := st) (l := l) (k := k))
  have HLG := hidD (fun j hj => ll_get T R j hj R.length)
  have HLL := hidD (ll_len T R R.length)
  have HP0 : Hid (pnTo T R st l 0 = [(st : Int)]) := rfl
  have HPN : Hid (∀ k, pnTo T R st l (k + 1) = (pnTo T R st l k).dropLast ++ inS T (rgN R l k).2) := fun _ => rfl
  have HSN : Hid (∀ k, szTo R l (k + 1) = szTo R l k + (((rgN R l k).2.length : Int) - 1)) := fun _ => rfl
  have HS0 : Hid (szTo R l 0 = 1) := rfl
  have HBN : Hid (∀ k, bgTo R l (k + 1) = (bgTo R l k || decide (1048576 < szTo R l (k + 1)))) := fun _ => rfl
  have HB0 : Hid (bgTo R l 0 = false) := rfl
  have HSB := hidD (fun k => sz_bound (R := R) (l := l) (fun k => rg_len hR l k) k)
  have HFI : Hid (∀ k, fitS T R st l k = (decide (0 ≤ l.getD k 0) && decide (l.getD k 0 < (R.length : Int)) && decide (1 ≤ (pnTo T R st l k).length) && decide ((pnTo T R st l k).getD ((pnTo T R st l k).length - 1) 0 = ((rgN R l k).1 : Int)))) := fun _ => rfl
  have HRGL := hidD (fun k => rg_len hR l k)
  have HRG : Hid (∀ k, rgN R l k = R.getD (l.getD k 0).toNat (0, [])) := fun _ => rfl
  have HAL : Hid (∀ (w' : World) o, Below w'.heap.size w' (w'.alloc o)) := fun w' o => (Below.refl _ _).alloc (Nat.le_refl _) o
  clear hrc hlc hpt hps hpc hR
  generalize hRn : R.length = rn at *
  have HRN := hidD hRn
  clear hRn
  generalize hLn : l.length = ln at *
  have HLN := hidD hLn
  clear hLn
  go_enter Tryd.func83, Tryd.ntmps83
  go_wp2_with (go_at_call 96; refine HIN.out.mono ?_; rintro e w2 ⟨gi, ivs, rfl, hci, hivi, hgi, hb2⟩; have HCI := hidD hci; have HIVI := hidD hivi; have HGI := hidD hgi; have HB2 := hidD hb2; have f3 : w2.cell? ⟨p, 3, none⟩ = some (.int .i64 (st : Int)) := (hb2.cell (p := ⟨p, 3, none⟩) HGP.out).trans HPS.out; clear hci hivi hgi hb2)
  clear f3
  have HBQ : Hid (Below w2.heap.size w2 ((w2.alloc (.cells #[.int .i64 (st : Int)] (3 : TypeId))).alloc (.cells #[.slice (some ⟨w2.heap.size, 0, none⟩) 1 1] (43 : TypeId)))) := ((Below.refl _ _).alloc (Nat.le_refl _) _).alloc (by simp) _
  have HC3 : Hid (CsAt ((w2.alloc (.cells #[.int .i64 (st : Int)] (3 : TypeId))).alloc (.cells #[.slice (some ⟨w2.heap.size, 0, none⟩) 1 1] (43 : TypeId))) w2.heap.size #[.int .i64 (st : Int)] 3) := heap_alloc2_old _ _ _
  have HC4 : Hid (CsAt ((w2.alloc (.cells #[.int .i64 (st : Int)] (3 : TypeId))).alloc (.cells #[.slice (some ⟨w2.heap.size, 0, none⟩) 1 1] (43 : TypeId))) (w2.heap.size + 1) #[.slice (some ⟨w2.heap.size, 0, none⟩) 1 1] 43) := heap_alloc2_new _ _ _
  generalize hw3 : ((w2.alloc (.cells #[.int .i64 (st : Int)] (3 : TypeId))).alloc (.cells #[.slice (some ⟨w2.heap.size, 0, none⟩) 1 1] (43 : TypeId))) = w3 at *
  clear hw3
  generalize hb2 : w2.heap.size = B2 at *
  have HB2E := hidD hb2
  clear hb2
  have HIR0 : Hid (IrAt w3 w3.heap.size (.slice (some ⟨B2, 0, none⟩) 1 1) [(st : Int)]) := ⟨some ⟨B2, 0, none⟩, 1, rfl, Nat.le_refl _, ⟨by omega, nofun⟩, fun k hk => by
    have hk1 : k < 1 := hk
    obtain rfl : k = 0 := by omega
    exact ⟨B2, 0, _, rfl, HC3.out.lt, HC3.out, rfl⟩⟩
  have HIV0 : Hid (IvAt w3 w3.heap.size [.slice (some ⟨B2, 0, none⟩) 1 1] [[(st : Int)]]) := (IvAt.nil w3 _).push HIR0.out
  have HOW0 : Hid (w3.ownsRow B2 43 1 (.slice (some ⟨B2 + 1, 0, none⟩) 1 1) 1 [.slice (some ⟨B2, 0, none⟩) 1 1]) := full_of_cs HC4.out (Nat.le_succ _) rfl (by decide)
  go_loopw [6, 7, 8, 24] (fun W z g i wr => ∃ (k : Nat) (WL : List (List Int)) (vs : List Value), k ≤ ln ∧ i = .int .i64 k ∧ z = .int .i64 (szTo R l k) ∧ g = .bool (bgTo R l k) ∧ wr.ownsRow B2 43 1 W WL.length vs ∧ IvAt wr wr.heap.size vs WL ∧ WL.flatten = pnTo T R st l k ∧ (∀ r ∈ WL, 1 ≤ r.length) ∧ WL.length ≤ k + 1 ∧ (∀ j, j < k → fitS T R st l j = true) ∧ Below B2 w2 wr) (fun _ _ _ i _ => ln - (intOf i).toNat)
  case atStart => exact ⟨0, [[(st : Int)]], _, Nat.zero_le _, rfl, by rw [HS0.out], by rw [HB0.out], HOW0.out, HIV0.out, by rw [HP0.out]; rfl, fun r hr => by rw [List.mem_singleton] at hr; subst hr; exact Nat.le_refl _, Nat.le_refl _, fun j hj => absurd hj (by omega), HBQ.out⟩
  case round =>
    obtain ⟨k, WL, vs, hk, rfl, rfl, rfl, hown, hiv, hfl, hne, hwl, hall, hbel⟩ := hrel
    have HOW := hidD hown
    have HIV := hidD hiv
    have HFL := hidD hfl
    have HNE := hidD hne
    have HWL := hidD hwl
    have HAL2 := hidD hall
    have HBW := hidD hbel
    have HWW : Hid (Below w.heap.size w wr) := HB2.out.trans (hbel.mono (by have := HB2.out.size; have := HB2E.out; omega))
    have HSK := hidD (HSB.out k)
    have HSK1 := hidD (HSB.out (k + 1))
    obtain ⟨aW, cW, hW⟩ := row_shape hown
    subst hW
    by_cases hlt : k < ln
    · have hlti : (k : Int) < ln := by omega
      obtain ⟨g0, o0, rfl, hg0, f0⟩ := HLC.out k hlt
      have f1 : wr.cell? ⟨g0, o0 + k, none⟩ = some (.int .i64 (l.getD k 0)) := (HWW.out.cell (p := ⟨g0, o0 + k, none⟩) hg0).trans f0
      have f2 : wr.cell? ⟨p, 4, none⟩ = some (.slice ar rn cr) := (HWW.out.cell (p := ⟨p, 4, none⟩) HGP.out).trans HPC.out
      have HFK := hidD (HFI.out k)
      have HBAD := hidD (HFF.out k hlt)
      have HRGK := hidD (HRG.out k)
      have HPNK := hidD (HPN.out k)
      have HSNK := hidD (HSN.out k)
      have HBNK := hidD (HBN.out k)
      have HST : Hid (fitS T R st l k = true → ∀ j, j < k + 1 → fitS T R st l j = true) := fun h j hj => by
        by_cases hjk : j = k
        · rw [hjk]; exact h
        · exact HAL2.out j (by omega)
      clear f0 hown hiv hfl hne hwl hall hbel
      generalize l.getD k 0 = x at *
      generalize hzk : szTo R l k = zk at *
      clear hzk
      generalize hgk : bgTo R l k = gk at *
      clear hgk
      generalize hwn : WL.length = wn at *
      have HWN := hidD hwn
      clear hwn
      by_cases hx0 : x < 0
      · have HBADX : Hid (fitsS T R st l = false) := HBAD.out (by rw [HFK.out, decide_eq_false (show ¬ 0 ≤ x by omega)]; rfl)
        have hx0d : decide (x < 0) = true := decide_eq_true hx0
        go_wp2
        refine bodyPost_ret (v := .int .i64 1) (by simp [results, Tryd.results83, go_sem]) rfl ?_
        exact ⟨by rw [HTE.out, HBADX.out, if_neg (by decide)], HWW.out⟩
      · by_cases hxr : (rn : Int) ≤ x
        · have HBADX : Hid (fitsS T R st l = false) := HBAD.out (by rw [HFK.out, decide_eq_false (show ¬ x < (rn : Int) by omega), Bool.and_false]; rfl)
          have hx0d : decide (x < 0) = false := decide_eq_false hx0
          have hxrd : decide ((rn : Int) ≤ x) = true := decide_eq_true hxr
          go_wp2
          refine bodyPost_ret (v := .int .i64 1) (by simp [results, Tryd.results83, go_sem]) rfl ?_
          exact ⟨by rw [HTE.out, HBADX.out, if_neg (by decide)], HWW.out⟩
        · have hx0d : decide (x < 0) = false := decide_eq_false hx0
          have hxrd : decide ((rn : Int) ≤ x) = false := decide_eq_false hxr
          by_cases hw0 : wn = 0
          · have HBADX : Hid (fitsS T R st l = false) := HBAD.out (by
              rw [HFK.out, ← HFL.out, List.eq_nil_of_length_eq_zero (show WL.length = 0 by rw [HWN.out]; exact hw0)]
              simp)
            subst hw0
            go_wp2
            refine bodyPost_ret (v := .int .i64 1) (by simp [results, Tryd.results83, go_sem]) rfl ?_
            exact ⟨by rw [HTE.out, HBADX.out, if_neg (by decide)], HWW.out⟩
          · obtain ⟨xn, rfl⟩ : ∃ xn : Nat, x = (xn : Int) := ⟨x.toNat, by omega⟩
            obtain ⟨WI, XI, sy, hWLe⟩ := last_two (W := WL) (by rw [HWN.out]; omega) HNE.out
            have hwnt : WL.length = WI.length + 1 := by rw [hWLe, List.length_append]; rfl
            obtain ⟨gr, orr, rv, har, hgr, hc1, hc2, hil⟩ := HRC.out xn (by omega)
            obtain ⟨a2, c2, hrv, _⟩ := hil
            subst har
            subst hrv
            rw [Int.toNat_natCast] at HRGK
            rw [← HRGK.out] at hc1 hc2
            obtain ⟨u0, hu0, hir0⟩ := HIV.out.2 WI.length (by rw [hwnt]; omega)
            rw [hWLe, List.getD_eq_getElem?_getD, List.getElem?_append_right (Nat.le_refl _), Nat.sub_self] at hir0
            have hir0 : IrAt wr wr.heap.size u0 (XI ++ [sy]) := hir0
            obtain ⟨aX, cX, rfl⟩ := hir0.shape
            have hcapX : cX ≤ 9223372036854775807 := by
              obtain ⟨_, _, e, _, h, _⟩ := hir0
              cases e; exact h.1
            have hXl : (XI ++ [sy]).length = XI.length + 1 := by rw [List.length_append]; rfl
            obtain ⟨gX, oX, rfl, hgX, fX, hcX⟩ := hir0.cell (k := XI.length) (by rw [hXl]; omega)
            have hsy : (XI ++ [sy]).getD XI.length 0 = sy := by rw [List.getD_eq_getElem?_getD, List.getElem?_append_right (Nat.le_refl _), Nat.sub_self]; rfl
            rw [hsy] at fX
            have hOWc := HOW.out
            rcases hOWc.2 with ⟨_, hn0⟩ | ⟨gW, capW, curW, hWv, hWb, hWg, hWn, hWm, _, _⟩
            · exact absurd hn0 (by omega)
            cases hWv
            have fW := HOW.out.cells (g := gW) rfl WI.length _ hu0
            rw [Addr.add_lit, Nat.zero_add] at fW
            have HLESS := hidD (row_less HOW.out (m := WI.length) (by have := HWN.out; omega) (by simp))
            have HIVT := hidD (HIV.out.take WI.length)
            rw [hWLe, List.take_left] at HIVT
            have HIRT := hidD (hir0.less XI.length (by rw [hXl]; omega))
            rw [List.take_left] at HIRT
            have HPLA : Hid (pnTo T R st l k = (WI.flatten ++ XI) ++ [sy]) := by show _ = _; rw [← HFL.out, hWLe, List.flatten_append, List.flatten_singleton, List.append_assoc]
            have HLAST : Hid ((pnTo T R st l k).getD ((pnTo T R st l k).length - 1) 0 = sy ∧ 1 ≤ (pnTo T R st l k).length ∧ (pnTo T R st l k).dropLast = WI.flatten ++ XI) := by
              rw [HPLA.out]
              have hl : ((WI.flatten ++ XI) ++ [sy]).length = (WI.flatten ++ XI).length + 1 := by rw [List.length_append]; rfl
              refine ⟨?_, by omega, List.dropLast_concat⟩
              rw [hl, Nat.add_sub_cancel, List.getD_eq_getElem?_getD, List.getElem?_append_right (Nat.le_refl _), Nat.sub_self]; rfl
            have HWNE : Hid (∀ r ∈ WI, 1 ≤ r.length) := fun r hr => HNE.out r (by rw [hWLe]; exact List.mem_append_left _ hr)
            rw [HLAST.out.1, decide_eq_true HLAST.out.2.1, decide_eq_true (show 0 ≤ (xn : Int) by omega), decide_eq_true (show (xn : Int) < (rn : Int) by omega)] at HFK
            rw [HLAST.out.2.2] at HPNK
            have hGI2 : gi < B2 := by have := HCI.out.lt; have := HB2E.out; omega
            have HCIR : Hid (CsAt wr gi ivs.toArray 43) := (HBW.out.block gi hGI2).trans HCI.out
            obtain ⟨uI, huI, hirI⟩ := HIVI.out.2 xn (by have := HLL.out; omega)
            rw [HLG.out xn (by omega), if_pos (by omega), ← HRGK.out, ] at hirI
            have HIRI : Hid (IrAt wr B2 uI (inS T (rgN R l k).2)) := hirI.below HBW.out (Nat.le_refl _)
            have r0 : wr.cell? ⟨gr, orr + xn * 2, none⟩ = some (.int .i64 ((rgN R l k).1 : Int)) := (HWW.out.cell (p := ⟨gr, orr + xn * 2, none⟩) hgr).trans hc1
            have r1 : wr.cell? ⟨gr, orr + xn * 2 + 1, none⟩ = some (.slice a2 (rgN R l k).2.length c2) := (HWW.out.cell (p := ⟨gr, orr + xn * 2 + 1, none⟩) hgr).trans hc2
            have HWIL : Hid (WI.length + 1 = wn) := by show _ = _; rw [← hwnt]; exact HWN.out
            have hm2b : (rgN R l k).2.length ≤ 1048576 := HRGL.out k
            have HPF1 := hidD (pf_len WI XI)
            have HPF2 := hidD (pf_len (pfS WI XI) (inS T (rgN R l k).2))
            have HPA := hidD (pf_all (c := inS T (rgN R l k).2) (pf_all (c := XI) HWNE.out))
            have HPFL : Hid ((pfS (pfS WI XI) (inS T (rgN R l k).2)).flatten = pnTo T R st l (k + 1)) := by show _ = _; rw [pf_flat, pf_flat, HPNK.out]
            clear hc1 hc2 hWg hWLe hwnt hsy hu0 hirI hir0 hOWc hGI2
            generalize (rgN R l k).1 = LF at *
            generalize hRR : (rgN R l k).2 = RR at *
            clear hRR
            generalize hRl2 : RR.length = m2 at *
            clear hRl2
            generalize inS T RR = IN at *
            generalize hmX : (XI ++ [sy]).length = mX at *
            generalize hl1 : XI.length = l1 at *
            generalize htp : WI.length = top at *
            have HTP := hidD htp
            have HL1 := hidD hl1
            have hwt : (wn : Int) - 1 = (top : Int) := by have := HWIL.out; omega
            have hmt : (mX : Int) - 1 = (l1 : Int) := by omega
            have htw : (top : Int) < (wn : Int) := by omega
            have hlm : (l1 : Int) < (mX : Int) := by omega
            have hwn1 : ¬ (wn : Int) = 0 := by omega
            have hwnb : ((wn : Int) == 0) = false := beq_eq_false_iff_ne.2 hwn1
            have hxni : (xn : Int) < (rn : Int) := by omega
            have hs104 : ∀ w, (Instr.sliceAt 101 (.slice (some ⟨gW, 0, none⟩) wn cW) none (some (.int .i64 (top : Int))) none).run Tryd.prog w = .ok (.slice (some ⟨gW, 0, none⟩) top cW) w := fun w => sliceH104 gW 0 wn cW top (by omega) (by omega) w
            have hs27 : ∀ w, (Instr.sliceAt 43 (.slice (some ⟨gX, oX, none⟩) mX cX) none (some (.int .i64 (l1 : Int))) none).run Tryd.prog w = .ok (.slice (some ⟨gX, oX, none⟩) l1 cX) w := fun w => sliceH27 gX oX mX cX l1 (by omega) (by omega) w
            have k0 : ∀ i : KB wr [gW, gX, p, gr], i.v.cell? ⟨gW, top, none⟩ = some (.slice (some ⟨gX, oX, none⟩) mX cX) := fun i => (i.cell (b := gW) (by simp) _).trans fW
            have k1 : ∀ i : KB wr [gW, gX, p, gr], i.v.cell? ⟨gX, oX + l1, none⟩ = some (.int .i64 sy) := fun i => (i.cell (b := gX) (by simp) _).trans fX
            have k2 : ∀ i : KB wr [gW, gX, p, gr], i.v.cell? ⟨p, 4, none⟩ = some (.slice (some ⟨gr, orr, none⟩) rn cr) := fun i => (i.cell (b := p) (by simp) _).trans f2
            have k3 : ∀ i : KB wr [gW, gX, p, gr], i.v.cell? ⟨gr, orr + xn * 2, none⟩ = some (.int .i64 (LF : Int)) := fun i => (i.cell (b := gr) (by simp) _).trans r0
            clear hmX hl1 htp hw0 hx0 hxr
            have hbnd : wn ≤ 1099511627777 := by have := HWL.out; omega
            have hmXb : (mX : Int) ≤ 9223372036854775807 := by omega
            have hl1b : (l1 : Int) ≤ 9223372036854775806 := by omega
            have hrxd : decide (rn ≤ xn) = false := decide_eq_false (by omega)
            have hlc : l1 ≤ cX := by omega
            have hc0 : ¬ cX = 0 := by omega
            have htc : top ≤ cW := by omega
            have hcw0 : ¬ cW = 0 := by omega
            clear hWn hcX hcapX
            go_wp2_with fail
            refine wp_region_seg [0, 0, 0, 0, 0, 0, 0, 0, 0, 0, 0, 0, 0, 0, 0, 0] 0 16 [gW, gX, p, gr] (by kernel_rfl) (by kernel_rfl) (by kernel_rfl) (by kernel_rfl) (by kernel_rfl) (by kernel_rfl) (by kernel_rfl) (by kernel_rfl) (fun _ _ _ _ _ h => h) ?_
            simp only [SegW, pk, Nat.reduceMul, Nat.reduceBEq, cond_true, cond_false]
            repeat (go_big_quiet_step (fail))
            refine wpQuiet_nil ?_
            clear k0 k1 k2 k3
            have hwq : ∃ wq, wq = wr.drew := ⟨_, rfl⟩
            obtain ⟨wq, hwq⟩ := hwq
            have HLQ : Hid (wq.ownsRow B2 43 1 (.slice (some ⟨gW, 0, none⟩) top cW) top (vs.take top)) := by rw [hwq]; exact HLESS.out
            have HVQ : Hid (IvAt wq wq.heap.size (vs.take top) WI) := by rw [hwq]; exact HIVT.out
            have HIQ : Hid (IrAt wq wq.heap.size (.slice (some ⟨gX, oX, none⟩) l1 cX) XI) := by rw [hwq]; exact HIRT.out
            have HCQ : Hid (CsAt wq gi ivs.toArray 43) := by rw [hwq]; exact HCIR.out
            have HNQ : Hid (IrAt wq B2 uI IN) := by rw [hwq]; exact HIRI.out
            have HBQ2 : Hid (Below B2 w2 wq) := by rw [hwq]; exact HBW.out.drew
            have HWQ : Hid (Below w.heap.size w wq) := by rw [hwq]; exact HWW.out.drew
            have q0 : wq.cell? ⟨gW, top, none⟩ = some (.slice (some ⟨gX, oX, none⟩) mX cX) := by rw [hwq]; exact fW
            have HBL : Hid (B2 ≤ wq.heap.size) := by have := HBQ2.out.size; have := HB2E.out; show _ ≤ _; omega
            rw [← hwq]
            have HR1 : Hid (w.cell? ⟨gr, orr + xn * 2 + 1, none⟩ = some (.slice a2 m2 c2)) := (HWW.out.cell (p := ⟨gr, orr + xn * 2 + 1, none⟩) hgr).symm.trans r1
            have HGR := hidD hgr
            clear hwq fW fX f1 f2 r0 r1
            by_cases hsl : sy = (LF : Int)
            · rw [decide_eq_true hsl] at HFK
              have HFIT : Hid (fitS T R st l k = true) := by show _ = _; rw [HFK.out]; rfl
              subst hsl
              have HUI : Hid (ivs.toArray[xn]? = some uI) := by show _ = _; rw [List.getElem?_toArray]; exact huI
              clear huI
              have hGI2 : gi < B2 := by have := HCI.out.lt; have := HB2E.out; omega
              have HKK : Hid (∀ w', Below B2 wq w' → ∃ i : KB wq [gi], w' = i.v) := fun w' hb => ⟨⟨w', fun y hy => by rw [List.mem_singleton] at hy; subst hy; exact hb.block y hGI2⟩, rfl⟩
              have k0 : ∀ i : KB wq [gi], i.v.cell? ⟨gi, xn, none⟩ = some uI := fun i => (i.cell (b := gi) (by simp) _).trans ((HCQ.out.cell xn).trans HUI.out)
              have HDQ : Hid (Below B2 wq wq.drew) := (Below.refl _ _).drew
              have HPU := hidD (push_any (base := B2) (W := WI) (c := XI) wq.drew (by have := HWIL.out; have := HTP.out; omega) (by rw [HTP.out]; exact HLQ.out) HVQ.out HIQ.out HBL.out)
              clear hGI2
              have HPU2 : Hid (∀ w' v5 vs5, Below B2 wq w' → Kept 43 wq.drew w' → w'.ownsRow B2 43 1 v5 (pfS WI XI).length vs5 → IvAt w' w'.heap.size vs5 (pfS WI XI) → Calls Tryd.prog 97 #[v5, uI] w' fun e w'' => ∃ v' vs', e = .returned v' ∧ w''.ownsRow B2 43 1 v' (pfS (pfS WI XI) IN).length vs' ∧ IvAt w'' w''.heap.size vs' (pfS (pfS WI XI) IN) ∧ Below B2 w' w'' ∧ Kept 43 w' w'') := fun w' v5 vs5 hb hk ho hv => push_any (base := B2) (W := pfS WI XI) (c := IN) w' (by have := HPF1.out; have := HWIL.out; omega) ho hv ((HNQ.out.below hb (Nat.le_refl _)).mono (Nat.le_trans HBL.out hb.size)) (Nat.le_trans HBL.out hb.size)
              go_wp2_with fail
              refine wp_region_seg [0, 0, 0, 0, 1, 0, 0, 0, 0, 99, 99] 1 9 [gi] (by kernel_rfl) (by kernel_rfl) (by kernel_rfl) (by kernel_rfl) (by kernel_rfl) (by kernel_rfl) (by kernel_rfl) (by kernel_rfl) (fun _ _ _ _ _ h => h) ?_
              simp only [SegW, pk, Nat.reduceMul, Nat.reduceAdd, Nat.reduceBEq, cond_true, cond_false]
              repeat (go_big_quiet_step (fail))
              refine wpQuiet_nil ?_
              go_wp2_with (go_at_call 97; refine HPU.out.mono ?_; rintro e w5 ⟨v5, vs5, rfl, ho5, hv5, hb5, hk5⟩; have HO5 := hidD ho5; have HV5 := hidD hv5; have HB5 : Hid (Below B2 wq w5) := HDQ.out.trans hb5; have HK5 := hidD hk5; clear ho5 hv5 hb5 hk5)
              refine ⟨HKK.out _ HB5.out, ?_⟩
              repeat (go_big_quiet_step (fail))
              refine wpQuiet_nil ?_
              have HBL2 : Hid (w.heap.size ≤ B2) := by have := HB2.out.size; have := HB2E.out; show _ ≤ _; omega
              have hz1 : -1099511627776 ≤ zk := by have := HSK.out.1; omega
              have hz2 : zk ≤ 1152921504606846977 := by have := HSK.out.2; omega
              cases gk with
              | true =>
                go_wp2_with (go_at_call 97; refine (HPU2.out _ _ _ HB5.out HK5.out HO5.out HV5.out).mono ?_; rintro e w6 ⟨v6, vs6, rfl, ho6, hv6, hb6, hk6⟩; have HO6 := hidD ho6; have HV6 := hidD hv6; have HBW6 := hidD (HBQ2.out.trans (HB5.out.trans hb6)); have HWW6 : Hid (Below w.heap.size w w6) := HWQ.out.trans ((HB5.out.trans hb6).mono HBL2.out); have f8 : w6.cell? ⟨p, 4, none⟩ = some (.slice (some ⟨gr, orr, none⟩) rn cr) := (HWW6.out.cell (p := ⟨p, 4, none⟩) HGP.out).trans HPC.out; have f9 : w6.cell? ⟨gr, orr + xn * 2 + 1, none⟩ = some (.slice a2 m2 c2) := (HWW6.out.cell (p := ⟨gr, orr + xn * 2 + 1, none⟩) HGR.out).trans HR1.out; clear ho6 hv6 hb6 hk6)
                go_roundw
                case rel =>
                  refine ⟨k + 1, pfS (pfS WI XI) IN, vs6, by omega, by go_num, ?_, ?_, HO6.out, HV6.out, HPFL.out, HPA.out, ?_, HST.out HFIT.out, HBW6.out⟩
                  · rw [HSNK.out]
                  · rw [HBNK.out, HSNK.out]; rfl
                  · have h1 := HPF1.out; have h2 := HPF2.out; have h3 := HWIL.out; have h4 := HWL.out; have h5 := HTP.out; omega
                case measure => simp [intOf]; omega
              | false =>
                go_wp2_with (go_at_call 97; refine (HPU2.out _ _ _ HB5.out HK5.out HO5.out HV5.out).mono ?_; rintro e w6 ⟨v6, vs6, rfl, ho6, hv6, hb6, hk6⟩; have HO6 := hidD ho6; have HV6 := hidD hv6; have HBW6 := hidD (HBQ2.out.trans (HB5.out.trans hb6)); have HWW6 : Hid (Below w.heap.size w w6) := HWQ.out.trans ((HB5.out.trans hb6).mono HBL2.out); have f8 : w6.cell? ⟨p, 4, none⟩ = some (.slice (some ⟨gr, orr, none⟩) rn cr) := (HWW6.out.cell (p := ⟨p, 4, none⟩) HGP.out).trans HPC.out; have f9 : w6.cell? ⟨gr, orr + xn * 2 + 1, none⟩ = some (.slice a2 m2 c2) := (HWW6.out.cell (p := ⟨gr, orr + xn * 2 + 1, none⟩) HGR.out).trans HR1.out; clear ho6 hv6 hb6 hk6)
                go_roundw
                case rel =>
                  refine ⟨k + 1, pfS (pfS WI XI) IN, vs6, by omega, by go_num, ?_, ?_, HO6.out, HV6.out, HPFL.out, HPA.out, ?_, HST.out HFIT.out, HBW6.out⟩
                  · rw [HSNK.out]
                  · rw [HBNK.out, HSNK.out]; simp
                  · have h1 := HPF1.out; have h2 := HPF2.out; have h3 := HWIL.out; have h4 := HWL.out; have h5 := HTP.out; omega
                case measure => simp [intOf]; omega
            · rw [decide_eq_false hsl, Bool.and_false] at HFK
              have HBADX : Hid (fitsS T R st l = false) := HBAD.out HFK.out
              have hslb : (sy == (LF : Int)) = false := beq_eq_false_iff_ne.2 hsl
              go_wp2_with fail
              refine bodyPost_ret (v := .int .i64 1) (by simp [results, Tryd.results83, go_sem]) rfl ?_
              exact ⟨by rw [HTE.out, HBADX.out, if_neg (by decide)], HWQ.out⟩
    · obtain rfl : ln = k := by omega
      have HTT := hidD (HFT.out HAL2.out)
      clear hown hiv hfl hne hwl hall hbel
      cases hg : bgTo R l ln with
      | true =>
        have HRS : Hid (tryE T R st l = 3) := by show _ = _; rw [HTE.out, HTT.out, if_pos rfl, hg, if_pos rfl]
        clear hg
        go_wp2
        refine bodyPost_ret (v := .int .i64 3) (by simp [results, Tryd.results83, go_sem]) rfl ?_
        exact ⟨by rw [HRS.out], HWW.out⟩
      | false =>
        have HRS : Hid (tryE T R st l = 0) := by show _ = _; rw [HTE.out, HTT.out, if_pos rfl, hg, if_neg (by decide)]
        clear hg
        go_wp2
        refine bodyPost_ret (v := .int .i64 0) (by simp [results, Tryd.results83, go_sem]) rfl ?_
        exact ⟨by rw [HRS.out], HWW.out⟩
end Go.Proofs.YtgmbkelmgolkpaaDoor
