/- Texts of one proof, one behind the other. -/
import Derived.Test.YtgmbkelmgolkpaaDoorGw
import Derived.Test.YtgmbkelmgolkpaaDoorBld
/- Plain: a grammar's text, line by line. -/
namespace Go.Proofs.YtgmbkelmgolkpaaDoor
open Go.RowKit Go.Maps
set_option linter.unusedVariables false

abbrev Rus := List (Nat × List Int)
/-- The first k words of a right side, a blank ahead of each. -/
def rwTo (N : List Tx) (r : List Int) : Nat → Tx
  | 0 => []
  | k + 1 => rwTo N r k ++ 32 :: N.getD (r.getD k 0).toNat []
def barS (k : Nat) : Tx := if k = 0 then [32, 45, 62] else [32, 124]
def rgS (R : Rus) (of : List Int) (k : Nat) : List Int := (R.getD (of.getD k 0).toNat (0, [])).2
/-- The first k of a symbol's rules. -/
def arTo (N : List Tx) (R : Rus) (of : List Int) : Nat → Tx
  | 0 => []
  | k + 1 => (arTo N R of k ++ barS k) ++ rwTo N (rgS R of k) (rgS R of k).length
/-- A symbol's line. -/
def liS (N : List Tx) (R : Rus) (s : Nat) (of : List Int) : Tx := (N.getD s [] ++ arTo N R of of.length) ++ [10]
/-- Is this rule the first one of its left side? -/
def fiB (R : Rus) (i : Nat) : Nat → Bool
  | 0 => true
  | k + 1 => fiB R i k && !((R.getD k (0, [])).1 == (R.getD i (0, [])).1)
def leS (R : Rus) (i : Nat) : Nat := (R.getD i (0, [])).1
/-- The text of the first k rules' symbols. -/
def txTo (N : List Tx) (R : Rus) : Nat → Tx
  | 0 => []
  | k + 1 => if fiB R k k then txTo N R k ++ liS N R (leS R k) (ofTo R (leS R k : Int) R.length) else txTo N R k
theorem fi_iff (R : Rus) (i : Nat) : ∀ k, fiB R i k = true ↔ ∀ j, j < k → (R.getD j (0, [])).1 ≠ (R.getD i (0, [])).1
  | 0 => by simp [fiB]
  | k + 1 => by
    rw [fiB, Bool.and_eq_true, fi_iff R i k, Bool.not_eq_true', beq_eq_false_iff_ne]
    constructor
    · rintro ⟨h1, h2⟩ j hj
      rcases Nat.lt_succ_iff_lt_or_eq.1 hj with h | h
      · exact h1 j h
      · subst h; exact h2
    · intro h
      exact ⟨fun j hj => h j (by omega), h k (by omega)⟩
theorem of_none (R : Rus) (s : Int) : ∀ m, (∀ j, j < m → ((R.getD j (0, [])).1 : Int) ≠ s) → ofTo R s m = []
  | 0, _ => rfl
  | m + 1, h => by rw [ofTo, if_neg (h m (by omega)), of_none R s m fun j hj => h j (by omega)]
theorem of_head (R : Rus) (s : Int) {j : Nat} (hj : ((R.getD j (0, [])).1 : Int) = s) (hl : ∀ i, i < j → ((R.getD i (0, [])).1 : Int) ≠ s) : ∀ m, j < m → ∃ t, ofTo R s m = (j : Int) :: t
  | 0, h => by cases h
  | m + 1, h => by
    rw [ofTo]
    rcases Nat.lt_succ_iff_lt_or_eq.1 h with h1 | h1
    · obtain ⟨t, ht⟩ := of_head R s hj hl m h1
      rw [ht]; split
      · exact ⟨t ++ [(m : Int)], rfl⟩
      · exact ⟨t, rfl⟩
    · subst h1
      rw [if_pos hj, of_none R s j hl]
      exact ⟨[], rfl⟩
theorem of_mem (R : Rus) (s : Int) : ∀ m x, x ∈ ofTo R s m → ∃ j : Nat, x = (j : Int) ∧ j < m ∧ ((R.getD j (0, [])).1 : Int) = s
  | 0, x, h => by cases h
  | m + 1, x, h => by
    rw [ofTo] at h
    split at h
    · rcases List.mem_append.1 h with h | h
      · obtain ⟨j, h1, h2, h3⟩ := of_mem R s m x h; exact ⟨j, h1, by omega, h3⟩
      · rw [List.mem_singleton] at h; exact ⟨m, h, by omega, by assumption⟩
    · obtain ⟨j, h1, h2, h3⟩ := of_mem R s m x h; exact ⟨j, h1, by omega, h3⟩
theorem of_get {R : Rus} {s : Int} {m k : Nat} (hk : k < (ofTo R s m).length) : ∃ j : Nat, (ofTo R s m).getD k 0 = (j : Int) ∧ j < m := by
  obtain ⟨j, h1, h2, _⟩ := of_mem R s m ((ofTo R s m).getD k 0) (by rw [List.getD_eq_getElem?_getD, List.getElem?_eq_getElem hk]; exact List.getElem_mem hk)
  exact ⟨j, h1, h2⟩
theorem least_ex (p : Nat → Prop) [DecidablePred p] : ∀ n, p n → ∃ j, j ≤ n ∧ p j ∧ ∀ i, i < j → ¬ p i := by
  intro n
  induction n using Nat.strongRecOn with
  | ind n ih =>
    intro hn
    by_cases h : ∃ i, i < n ∧ p i
    · obtain ⟨i, h1, h2⟩ := h
      obtain ⟨j, h3, h4, h5⟩ := ih i h1 h2
      exact ⟨j, by omega, h4, h5⟩
    · exact ⟨n, Nat.le_refl _, hn, fun i hi hp => h ⟨i, hi, hp⟩⟩
/-- The first of a symbol's rules is this one, just if it is the first of its left side. -/
theorem of_first (R : Rus) {n : Nat} (hn : n < R.length) : 1 ≤ (ofTo R (leS R n : Int) R.length).length ∧ ∃ j : Nat, (ofTo R (leS R n : Int) R.length).getD 0 0 = (j : Int) ∧ (decide ((j : Int) = (n : Int)) = fiB R n n) := by
  obtain ⟨j, h1, h2, h3⟩ := least_ex (fun j => ((R.getD j (0, [])).1 : Int) = (leS R n : Int)) n rfl
  obtain ⟨t, ht⟩ := of_head R (leS R n : Int) h2 h3 R.length (by omega)
  rw [ht]
  refine ⟨by simp, j, rfl, ?_⟩
  rw [Bool.eq_iff_iff, decide_eq_true_eq, fi_iff]
  constructor
  · intro h i hi he
    have : j = n := by omega
    subst this
    exact h3 i hi (by rw [he]; rfl)
  · intro h
    by_cases hj : j = n
    · rw [hj]
    · exact absurd (by have : ((R.getD j (0, [])).1 : Int) = ((R.getD n (0, [])).1 : Int) := h2
                       omega) (h j (by omega))
theorem rw_len {N : List Tx} (hN : ∀ s, (N.getD s []).length ≤ 32) (r : List Int) : ∀ k, (rwTo N r k).length ≤ 33 * k
  | 0 => Nat.le_refl _
  | k + 1 => by
    have h1 := rw_len hN r k
    have h2 := hN (r.getD k 0).toNat
    rw [rwTo, List.length_append, List.length_cons]; omega
theorem bar_len (k : Nat) : (barS k).length ≤ 3 := by unfold barS; split <;> decide
theorem rgs_len {R : Rus} {n : Nat} (hR : RuOk R n) (of : List Int) (k : Nat) : (rgS R of k).length ≤ 1048576 := by
  unfold rgS
  by_cases h : (of.getD k 0).toNat < R.length
  · exact (hR _ h).2.1
  · rw [List.getD_eq_getElem?_getD, List.getElem?_eq_none (by omega)]; exact Nat.zero_le _
theorem ar_len {N : List Tx} (hN : ∀ s, (N.getD s []).length ≤ 32) {R : Rus} {n : Nat} (hR : RuOk R n) (of : List Int) : ∀ k, (arTo N R of k).length ≤ 34603011 * k
  | 0 => Nat.le_refl _
  | k + 1 => by
    have h1 := ar_len hN hR of k
    have h2 := bar_len k
    have h3 := rw_len hN (rgS R of k) (rgS R of k).length
    have h4 := rgs_len hR of k
    rw [arTo, List.length_append, List.length_append]; omega
theorem li_len {N : List Tx} (hN : ∀ s, (N.getD s []).length ≤ 32) {R : Rus} {n : Nat} (hR : RuOk R n) (hl : R.length ≤ 128) (s : Nat) (x : Int) : (liS N R s (ofTo R x R.length)).length ≤ 4429185441 := by
  have h1 := hN s
  have h2 := of_len R x R.length
  have h3 := ar_len hN hR (ofTo R x R.length) (ofTo R x R.length).length
  unfold liS
  rw [List.length_append, List.length_append, List.length_singleton]; omega
theorem tx_len {N : List Tx} (hN : ∀ s, (N.getD s []).length ≤ 32) {R : Rus} {n : Nat} (hR : RuOk R n) (hl : R.length ≤ 128) : ∀ k, (txTo N R k).length ≤ 4429185441 * k
  | 0 => Nat.le_refl _
  | k + 1 => by
    have h1 := tx_len hN hR hl k
    have h2 := li_len hN hR hl (leS R k) (leS R k : Int)
    rw [txTo]
    split
    · rw [List.length_append]; omega
    · omega
end Go.Proofs.YtgmbkelmgolkpaaDoor
/- What writeLine writes. -/
namespace Go.Proofs.YtgmbkelmgolkpaaDoor
open Go.RowKit Go.Maps
set_option linter.unusedVariables false

theorem cat_ba (x y : Tx) : (⟨x.toArray⟩ : ByteArray) ++ ⟨y.toArray⟩ = ⟨(x ++ y).toArray⟩ := by
  apply ByteArray.ext
  rw [ByteArray.data_append]
  simp
theorem il_at {w : World} {g o n c : Nat} {l : List Int} (h : IlAt w (.slice (some ⟨g, o, none⟩) n c) l) {k : Nat} (hk : k < l.length) : g < w.heap.size ∧ w.cell? ⟨g, o + k, none⟩ = some (.int .i64 (l.getD k 0)) := by
  obtain ⟨a, cap, h1, _, _, h4⟩ := h
  cases h1
  obtain ⟨g2, o2, e1, e2, e3⟩ := h4 k hk
  cases e1
  exact ⟨e2, e3⟩
theorem il_some {w : World} {a : Option Addr} {n c : Nat} {l : List Int} (h : IlAt w (.slice a n c) l) (hl : 1 ≤ l.length) : ∃ g o, a = some ⟨g, o, none⟩ := by
  obtain ⟨a, cap, h1, _, _, h4⟩ := h
  cases h1
  obtain ⟨g2, o2, e1, e2, e3⟩ := h4 0 (by omega)
  exact ⟨g2, o2, e1⟩
/-- A grammar's names and rules, in worlds that keep what there was. -/
structure GfW (w0 : World) (p gn on nc gr og cr : Nat) (N : List Tx) (R : Rus) : Prop where
  c0 : ∀ wr, Below w0.heap.size w0 wr → wr.cell? ⟨p, 0, none⟩ = some (.slice (some ⟨gn, on, none⟩) N.length nc)
  c4 : ∀ wr, Below w0.heap.size w0 wr → wr.cell? ⟨p, 4, none⟩ = some (.slice (some ⟨gr, og, none⟩) R.length cr)
  nm : ∀ wr, Below w0.heap.size w0 wr → ∀ k, k < N.length → wr.cell? ⟨gn, on + k, none⟩ = some (.string ⟨(N.getD k []).toArray⟩)
  lf : ∀ wr, Below w0.heap.size w0 wr → ∀ k, k < R.length → wr.cell? ⟨gr, og + k * 2, none⟩ = some (.int .i64 ((R.getD k (0, [])).1 : Int))
  rt : ∀ k, k < R.length → ∃ a c, ∀ wr, Below w0.heap.size w0 wr → wr.cell? ⟨gr, og + k * 2 + 1, none⟩ = some (.slice a (R.getD k (0, [])).2.length c) ∧ IlAt wr (.slice a (R.getD k (0, [])).2.length c) (R.getD k (0, [])).2
  ru : ∀ wr, Below w0.heap.size w0 wr → RuAt wr (.slice (some ⟨gr, og, none⟩) R.length cr) R
  pl : p < w0.heap.size
theorem GfAt.gw {w : World} {p : Nat} {T O : List Tx} {st : Nat} {R : List (Nat × List Int)} {nul : Nat} {bg fo : Nat → Nat} (h : GfAt w p T O st R nul bg fo) : ∃ gn on nc gr og cr, GfW w p gn on nc gr og cr (allN T O) R := by
  have hone := h.one
  have hN : 1 ≤ (allN T O).length := by rw [allN_len]; omega
  obtain ⟨cs, h1, ⟨nv, Bn, e1, e2⟩, _, _, _, ⟨vr, e5, e6⟩, _⟩ := h.cs
  have hp : p < w.heap.size := h1.lt
  obtain ⟨na, nc, rfl, hc1, hc2, hcell⟩ := e2
  have HR := id e6
  obtain ⟨ar, cr, rfl, hrc⟩ := e6
  obtain ⟨gn, on, csn, rfl, _, _, _⟩ := hcell 0 (by omega)
  obtain ⟨gr, og, _, rfl, _⟩ := hrc 0 (by omega)
  refine ⟨gn, on, nc, gr, og, cr, ⟨fun wr hb => (hb.cell (p := ⟨p, 0, none⟩) hp).trans (by rw [h1.cell]; exact e1), fun wr hb => (hb.cell (p := ⟨p, 4, none⟩) hp).trans (by rw [h1.cell]; exact e5), fun wr hb k hk => ?_, fun wr hb k hk => ?_, fun k hk => ?_, fun wr hb => HR.next hb, hp⟩⟩
  · obtain ⟨g, o, cs2, q1, q2, q3, q4⟩ := hcell k hk
    cases q1
    exact (hb.cell (p := ⟨gn, on + k, none⟩) (row_lt q3)).trans ((cell_of_row _ _ _ _ _ _ q3).trans q4)
  · obtain ⟨g, o, rv, q1, q2, q3, q4⟩ := hrc k hk
    cases q1
    exact (hb.cell (p := ⟨gr, og + k * 2, none⟩) q2).trans q3
  · obtain ⟨g, o, rv, q1, q2, q3, q4, q5⟩ := hrc k hk
    cases q1
    obtain ⟨a, c, rfl, q6⟩ := id q5
    exact ⟨a, c, fun wr hb => ⟨(hb.cell (p := ⟨gr, og + k * 2 + 1, none⟩) q2).trans q4, q5.next hb⟩⟩
set_option maxRecDepth 100000 in
set_option maxHeartbeats 1600000 in
theorem writeLine_any {p gn on nc gr og cr : Nat} {w0 : World} {N : List Tx} {R : Rus} (h : GfW w0 p gn on nc gr og cr N R) (hR : RuOk R N.length) (hn : N.length ≤ 128) (hN : ∀ s, (N.getD s []).length ≤ 32) (s : Nat) (hs : s < N.length) (of : List Int) (hof : ∀ k, k < of.length → ∃ j : Nat, of.getD k 0 = (j : Int) ∧ j < R.length) (hol : of.length ≤ 128) (ho1 : 1 ≤ of.length) (b : Nat) (l : Tx) (hl : l.length ≤ 1000000000000) (vo : Value) (w : World) (hb : Below w0.heap.size w0 w) (hbd : BdIs w w0.heap.size b l) (base : Nat) (ho : w.ownsRow base 3 1 vo of.length (of.map encI)) (hrn : R.length ≤ 128) : Calls Tryd.prog 89 #[.pointer (some ⟨p, 0, none⟩), .pointer (some ⟨b, 0, none⟩), .int .i64 (s : Int), vo] w fun e w' => e = .returned (.tuple #[]) ∧ BdAt w' w0.heap.size b (l ++ liS N R s of) ∧ Below w0.heap.size w0 w' := by
  have HG := hidD h
  have HNL := hidD hN
  have HRO := hidD hR
  have HOF := hidD hof
  have HIW := hidD (fun (wr : World) (k : Nat) (hk : k < N.length) (hb : Below w0.heap.size w0 wr) => h.nm wr hb k hk)
  have f0 := h.c0 w hb
  have f1 := h.nm w hb s hs
  have HW0 := hidD (writeString_any w0.heap.size b l (N.getD s []) w hbd (by have := hN s; omega) hb.size)
  have HLI : Hid (liS N R s of = (N.getD s [] ++ arTo N R of of.length) ++ [10]) := rfl
  have hnl := hN s
  have HWB := hidD hb
  have HOW0 := hidD ho
  have hsi : (s : Int) < (N.length : Int) := by omega
  obtain ⟨ao, co, hvo⟩ := row_shape ho
  obtain ⟨go, oo, hao⟩ := il_some (by rw [← hvo]; exact il_of_own ho) ho1
  subst hao
  subst hvo
  clear h hR hN hof hbd hb ho
  generalize hnn : N.length = nn at *
  have HNN := hidD hnn
  generalize hm : of.length = m at *
  have HM := hidD hm
  generalize hrl : R.length = rn at *
  have HRN := hidD hrl
  clear hnn hm hrl
  generalize hA : N.getD s [] = A at *
  clear hA
  generalize (⟨A.toArray⟩ : ByteArray) = ab at *
  go_enter Tryd.func89, Tryd.ntmps89
  go_wp2_with (go_at_call 103; refine HW0.out.mono ?_; rintro e w1 ⟨rfl, hbd1, hb1, hn1⟩; have HBD1 := hidD hbd1; have HB1 := hidD (HWB.out.trans hb1); have HOW1 := hidD (hn1.own HOW0.out); clear hbd1 hb1 hn1)
  go_loopw [8, 24] (fun bf i wr => ∃ k : Nat, k ≤ m ∧ i = .int .i64 (k : Int) ∧ (∃ bx : ByteArray, bf = .string bx ∧ bx = ⟨((barS k).drop 1).toArray⟩) ∧ BdAt wr w0.heap.size b (l ++ A ++ arTo N R of k) ∧ wr.ownsRow base 3 1 (.slice (some ⟨go, oo, none⟩) m co) m (of.map encI) ∧ Below w0.heap.size w0 wr) (fun _ i _ => m - (intOf i).toNat)
  case atStart => exact ⟨0, Nat.zero_le _, rfl, ⟨_, rfl, rfl⟩, by rw [arTo, List.append_nil]; exact HBD1.out, HOW1.out, HB1.out⟩
  case round =>
    obtain ⟨k, hk, rfl, ⟨bx, rfl, hbx⟩, hbd, how, hbel⟩ := hrel
    by_cases hlt : k < m
    · have hlti : (k : Int) < (m : Int) := by omega
      obtain ⟨wp, hwp⟩ : ∃ wp, wp = wr := ⟨_, rfl⟩
      subst hwp
      have f2 : wp.cell? ⟨go, oo + k, none⟩ = some (.int .i64 (of.getD k 0)) := (il_at (il_of_own (by rw [HM.out]; exact how)) (by rw [HM.out]; exact hlt)).2
      obtain ⟨j, hj, hjn⟩ := HOF.out k hlt
      rw [hj] at f2
      have hji : (j : Int) < (rn : Int) := by omega
      have hxs : bx.size ≤ 2 := by rw [hbx]; unfold barS; split <;> decide
      have HBE : Hid ((⟨#[32]⟩ : ByteArray) ++ bx = ⟨(barS k).toArray⟩) := by
        show _ = _
        rw [hbx]
        have : barS k = [32] ++ (barS k).drop 1 := by unfold barS; split <;> rfl
        conv => rhs; rw [this]
        exact cat_ba [32] _
      have hal : (arTo N R of k).length ≤ 34603011 * k := ar_len HNL.out HRO.out of k
      have hrl := rgs_len HRO.out of k
      have HAR : Hid (arTo N R of (k + 1) = (arTo N R of k ++ barS k) ++ rwTo N (R.getD j (0, [])).2 (R.getD j (0, [])).2.length) := by
        show (arTo N R of k ++ barS k) ++ rwTo N (rgS R of k) (rgS R of k).length = _
        rw [show rgS R of k = (R.getD j (0, [])).2 by unfold rgS; rw [hj, Int.toNat_natCast]]
      have hrr : (R.getD j (0, [])).2.length ≤ 1048576 := (HRO.out j (by rw [HRN.out]; exact hjn)).2.1
      have HRS : Hid (∀ q, q < (R.getD j (0, [])).2.length → ∃ t : Nat, (R.getD j (0, [])).2.getD q 0 = (t : Int) ∧ t < nn) := fun q hq => (HRO.out j (by rw [HRN.out]; exact hjn)).2.2 q hq
      have HWS := hidD (writeString_any w0.heap.size b (l ++ A ++ arTo N R of k) (barS k) wp (.inr hbd) (by have := bar_len k; simp only [List.length_append]; omega) hbel.size)
      rw [← HBE.out] at HWS
      have HLB : Hid ((l ++ A ++ arTo N R of k ++ barS k).length ≤ 2000000000000) := by
        have := bar_len k
        show _ ≤ _
        simp only [List.length_append]; omega
      have HOW := hidD how
      have HBW := hidD hbel
      obtain ⟨a2, c2, hrt⟩ := HG.out.rt j (by rw [HRN.out]; exact hjn)
      have HRT := hidD hrt
      have HC4 := hidD (fun w2 (hb : Below w0.heap.size w0 w2) => HG.out.c4 w2 hb)
      rw [HRN.out] at HC4
      clear hbx hbd how hbel HBE hj hal hrl hrt
      generalize hrw : (R.getD j (0, [])).2 = rr at *
      clear hrw
      generalize hL : l ++ A ++ arTo N R of k = L at *
      generalize hB : barS k = BB at *
      go_wp2_with (go_at_call 103; refine HWS.out.mono ?_; rintro e w2 ⟨rfl, hbd2, hb2, hn2⟩; have HBD2 := hidD hbd2; have HB2 := hidD (HBW.out.trans hb2); have HOW2 := hidD (hn2.own HOW.out); have g0 := HC4.out w2 HB2.out; have g1 := (HRT.out w2 HB2.out).1; clear hbd2 hb2 hn2)
      generalize hnr : rr.length = nr at *
      have HNR := hidD hnr
      clear hnr
      go_loopw [41] (fun i wr => ∃ q : Nat, q ≤ nr ∧ i = .int .i64 (q : Int) ∧ BdAt wr w0.heap.size b ((L ++ BB) ++ rwTo N rr q) ∧ wr.ownsRow base 3 1 (.slice (some ⟨go, oo, none⟩) m co) m (of.map encI) ∧ Below w0.heap.size w0 wr) (fun i _ => nr - (intOf i).toNat)
      case atStart => exact ⟨0, Nat.zero_le _, rfl, by rw [rwTo, List.append_nil]; exact HBD2.out, HOW2.out, HB2.out⟩
      case round =>
        obtain ⟨q, hq, rfl, hbd, how, hbel⟩ := hrel
        have HBQ := hidD hbel
        have HOQ := hidD how
        by_cases hqt : q < nr
        · have hqti : (q : Int) < (nr : Int) := by omega
          obtain ⟨t, ht, htn⟩ := HRS.out q hqt
          have HIL := hidD ((HRT.out wr hbel).2)
          obtain ⟨g2, o2, rfl⟩ := il_some HIL.out (by rw [HNR.out]; omega)
          obtain ⟨hg2, f5⟩ := il_at HIL.out (k := q) (by rw [HNR.out]; exact hqt)
          rw [ht] at f5
          have f6 := HG.out.c0 wr hbel
          rw [HNN.out] at f6
          have f7 := HIW.out wr t htn hbel
          have hti : (t : Int) < (nn : Int) := by omega
          have hnt := HNL.out t
          have hwl := rw_len HNL.out rr q
          have HWS2 := hidD (writeString_any w0.heap.size b ((L ++ BB) ++ rwTo N rr q) (32 :: N.getD t []) wr (.inr hbd) (by have := HLB.out; simp only [List.length_append, List.length_cons] at this ⊢; omega) hbel.size)
          have HNX : Hid (rwTo N rr (q + 1) = rwTo N rr q ++ 32 :: N.getD t []) := by show rwTo N rr q ++ 32 :: N.getD (rr.getD q 0).toNat [] = _; rw [ht, Int.toNat_natCast]
          have HCB : Hid ((⟨#[32]⟩ : ByteArray) ++ ⟨(N.getD t []).toArray⟩ = ⟨(32 :: N.getD t []).toArray⟩) := cat_ba [32] _
          have hsz : (⟨(N.getD t []).toArray⟩ : ByteArray).size ≤ 32 := by simp [ByteArray.size]; exact hnt
          rw [← HCB.out] at HWS2
          generalize hX : N.getD t [] = X at *
          clear hX hbd how hbel ht hnt HCB
          generalize (⟨X.toArray⟩ : ByteArray) = xb at *
          go_wp2_with (go_at_call 103; refine HWS2.out.mono ?_; rintro e w3 ⟨rfl, hbd3, hb3, hn3⟩; have HBD3 := hidD hbd3; have HB3 := hidD (HBQ.out.trans hb3); have HOW3 := hidD (hn3.own HOQ.out); clear hbd3 hb3 hn3)
          go_roundw
          case rel => exact ⟨q + 1, by omega, by go_num, by rw [HNX.out, ← List.append_assoc]; exact HBD3.out, HOW3.out, HB3.out⟩
          case measure => simp [intOf]; omega
        · obtain rfl : q = nr := by omega
          have HBDQ := hidD hbd
          clear hbd how hbel
          go_wp2_with fail
          go_roundw
          case rel =>
            refine ⟨k + 1, by omega, by go_num, ⟨_, rfl, rfl⟩, ?_, HOQ.out, HBQ.out⟩
            have h9 := HBDQ.out
            rw [HAR.out, show l ++ A ++ (arTo N R of k ++ BB ++ rwTo N rr q) = L ++ BB ++ rwTo N rr q by rw [← hL]; simp only [List.append_assoc]]
            exact h9
          case measure => simp [intOf]; omega
    · obtain rfl : k = m := by omega
      have hal : (arTo N R of k).length ≤ 34603011 * k := ar_len HNL.out HRO.out of k
      have HWE := hidD (writeString_any w0.heap.size b (l ++ A ++ arTo N R of k) [10] wr (.inr hbd) (by simp only [List.length_append, List.length_singleton]; omega) hbel.size)
      have HBW := hidD hbel
      clear hbd how hbel hbx
      go_wp2_with (go_at_call 103; refine HWE.out.mono ?_; rintro e w3 ⟨rfl, hbd3, hb3, hn3⟩; have HBD3 := hidD hbd3; have HB3 := hidD (HBW.out.trans hb3); clear hbd3 hb3 hn3)
      go_end0
      refine ⟨rfl, ?_, HB3.out⟩
      have h9 := HBD3.out
      rw [HLI.out, show l ++ (A ++ arTo N R of k ++ [10]) = l ++ A ++ arTo N R of k ++ [10] by simp only [List.append_assoc]]
      exact h9
end Go.Proofs.YtgmbkelmgolkpaaDoor
/- What Text answers. -/
namespace Go.Proofs.YtgmbkelmgolkpaaDoor
open Go.RowKit Go.Maps
set_option linter.unusedVariables false

theorem Tryd.zero113 : (Tryd.prog.info? 113).map (fun i => (i.zero, i.size)) = some (some (.agg #[.pointer none, .slice none 0 0]), 2) := by kernel_rfl
theorem BdF.next {p : Value} {w w' : World} {B b : Nat} {l : List Value} (h : Lib.BuilderAtF 113 5 B b p l w) (hb : Below w.heap.size w w') : Lib.BuilderAtF 113 5 B b p l w' := by
  obtain ⟨h1, v, h2, h3, h4⟩ := h
  refine ⟨h1, v, (hb.block b (row_lt h2)).trans h2, ?_, h4⟩
  refine ⟨h3.1, ?_⟩
  rcases h3.2 with h | ⟨g, cap, cur, fz, e1, e2, e3, e4⟩
  · exact .inl h
  · exact .inr ⟨g, cap, cur, fz, e1, e2, (hb.block g (row_lt e3)).trans e3, e4⟩
theorem BdIs.next {w w' : World} {B b : Nat} {l : List UInt8} (h : BdIs w B b l) (hb : Below w.heap.size w w') : BdIs w' B b l := h.elim (fun h => .inl (BdF.next h hb)) (fun h => .inr (BdF.next h hb))
theorem bd_new (w : World) : BdIs (w.alloc (.cells #[.pointer none, .slice none 0 0] (113 : TypeId))) w.heap.size w.heap.size [] := .inl ⟨Nat.le_refl _, .slice none 0 0, heap_alloc_last _ _, ⟨rfl, .inl ⟨rfl, rfl⟩⟩, nofun⟩
set_option maxRecDepth 100000 in
set_option maxHeartbeats 1600000 in
theorem text_any {p gn on nc gr og cr : Nat} {w : World} {N : List Tx} {R : Rus} (h : GfW w p gn on nc gr og cr N R) (hR : RuOk R N.length) (hn : N.length ≤ 128) (hN : ∀ s, (N.getD s []).length ≤ 32) (hrn : R.length ≤ 128) : Calls Tryd.prog 51 #[.pointer (some ⟨p, 0, none⟩)] w fun e w' => e = .returned (encT (txTo N R R.length)) ∧ Below w.heap.size w w' := by
  have HG := hidD h
  have HNL := hidD hN
  have HRO := hidD hR
  have HTL := hidD (tx_len hN hR hrn)
  have HNX : Hid (∀ k, txTo N R (k + 1) = if fiB R k k then txTo N R k ++ liS N R (leS R k) (ofTo R (leS R k : Int) R.length) else txTo N R k) := fun k => rfl
  have HFI := hidD (fun (n : Nat) (hn : n < R.length) => of_first R hn)
  have HOL := hidD (of_len R)
  have HAL := hidD ((Below.refl w.heap.size w).alloc (Nat.le_refl _) (.cells #[.pointer none, .slice none 0 0] (113 : TypeId)))
  have HBN := hidD (bd_new w)
  have f4 := h.c4 _ HAL.out
  obtain ⟨hz, hsz⟩ := zero_of_info Tryd.zero113
  obtain ⟨hz63, hsz63⟩ := zero_of_info Tryd.zero63
  clear h hR hN
  generalize hnn : N.length = nn at *
  have HNN := hidD hnn
  generalize hrl : R.length = rn at *
  have HRN := hidD hrl
  clear hnn hrl
  go_enter Tryd.func51, Tryd.ntmps51
  go_wp2_with fail
  go_loopw [14] (fun i wr => ∃ k : Nat, k ≤ rn ∧ i = .int .i64 (k : Int) ∧ BdIs wr w.heap.size w.heap.size (txTo N R k) ∧ Below w.heap.size w wr) (fun i _ => rn - (intOf i).toNat)
  case atStart => exact ⟨0, Nat.zero_le _, rfl, HBN.out, HAL.out⟩
  case round =>
    obtain ⟨k, hk, rfl, hbd, hbel⟩ := hrel
    have HBD := hidD hbd
    have HBW := hidD hbel
    clear hbd hbel
    by_cases hlt : k < rn
    · have hlti : (k : Int) < (rn : Int) := by omega
      have f1 := HG.out.lf wr HBW.out k (by rw [HRN.out]; exact hlt)
      obtain ⟨a2, c2, hrt⟩ := HG.out.rt k (by rw [HRN.out]; exact hlt)
      have f2 := (hrt wr HBW.out).1
      clear hrt
      obtain ⟨hof1, j, hj, hjd⟩ := HFI.out k hlt
      have hol := HOL.out (leS R k : Int) rn
      have htl := HTL.out k
      have HN := hidD (HNX.out k)
      have hlN : leS R k < nn := (HRO.out k (by rw [HRN.out]; exact hlt)).1
      have HOM : Hid (∀ q, q < (ofTo R (leS R k : Int) rn).length → ∃ j : Nat, (ofTo R (leS R k : Int) rn).getD q 0 = (j : Int) ∧ j < rn) := fun q hq => of_get hq
      have HOW := hidD (fun w' (hb : Below w.heap.size w w') => of_own (p := p) R (by rw [HRN.out]; omega) (leS R k : Int) _ w' (Nat.lt_of_lt_of_le HG.out.pl hb.size) (HG.out.c4 w' hb) (HG.out.ru w' hb))
      rw [HRN.out] at HOW
      have HWL := hidD (fun w' vo base (hb : Below w.heap.size w w') (hbd : BdIs w' w.heap.size w.heap.size (txTo N R k)) (ho : w'.ownsRow base 3 1 vo (ofTo R (leS R k : Int) rn).length ((ofTo R (leS R k : Int) rn).map encI)) => writeLine_any HG.out (by rw [HNN.out]; exact HRO.out) (by rw [HNN.out]; exact hn) HNL.out (leS R k) (by rw [HNN.out]; exact hlN) (ofTo R (leS R k : Int) rn) (by rw [HRN.out]; exact HOM.out) (by omega) hof1 w.heap.size (txTo N R k) (by omega) vo w' hb hbd base ho (by rw [HRN.out]; exact hrn))
      have HAW : Hid (∀ o, Below wr.heap.size wr (wr.alloc o)) := fun o => (Below.refl _ _).alloc (Nat.le_refl _) o
      change wr.cell? _ = some (.int .i64 (leS R k : Int)) at f1
      generalize hof : ofTo R (leS R k : Int) rn = of at *
      clear hof
      generalize (R.getD k (0, [])).2.length = n2 at *
      generalize hle : leS R k = lf at *
      generalize hm : of.length = m at *
      have HM := hidD hm
      clear hm
      have HNC : Hid (∀ v, (wr.alloc (.cells #[.int .i64 (lf : Int), v] (63 : TypeId))).cell? ⟨wr.heap.size, 0, none⟩ = some (.int .i64 (lf : Int)) ∧ (wr.alloc (.cells #[.int .i64 (lf : Int), v] (63 : TypeId))).cell? ⟨wr.heap.size, 1, none⟩ = some v) := fun v => new_cell2 wr _ v 63
      clear HFI HOL HNX HTL htl hol hle
      have hmi : (0 : Int) < (m : Int) := by omega
      cases hfb : fiB R k k with
      | true =>
        rw [hfb] at hjd HN
        have hjd2 : ((j : Int) == (k : Int)) = true := by have := of_decide_eq_true hjd; exact beq_iff_eq.2 this
        clear hjd
        go_wp2_with first
          | (go_at_call 89; refine (HWL.out w2 (.slice (some ⟨g6, o6, none⟩) m c6) _ HB2.out HBD2.out HO2.out).mono ?_; rintro e w3 ⟨rfl, hbd3, hb3⟩; have HBD3 := hidD hbd3; have HB3 := hidD hb3; clear hbd3 hb3)
          | (go_at_call 55; refine (HOW.out _ (Below.next HBW.out (HAW.out _))).mono ?_; rintro e w2 ⟨u2, rfl, ho2, hb2⟩; obtain ⟨a6, c6, h6⟩ := row_shape ho2; subst h6; obtain ⟨g6, o6, h7⟩ := il_some (il_of_own (l := of) (by rw [HM.out]; exact ho2)) (by rw [HM.out]; exact hof1); subst h7; have f6 : w2.cell? ⟨g6, o6, none⟩ = some (.int .i64 (j : Int)) := (by have h9 := (il_at (il_of_own (l := of) (by rw [HM.out]; exact ho2)) (k := 0) (by rw [HM.out]; exact hof1)).2; rw [hj] at h9; exact h9); have HB2 := hidD (Below.next (Below.next HBW.out (HAW.out _)) hb2); have HBD2 := hidD ((HBD.out.next (HAW.out _)).next hb2); have HO2 := hidD ho2; have f8 := (hb2.cell (p := ⟨wr.heap.size, 0, none⟩) (by simp)).trans (HNC.out _).1; clear ho2 hb2)
        go_roundw
        case rel => exact ⟨k + 1, by omega, by go_num, by rw [HN.out]; exact .inr HBD3.out, HB3.out⟩
        case measure => simp [intOf]; omega
      | false =>
        rw [hfb] at hjd HN
        have hjd2 : ((j : Int) == (k : Int)) = false := by have := of_decide_eq_false hjd; exact beq_eq_false_iff_ne.2 this
        clear hjd
        go_wp2_with (go_at_call 55; refine (HOW.out _ (Below.next HBW.out (HAW.out _))).mono ?_; rintro e w2 ⟨u2, rfl, ho2, hb2⟩; obtain ⟨a6, c6, h6⟩ := row_shape ho2; subst h6; obtain ⟨g6, o6, h7⟩ := il_some (il_of_own (l := of) (by rw [HM.out]; exact ho2)) (by rw [HM.out]; exact hof1); subst h7; have f6 : w2.cell? ⟨g6, o6, none⟩ = some (.int .i64 (j : Int)) := (by have h9 := (il_at (il_of_own (l := of) (by rw [HM.out]; exact ho2)) (k := 0) (by rw [HM.out]; exact hof1)).2; rw [hj] at h9; exact h9); have HB2 := hidD (Below.next (Below.next HBW.out (HAW.out _)) hb2); have HBD2 := hidD ((HBD.out.next (HAW.out _)).next hb2); have HO2 := hidD ho2; have f8 := (hb2.cell (p := ⟨wr.heap.size, 0, none⟩) (by simp)).trans (HNC.out _).1; clear ho2 hb2)
        go_roundw
        case rel => exact ⟨k + 1, by omega, by go_num, by rw [HN.out]; exact HBD2.out, HB2.out⟩
        case measure => simp [intOf]; omega
    · obtain rfl : k = rn := by omega
      have HST := hidD (Tryd.Builder_String_any_f w.heap.size w.heap.size (txTo N R k) wr HBD.out HBW.out.size)
      go_wp2_with (go_at_call 90; refine HST.out.mono ?_; rintro e w7 ⟨rfl, hi7, hb7⟩; have HB7 := hidD (HBW.out.trans hb7); clear hi7 hb7)
      go_ret
      exact ⟨rfl, HB7.out⟩
end Go.Proofs.YtgmbkelmgolkpaaDoor
