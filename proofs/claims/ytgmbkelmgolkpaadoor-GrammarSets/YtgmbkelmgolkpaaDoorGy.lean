/- Texts of one proof, one behind the other. -/
import Derived.Test.YtgmbkelmgolkpaaDoorGx
import Derived.Test.YtgmbkelmgolkpaaDoorEqt
import Derived.Deep.WholeRow
import Derived.Laws.Alloc2
/- A set for each symbol, in one row; passes over rules that let them grow. -/
namespace Go.Proofs.YtgmbkelmgolkpaaDoor
open Go.RowKit
set_option linter.unusedVariables false

/-- The words of a row of sets. -/
def wS (S : Nat → Nat) (i : Nat) : Nat := if i % 2 = 0 then lw (S (i / 2)) else hw (S (i / 2))
def ssC (S : Nat → Nat) : Array Value := ((List.range 256).map fun i => Value.int .u64 (wS S i : Int)).toArray
theorem ss_size (S : Nat → Nat) : (ssC S).size = 256 := by simp [ssC]
theorem ss_get (S : Nat → Nat) {i : Nat} (h : i < 256) : (ssC S)[i]? = some (.int .u64 (wS S i : Int)) := by
  unfold ssC
  rw [List.getElem?_toArray, List.getElem?_map, List.getElem?_range h]; rfl
theorem ss_one (S : Nat → Nat) : (ssC S).all (·.oneCell') = true := by
  rw [Array.all_eq_true_iff_forall_mem]
  intro v hv
  simp only [ssC, List.mem_toArray, List.mem_map] at hv
  obtain ⟨i, _, rfl⟩ := hv; rfl
theorem wS_even (S : Nat → Nat) (x : Nat) : wS S (x * 2) = lw (S x) := by unfold wS; rw [if_pos (by omega), show x * 2 / 2 = x by omega]
theorem wS_odd (S : Nat → Nat) (x : Nat) : wS S (x * 2 + 1) = hw (S x) := by unfold wS; rw [if_neg (by omega), show (x * 2 + 1) / 2 = x by omega]
theorem ss_in {S : Nat → Nat} {x : Nat} (hx : x < 128) (h : S x < Top) : SetIn (ssC S) (x * 2) (S x) := ⟨h, by rw [ss_get S (by omega), wS_even], by rw [ss_get S (by omega), wS_odd]⟩
def upd (S : Nat → Nat) (x M : Nat) : Nat → Nat := fun y => if y = x then M else S y
theorem upd_same (S : Nat → Nat) (x M : Nat) : upd S x M x = M := if_pos rfl
theorem upd_other {S : Nat → Nat} {x y M : Nat} (h : y ≠ x) : upd S x M y = S y := if_neg h
theorem ss_set {S : Nat → Nat} {x M : Nat} (hx : x < 128) (h : M < Top) : setC (ssC S) (x * 2) M = ssC (upd S x M) := by
  apply Array.ext_getElem?
  intro i
  by_cases hi : i < 256
  · have h2 := setC_same (cs := ssC S) (o := x * 2) (by rw [ss_size]; omega) h
    rw [ss_get _ hi]
    by_cases h0 : i = x * 2
    · subst h0; rw [h2.c0, wS_even, upd_same]
    · by_cases h1 : i = x * 2 + 1
      · subst h1; rw [h2.c1, wS_odd, upd_same]
      · rw [setC_other _ _ _ _ h0 h1, ss_get S hi]
        have : i / 2 ≠ x := by omega
        unfold wS; rw [upd_other this]
  · rw [Array.getElem?_eq_none (by rw [setC_size, ss_size]; omega), Array.getElem?_eq_none (by rw [ss_size]; omega)]
theorem ss_ext {S T : Nat → Nat} (h : ∀ x, x < 128 → S x = T x) : ssC S = ssC T := by
  apply Array.ext_getElem?
  intro i
  by_cases hi : i < 256
  · rw [ss_get _ hi, ss_get _ hi]
    unfold wS; rw [h (i / 2) (by omega)]
  · rw [Array.getElem?_eq_none (by rw [ss_size]; omega), Array.getElem?_eq_none (by rw [ss_size]; omega)]
theorem ss_ws {S : Nat → Nat} (h : ∀ x, x < 128 → S x < Top) : WsIn (ssC S) (wS S) := ⟨ss_size S, fun i hi => ⟨by
  unfold wS
  split
  · exact lw_lt _
  · exact hw_lt (h _ (by omega)), ss_get S hi⟩⟩
theorem ws_eq {S T : Nat → Nat} : (∀ i, i < 256 → wS S i = wS T i) ↔ ∀ x, x < 128 → S x = T x := by
  constructor
  · intro h x hx
    have h1 := h (x * 2) (by omega)
    have h2 := h (x * 2 + 1) (by omega)
    rw [wS_even, wS_even] at h1
    rw [wS_odd, wS_odd] at h2
    rw [← lw_hw (S x), ← lw_hw (T x), h1, h2]
  · intro h i hi
    unfold wS; rw [h _ (by omega)]
theorem Tryd.zero88 : (Tryd.prog.info? 88).map (fun i => (i.zero, i.size)) = some (some (.agg (ssC fun _ => 0)), 256) := by kernel_rfl
/-- The set of x that lies in a row. -/
def rdX (w : World) (g x : Nat) : Nat := match w.cell? ⟨g, x * 2, none⟩, w.cell? ⟨g, x * 2 + 1, none⟩ with
  | some (.int _ a), some (.int _ b) => a.toNat + b.toNat * 18446744073709551616
  | _, _ => 0
theorem rdX_of {w : World} {g : Nat} {S : Nat → Nat} {t : TypeId} (hc : CsAt w g (ssC S) t) {x : Nat} (hx : x < 128) : rdX w g x = S x := by
  unfold rdX
  rw [hc.cell, hc.cell, ss_get S (by omega), ss_get S (by omega), wS_even, wS_odd]
  simp only [Int.toNat_natCast]
  exact lw_hw _
/-- How much is not there yet. -/
def msS (f : Nat → Nat) : Nat → Nat
  | 0 => 0
  | k + 1 => msS f k + (Top - f k)
theorem ms_congr {f g : Nat → Nat} : ∀ k, (∀ x, x < k → f x = g x) → msS f k = msS g k
  | 0, _ => rfl
  | k + 1, h => by rw [msS, msS, ms_congr k (fun x hx => h x (by omega)), h k (by omega)]
theorem ms_le {f g : Nat → Nat} : ∀ k, (∀ x, x < k → f x ≤ g x) → msS g k ≤ msS f k
  | 0, _ => Nat.le_refl _
  | k + 1, h => by
    have h1 := ms_le k (fun x hx => h x (by omega))
    have h2 := h k (by omega)
    rw [msS, msS]; omega
theorem ms_lt {f g : Nat → Nat} : ∀ k, (∀ x, x < k → f x ≤ g x) → (∀ x, x < k → g x < Top) → (∃ x, x < k ∧ f x ≠ g x) → msS g k < msS f k
  | 0, _, _, ⟨x, hx, _⟩ => by omega
  | k + 1, h, ht, ⟨x, hx, hne⟩ => by
    have h2 := h k (by omega)
    have h3 := ht k (by omega)
    rw [msS, msS]
    by_cases hk : x = k
    · subst hk
      have h1 := ms_le x (fun y hy => h y (by omega))
      omega
    · have h1 := ms_lt k (fun y hy => h y (by omega)) (fun y hy => ht y (by omega)) ⟨x, by omega, hne⟩
      omega
/-- What begins, at first: each terminal with itself. -/
def biS (k : Nat) : Nat → Nat := fun x => if x < k then 2 ^ x else 0
theorem bi_next (k : Nat) : upd (biS k) k (2 ^ k) = biS (k + 1) := by
  funext x
  unfold upd biS
  by_cases h : x = k
  · subst h; rw [if_pos rfl, if_pos (by omega)]
  · rw [if_neg h]
    by_cases h2 : x < k
    · rw [if_pos h2, if_pos (by omega)]
    · rw [if_neg h2, if_neg (by omega)]
theorem bi_top {k : Nat} (hk : k ≤ 128) (x : Nat) : biS k x < Top := by
  unfold biS; split
  · exact two_top (by omega)
  · show 0 < Top; decide
theorem bi_self (k : Nat) : biS k k = 0 := by unfold biS; rw [if_neg (by omega)]
/-- A rule's left one begins as the first q right ones do, as long as they can be nothing. -/
def bqTo (nul l : Nat) (r : List Int) (S : Nat → Nat) : Nat → Nat → Nat
  | 0 => S
  | q + 1 => if (r.take q).all (fun x => nul.testBit x.toNat) then upd (bqTo nul l r S q) l (bqTo nul l r S q l ||| bqTo nul l r S q (r.getD q 0).toNat) else bqTo nul l r S q
theorem bq_stop {nul l : Nat} {r : List Int} {S : Nat → Nat} {q : Nat} (hq : q < r.length) (h : nul.testBit (r.getD q 0).toNat = false) : ∀ m, q + 1 ≤ m → bqTo nul l r S m = bqTo nul l r S (q + 1)
  | 0, hm => by omega
  | m + 1, hm => by
    by_cases e : q = m
    · rw [e]
    · rw [bqTo, if_neg, bq_stop hq h m (by omega)]
      intro ha
      rw [List.all_eq_true] at ha
      have := ha (r.getD q 0) (by
        rw [List.getD_eq_getElem?_getD, List.getElem?_eq_getElem hq]
        exact List.mem_take_iff_getElem.2 ⟨q, by omega, rfl⟩)
      rw [h] at this; cases this
/-- One pass over the first k rules. -/
def bpTo (R : List (Nat × List Int)) (nul : Nat) (S : Nat → Nat) : Nat → Nat → Nat
  | 0 => S
  | k + 1 => bqTo nul (R.getD k (0, [])).1 (R.getD k (0, [])).2 (bpTo R nul S k) (R.getD k (0, [])).2.length
def bpIt (R : List (Nat × List Int)) (nul : Nat) (S : Nat → Nat) : Nat → Nat → Nat
  | 0 => S
  | j + 1 => bpTo R nul (bpIt R nul S j) R.length
/-- What begins: passes until none adds. -/
def BgIs (R : List (Nat × List Int)) (nul T : Nat) (X : Nat → Nat) : Prop := ∃ j, X = bpIt R nul (biS T) j ∧ ∀ x, x < 128 → bpTo R nul X R.length x = X x
theorem bq_ge (nul l : Nat) (r : List Int) (S : Nat → Nat) (x : Nat) : ∀ q, S x ≤ bqTo nul l r S q x
  | 0 => Nat.le_refl _
  | q + 1 => by
    have := bq_ge nul l r S x q
    rw [bqTo]; split
    · by_cases h : x = l
      · subst h; rw [upd_same]; exact Nat.le_trans this Nat.left_le_or
      · rw [upd_other h]; exact this
    · exact this
theorem bq_top {nul l : Nat} {r : List Int} {S : Nat → Nat} (hS : ∀ x, S x < Top) : ∀ q x, bqTo nul l r S q x < Top
  | 0, x => hS x
  | q + 1, x => by
    rw [bqTo]; split
    · by_cases h : x = l
      · subst h; rw [upd_same]; exact or_top (bq_top hS q _) (bq_top hS q _)
      · rw [upd_other h]; exact bq_top hS q x
    · exact bq_top hS q x
theorem bp_ge (R : List (Nat × List Int)) (nul : Nat) (S : Nat → Nat) (x : Nat) : ∀ k, S x ≤ bpTo R nul S k x
  | 0 => Nat.le_refl _
  | k + 1 => Nat.le_trans (bp_ge R nul S x k) (bq_ge _ _ _ _ x _)
theorem bp_top {R : List (Nat × List Int)} {nul : Nat} {S : Nat → Nat} (hS : ∀ x, S x < Top) : ∀ k x, bpTo R nul S k x < Top
  | 0, x => hS x
  | k + 1, x => bq_top (bp_top hS k) _ x
end Go.Proofs.YtgmbkelmgolkpaaDoor
/- What beginnings answers. -/
namespace Go.Proofs.YtgmbkelmgolkpaaDoor
open Go.RowKit
set_option linter.unusedVariables false

theorem Tryd.under66 : Tryd.prog.underlying 88 = some (.array 128 86) := by kernel_rfl
theorem below_setRow {B g : Nat} {a w : World} (h : Below B a w) (hg : B ≤ g) (cs : Array Value) : Below B a (w.setRow g cs) :=
  h.trans ⟨by simp, by simp, by simp, by simp, fun k hk => setRow_other _ _ _ _ (by omega)⟩
theorem But.row {g : Nat} {a w : World} (h : But g a w) (b : Nat) (hb : a.heap.size ≤ b) (hg : g ≤ a.heap.size) (cs : Array Value) : But g a (w.setRow b cs) :=
  ⟨below_setRow h.bel (Nat.le_trans hg hb) cs, fun i hi hn => (setRow_other _ _ _ _ (by omega)).trans (h.rest i hi hn)⟩
theorem all_take {l : List Int} {f : Int → Bool} {q : Nat} (hq : q ≤ l.length) (h : ∀ j, j < q → f (l.getD j 0) = true) : (l.take q).all f = true := by
  refine all_true fun j hj => ?_
  rw [List.length_take] at hj
  rw [List.getD_eq_getElem?_getD, List.getElem?_take, if_pos (by omega), ← List.getD_eq_getElem?_getD]
  exact h j (by omega)
set_option maxRecDepth 100000 in
set_option maxHeartbeats 6400000 in
theorem beginnings_any {p : Nat} (R : List (Nat × List Int)) (n : Nat) (hR : RuOk R n) (hn : n ≤ 128) (hRl : R.length ≤ 1048576) (T : Nat) (hT : T ≤ 128) (nul : Nat) (vr : Value) (w : World) (hp : p < w.heap.size) (hpt : w.cell? ⟨p, 2, none⟩ = some (.int .i64 (T : Int))) (hpc : w.cell? ⟨p, 4, none⟩ = some vr) (hr : RuAt w vr R) (hnu : SetAt w p 5 nul) : Calls Tryd.prog 61 #[.pointer (some ⟨p, 0, none⟩)] w fun e w' => ∃ X, e = .returned (.agg (ssC X)) ∧ (∀ x, X x < Top) ∧ BgIs R nul T X ∧ Below w.heap.size w w' := by
  have HRU := hidD hr
  obtain ⟨ar, cr, rfl, hrc⟩ := hr
  have HRC := hidD hrc
  have HRO := hidD hR
  obtain ⟨hz, hsz⟩ := zero_of_info Tryd.zero88
  have hi66 : ∀ S, (Tryd.prog.info? 88).map (·.size) = some (ssC S).size := fun S => by rw [hsz, ss_size]
  have HI66 := hidD hi66
  obtain ⟨hz76, hsz76⟩ := zero_of_info Tryd.zero63
  have HC0 := hidD hnu.c0
  have HC1 := hidD hnu.c1
  have HNT := hidD hnu.top
  have HGP := hidD hp
  have HPC := hidD hpc
  clear hrc hR hi66 hnu hpc
  have HBL0 : Hid (∀ o1 o2, Below w.heap.size w ((w.alloc o1).alloc o2)) := fun o1 o2 => ((Below.refl _ _).alloc (Nat.le_refl _) o1).alloc (by simp) o2
  have HR0 : Hid (CsAt ((w.alloc (.cells (ssC fun _ => 0) (88 : TypeId))).alloc (.cells (ssC fun _ => 0) (88 : TypeId))) w.heap.size (ssC fun _ => 0) 88) := heap_alloc2_old _ _ _
  have HS0 : Hid (CsAt ((w.alloc (.cells (ssC fun _ => 0) (88 : TypeId))).alloc (.cells (ssC fun _ => 0) (88 : TypeId))) (w.heap.size + 1) (ssC fun _ => 0) 88) := heap_alloc2_new _ _ _
  have HBI0 : Hid (biS 0 = fun _ => 0) := by show _ = _; funext x; unfold biS; rw [if_neg (by omega)]
  have hpt0 : ((w.alloc (.cells (ssC fun _ => 0) (88 : TypeId))).alloc (.cells (ssC fun _ => 0) (88 : TypeId))).cell? ⟨p, 2, none⟩ = some (.int .i64 (T : Int)) := ((HBL0.out _ _).cell (p := ⟨p, 2, none⟩) hp).trans hpt
  clear hpt
  generalize hRn : R.length = rn at *
  have HRN := hidD hRn
  clear hRn
  have HONE := hidD ss_one
  have HSZ := hidD ss_size
  generalize hZZ : (ssC fun _ => 0) = ZZ at *
  have HZZ := hidD hZZ
  clear hZZ
  go_enter Tryd.func61, Tryd.ntmps61
  go_wp2_with fail
  go_step3
  go_wp2_with fail
  have HB0 : Hid (Below w.heap.size w ((w.alloc (.cells ZZ (88 : TypeId))).alloc (.cells ZZ (88 : TypeId)))) := HBL0.out _ _
  generalize hw1 : ((w.alloc (.cells ZZ (88 : TypeId))).alloc (.cells ZZ (88 : TypeId))) = w1 at *
  clear hw1
  generalize hgg : w.heap.size = g at *
  have HGG := hidD hgg
  clear hgg hpt0
  have HGW : Hid (g + 1 ≤ w1.heap.size) := Nat.le_of_lt HS0.out.lt
  go_loopw [14] (fun i wr => ∃ k : Nat, k ≤ T ∧ i = .int .i64 k ∧ CsAt wr (g + 1) (ssC (biS k)) 88 ∧ But (g + 1) w1 wr) (fun i _ => T - (intOf i).toNat)
  case atStart => exact ⟨0, Nat.zero_le _, rfl, by rw [HBI0.out, HZZ.out]; exact HS0.out, But.refl _ _⟩
  case round =>
    obtain ⟨k, hk, rfl, hcs, hbut⟩ := hrel
    have HBU := hidD hbut
    by_cases hlt : k < T
    · have hlti : (k : Int) < T := by omega
      have hk128 : (k : Int) < 128 := by omega
      have hAD := setAdd_cs (biS k k) (g + 1) (k * 2) k (by omega) wr hcs (ss_in (by omega) (bi_top (by omega) k))
      rw [bi_self, Nat.zero_or, ss_set (by omega) (two_top (by omega)), bi_next] at hAD
      have HAD := hidD hAD
      clear hAD hcs hbut
      go_wp2_with (go_at_call 92; refine HAD.out.mono ?_; rintro e w6 ⟨rfl, hc6, hb6⟩; have HC6 := hidD hc6; have HBU6 := hidD (HBU.out.trans hb6); clear hc6 hb6)
      go_roundw
      case rel => exact ⟨k + 1, by omega, by go_num, HC6.out, HBU6.out⟩
      case measure => simp [intOf]; omega
    · obtain rfl : T = k := by omega
      have HCT := hidD hcs
      clear hcs hbut
      have HIT : Hid (∀ j x, bpIt R nul (biS T) j x < Top) := fun j => by
        induction j with
        | zero => exact fun x => bi_top (by omega) x
        | succ j ih => exact fun x => bp_top ih _ x
      have HINX : Hid (∀ j, bpIt R nul (biS T) (j + 1) = bpTo R nul (bpIt R nul (biS T) j) rn) := fun j => by
        show bpTo R nul (bpIt R nul (biS T) j) R.length = _
        rw [HRN.out]
      go_wp2_with fail
      go_step3
      go_wp2_with fail
      go_loopw [5] (fun _ wr => ∃ j : Nat, CsAt wr (g + 1) (ssC (bpIt R nul (biS T) j)) 88 ∧ But (g + 1) w1 wr) (fun _ wr => msS (rdX wr (g + 1)) 128)
      case atStart => exact ⟨0, HCT.out, HBU.out⟩
      case round =>
        obtain ⟨j, hcs, hbut⟩ := hrel
        obtain ⟨wo, hwo⟩ : ∃ wo, wo = wr := ⟨_, rfl⟩
        subst hwo
        have HCS := hidD hcs
        have HBO := hidD hbut
        have HXT := hidD (HIT.out j)
        have HXN := hidD (HINX.out j)
        generalize hX : bpIt R nul (biS T) j = X at *
        have HX := hidD hX
        clear hX
        have HLO : Hid (wo.heap[g + 1]? = some (.cells (ssC X) 88 (0, 0))) := hcs
        have HLA : Hid ((wo.alloc (.cells ZZ (88 : TypeId))).heap[wo.heap.size]? = some (.cells ZZ (88 : TypeId) (0, 0))) := heap_alloc_new _ _
        have HZS : Hid (ZZ.size = 256) := by show _ = _; rw [← HZZ.out]; exact ss_size _
        clear hcs hbut
        go_wp2_with (first | (refine wpList_load_row rfl 88 _ rfl (g + 1) rfl 88 (ssC X) (0, 0) _ HLO.out Tryd.under66 rfl (HI66.out X) ?_) | (refine wpList_store_row rfl 88 _ _ rfl wo.heap.size (ssC X) rfl rfl 88 ZZ HLA.out (HI66.out X) (by rw [HSZ.out, HZS.out]) (HONE.out X) ?_))
        go_step3
        go_wp2_with (first | (refine wpList_load_row rfl 88 _ rfl (g + 1) rfl 88 (ssC X) (0, 0) _ HLO.out Tryd.under66 rfl (HI66.out X) ?_) | (refine wpList_store_row rfl 88 _ _ rfl wo.heap.size (ssC X) rfl rfl 88 ZZ HLA.out (HI66.out X) (by rw [HSZ.out, HZS.out]) (HONE.out X) ?_))
        simp only [Act.put]
        have HBN : Hid (Below wo.heap.size wo ((wo.alloc (.cells ZZ (88 : TypeId))).setRow wo.heap.size (ssC X))) := below_setRow ((Below.refl _ _).alloc (Nat.le_refl _) _) (Nat.le_refl _) _
        have HCB : Hid (CsAt ((wo.alloc (.cells ZZ (88 : TypeId))).setRow wo.heap.size (ssC X)) wo.heap.size (ssC X) 88) := setRow_heap _ _ ZZ (ssC X) 88 (0, 0) HLA.out
        have HBI : Hid (g + 1 ≠ wo.heap.size) := by have := HCS.out.lt; show g + 1 ≠ _; omega
        generalize hw4 : ((wo.alloc (.cells ZZ (88 : TypeId))).setRow wo.heap.size (ssC X)) = w4 at *
        clear hw4
        generalize hbk : wo.heap.size = bk at *
        have HBK := hidD hbk
        clear hbk
        have HC4 : Hid (CsAt w4 (g + 1) (ssC (bpTo R nul X 0)) 88) := HCS.out.next (by rw [HBK.out]; exact HBN.out)
        have HB4 : Hid (But (g + 1) w1 w4) := HBO.out.next (by rw [HBK.out]; exact HBN.out) HGW.out
        have f4 : w4.cell? ⟨p, 4, none⟩ = some (.slice ar rn cr) := (HB4.out.cell (by have := HGW.out; omega) (by omega)).trans ((HB0.out.cell (p := ⟨p, 4, none⟩) HGP.out).trans HPC.out)
        go_step3
        go_wp2_with fail
        clear f4
        go_loopw [28] (fun i wr => ∃ k : Nat, k ≤ rn ∧ i = .int .i64 k ∧ CsAt wr (g + 1) (ssC (bpTo R nul X k)) 88 ∧ CsAt wr bk (ssC X) 88 ∧ But (g + 1) w1 wr) (fun i _ => rn - (intOf i).toNat)
        case atStart => exact ⟨0, Nat.zero_le _, rfl, HC4.out, HCB.out, HB4.out⟩
        case round =>
          obtain ⟨k, hk, rfl, hcs, hcb, hbut⟩ := hrel
          have HCK := hidD hcs
          have HCBK := hidD hcb
          have HBUK := hidD hbut
          have HYT : Hid (∀ x, bpTo R nul X k x < Top) := fun x => bp_top HXT.out k x
          by_cases hlt : k < rn
          · have hlti : (k : Int) < rn := by omega
            obtain ⟨gr, orr, rv, har, hgr, hc1, hc2, hil⟩ := HRC.out k hlt
            obtain ⟨hleft, hrl, hrs⟩ := HRO.out k (by rw [HRN.out]; exact hlt)
            have HRS := hidD hrs
            subst har
            have hcellw : ∀ o', wr.cell? ⟨gr, o', none⟩ = w.cell? ⟨gr, o', none⟩ := fun o' => (hbut.cell (by have := HGW.out; omega) (by omega)).trans (HB0.out.cell (p := ⟨gr, o', none⟩) hgr)
            have f0 : wr.cell? ⟨gr, orr + k * 2, none⟩ = some (.int .i64 ((R.getD k (0, [])).1 : Int)) := (hcellw _).trans hc1
            have f1 : wr.cell? ⟨gr, orr + k * 2 + 1, none⟩ = some rv := (hcellw _).trans hc2
            obtain ⟨a2, c2, hrv, hrc1, hrc2, hrcell⟩ := hil
            subst hrv
            have HRCL := hidD hrcell
            have HNK : Hid (bpTo R nul X (k + 1) = bqTo nul (R.getD k (0, [])).1 (R.getD k (0, [])).2 (bpTo R nul X k) (R.getD k (0, [])).2.length) := rfl
            have hl128 : (R.getD k (0, [])).1 < 128 := by omega
            obtain ⟨wp, hwp⟩ : ∃ wp, wp = wr := ⟨_, rfl⟩
            subst hwp
            generalize hLF : (R.getD k (0, [])).1 = LF at *
            generalize hRR : (R.getD k (0, [])).2 = RR at *
            clear hLF hRR hcs hcb hbut hc1 hc2 hcellw hrs hrcell
            generalize hY : bpTo R nul X k = Y at *
            clear hY
            have HBQ : Hid (∀ q x, bqTo nul LF RR Y q x < Top) := fun q x => bq_top HYT.out q x
            have HBZ : Hid (bqTo nul LF RR Y 0 = Y) := rfl
            have HBN1 : Hid (∀ q, bqTo nul LF RR Y (q + 1) = if (RR.take q).all (fun x => nul.testBit x.toNat) then upd (bqTo nul LF RR Y q) LF (bqTo nul LF RR Y q LF ||| bqTo nul LF RR Y q (RR.getD q 0).toNat) else bqTo nul LF RR Y q) := fun q => rfl
            have HBST : Hid (∀ q, q < RR.length → nul.testBit (RR.getD q 0).toNat = false → bqTo nul LF RR Y RR.length = bqTo nul LF RR Y (q + 1)) := fun q hq h => bq_stop hq h _ (by omega)
            have HALT : Hid (∀ q, q ≤ RR.length → (∀ j, j < q → nul.testBit (RR.getD j 0).toNat = true) → (RR.take q).all (fun x => nul.testBit x.toNat) = true) := fun q hq h => all_take (f := fun x => nul.testBit x.toNat) hq h
            generalize hmm : RR.length = m at *
            have HMM := hidD hmm
            clear hmm
            go_wp2_with fail
            have HB5 : Hid (Below wp.heap.size wp (((wp.alloc (.cells #[.int .i64 0, .slice none 0 0] (63 : TypeId))).setCell ⟨wp.heap.size, 0, none⟩ (.int .i64 (LF : Int))).setCell ⟨wp.heap.size, 1, none⟩ (.slice a2 m c2))) := (((Below.refl _ _).alloc (Nat.le_refl _) _).setCell (p := ⟨wp.heap.size, 0, none⟩) (Nat.le_refl _) _).setCell (p := ⟨wp.heap.size, 1, none⟩) (Nat.le_refl _) _
            have HC5 : Hid (CsAt (((wp.alloc (.cells #[.int .i64 0, .slice none 0 0] (63 : TypeId))).setCell ⟨wp.heap.size, 0, none⟩ (.int .i64 (LF : Int))).setCell ⟨wp.heap.size, 1, none⟩ (.slice a2 m c2)) wp.heap.size #[.int .i64 (LF : Int), .slice a2 m c2] 63) := by
              have h0 : CsAt (wp.alloc (.cells #[.int .i64 0, .slice none 0 0] (63 : TypeId))) wp.heap.size #[.int .i64 0, .slice none 0 0] 63 := heap_alloc_new _ _
              exact (h0.put 0 _).put 1 _
            have HNE5 : Hid (wp.heap.size ≠ g + 1 ∧ wp.heap.size ≠ bk) := by have := HCK.out.lt; have := HCBK.out.lt; exact ⟨by omega, by omega⟩
            generalize hw5 : (((wp.alloc (.cells #[.int .i64 0, .slice none 0 0] (63 : TypeId))).setCell ⟨wp.heap.size, 0, none⟩ (.int .i64 (LF : Int))).setCell ⟨wp.heap.size, 1, none⟩ (.slice a2 m c2)) = w5 at *
            clear hw5 f0 f1
            have HG5 : Hid (g + 1 ≤ w5.heap.size) := by have := HB5.out.size; have := HCK.out.lt; show _ ≤ _; omega
            have HCK5 := hidD (HCK.out.next HB5.out)
            have HCB5 := hidD (HCBK.out.next HB5.out)
            have HBU5 := hidD (HBUK.out.next HB5.out HGW.out)
            generalize hb7 : wp.heap.size = b7 at *
            have HB7 := hidD hb7
            clear hb7
            go_loopw [35] (fun i wr => ∃ q : Nat, q ≤ m ∧ i = .int .i64 q ∧ (∀ t, t < q → nul.testBit (RR.getD t 0).toNat = true) ∧ CsAt wr (g + 1) (ssC (bqTo nul LF RR Y q)) 88 ∧ CsAt wr bk (ssC X) 88 ∧ But (g + 1) w1 wr ∧ But (g + 1) w5 wr) (fun i _ => m - (intOf i).toNat)
            case atStart => exact ⟨0, Nat.zero_le _, rfl, fun t ht => absurd ht (by omega), by rw [HBZ.out]; exact HCK5.out, HCB5.out, HBU5.out, But.refl _ _⟩
            case round =>
              obtain ⟨q, hq, rfl, hall, hcs, hcb, hb1, hb5⟩ := hrel
              have HAQ := hidD hall
              have HQC := hidD hcs
              have HQB := hidD hcb
              have HQ1 := hidD hb1
              have HQ5 := hidD hb5
              clear hall
              by_cases hqt : q < m
              · have hqti : (q : Int) < m := by omega
                obtain ⟨s, hs, hsn⟩ := HRS.out q hqt
                obtain ⟨gs, os, rfl, hgs, hcs2⟩ := HRCL.out q hqt
                rw [hs] at hcs2
                rw [HGG.out] at hgs
                have f4 : wr.cell? ⟨gs, os + q, none⟩ = some (.int .i64 (s : Int)) := (hb1.cell (by have := HGW.out; omega) (by omega)).trans ((HB0.out.cell (p := ⟨gs, os + q, none⟩) hgs).trans hcs2)
                have HQN := hidD (HBN1.out q)
                rw [if_pos (HALT.out q (by omega) HAQ.out), hs, Int.toNat_natCast] at HQN
                have HTB : Hid (nul.testBit (RR.getD q 0).toNat = nul.testBit s) := by show _ = _; rw [hs, Int.toNat_natCast]
                have HSTP := hidD (HBST.out q hqt)
                have hs128 : (s : Int) < 128 := by omega
                have hl128i : (LF : Int) < 128 := by omega
                have HZT := hidD (HBQ.out q)
                have hc7 : CsAt wr b7 #[.int .i64 (LF : Int), .slice (some ⟨gs, os, none⟩) m c2] 63 := (hb5.rest b7 HC5.out.lt HNE5.out.1).trans HC5.out
                have k0 : ∀ i : KB wr [g + 1, b7], i.v.cell? ⟨b7, 0, none⟩ = some (.int .i64 (LF : Int)) := fun i => (i.cell (b := b7) (by simp) _).trans (hc7.cell 0)
                have hz2 := ss_in (S := bqTo nul LF RR Y q) (x := s) (by omega) (HZT.out s)
                have k1 : ∀ i : KB wr [g + 1, b7], i.v.cell? ⟨g + 1, s * 2, none⟩ = some (.int .u64 (lw (bqTo nul LF RR Y q s) : Int)) := fun i => (i.cell (b := g + 1) (by simp) _).trans ((hcs.cell _).trans hz2.c0)
                have k2 : ∀ i : KB wr [g + 1, b7], i.v.cell? ⟨g + 1, s * 2 + 1, none⟩ = some (.int .u64 (hw (bqTo nul LF RR Y q s) : Int)) := fun i => (i.cell (b := g + 1) (by simp) _).trans ((hcs.cell _).trans hz2.c1)
                have HJ := hidD (setJoin_any (bqTo nul LF RR Y q LF) (bqTo nul LF RR Y q s) (g + 1) (LF * 2) (HZT.out s) wr.drew (show CsAt wr.drew (g + 1) _ 88 from hcs) (ss_in (by omega) (HZT.out LF)))
                rw [ss_set (by omega) (or_top (HZT.out LF) (HZT.out s)), ← HQN.out] at HJ
                unfold setV at HJ
                have HHAS := hidD (fun w' => setHas_any nul HNT.out s (by omega) w')
                unfold setV at HHAS
                clear hcs hcb hb1 hb5 hcs2 hs hc7 hz2
                generalize hZ : bqTo nul LF RR Y q = Z at *
                clear hZ
                generalize lw (Z s) = z0 at *
                generalize hw (Z s) = z1 at *
                generalize hn0 : lw nul = n0 at *
                generalize hn1 : hw nul = n1 at *
                clear hn0 hn1
                go_wp2_with fail
                refine wp_region_seg [0, 0, 0, 0, 0, 0, 99] 0 6 [g + 1, b7] (by kernel_rfl) (by kernel_rfl) (by kernel_rfl) (by kernel_rfl) (by kernel_rfl) (by kernel_rfl) (by kernel_rfl) (by kernel_rfl) (fun _ _ _ _ _ h => h) ?_
                simp only [SegW, pk, Nat.reduceMul, Nat.reduceBEq, cond_true, cond_false]
                repeat (go_big_quiet_step (fail))
                refine wpQuiet_nil ?_
                have HBD : Hid (Below wr.heap.size wr wr.drew) := (Below.refl _ _).drew
                cases hb : nul.testBit s with
                | true =>
                  rw [hb] at HHAS HTB
                  clear hb
                  go_wp2_with (first
                    | (go_at_call 68; refine HJ.out.mono ?_; rintro e w6 ⟨rfl, hc6, hb6⟩; have HC6 := hidD hc6; have HX1 := hidD ((HQ1.out.next HBD.out HGW.out).trans hb6); have HX5 := hidD ((HQ5.out.next HBD.out HG5.out).trans hb6); have HXB : Hid (CsAt w6 bk (ssC X) 88) := (hb6.rest bk HQB.out.lt (fun e => HBI.out e.symm)).trans HQB.out; have f7 : w6.cell? ⟨p, 5, none⟩ = some (.int .u64 (n0 : Int)) := (HX1.out.cell (by have := HGW.out; omega) (by omega)).trans ((HB0.out.cell (p := ⟨p, 5, none⟩) HGP.out).trans HC0.out); have f8 : w6.cell? ⟨p, 6, none⟩ = some (.int .u64 (n1 : Int)) := (HX1.out.cell (by have := HGW.out; omega) (by omega)).trans ((HB0.out.cell (p := ⟨p, 6, none⟩) HGP.out).trans HC1.out); clear hc6 hb6)
                    | (go_at_call 64; refine (HHAS.out _).mono ?_; rintro e w8 ⟨rfl, hb8⟩; have HC8 := hidD (HC6.out.next hb8); have HY1 := hidD (HX1.out.next hb8 HGW.out); have HY5 := hidD (HX5.out.next hb8 HG5.out); have HYB := hidD (HXB.out.next hb8); clear hb8))
                  go_roundw
                  case rel => exact ⟨q + 1, by omega, by go_num, fun t ht => by
                    by_cases h : t = q
                    · rw [h]; exact HTB.out
                    · exact HAQ.out t (by omega), HC8.out, HYB.out, HY1.out, HY5.out⟩
                  case measure => simp [intOf]; omega
                | false =>
                  rw [hb] at HHAS HTB
                  have HEND := hidD (HSTP.out HTB.out)
                  clear hb
                  go_wp2_with (first
                    | (go_at_call 68; refine HJ.out.mono ?_; rintro e w6 ⟨rfl, hc6, hb6⟩; have HC6 := hidD hc6; have HX1 := hidD ((HQ1.out.next HBD.out HGW.out).trans hb6); have HXB : Hid (CsAt w6 bk (ssC X) 88) := (hb6.rest bk HQB.out.lt (fun e => HBI.out e.symm)).trans HQB.out; have f7 : w6.cell? ⟨p, 5, none⟩ = some (.int .u64 (n0 : Int)) := (HX1.out.cell (by have := HGW.out; omega) (by omega)).trans ((HB0.out.cell (p := ⟨p, 5, none⟩) HGP.out).trans HC0.out); have f8 : w6.cell? ⟨p, 6, none⟩ = some (.int .u64 (n1 : Int)) := (HX1.out.cell (by have := HGW.out; omega) (by omega)).trans ((HB0.out.cell (p := ⟨p, 6, none⟩) HGP.out).trans HC1.out); clear hc6 hb6)
                    | (go_at_call 64; refine (HHAS.out _).mono ?_; rintro e w8 ⟨rfl, hb8⟩; have HC8 := hidD (HC6.out.next hb8); have HY1 := hidD (HX1.out.next hb8 HGW.out); have HYB := hidD (HXB.out.next hb8); clear hb8))
                  go_roundw
                  case rel => exact ⟨k + 1, by omega, by go_num, by rw [HNK.out, HEND.out]; exact HC8.out, HYB.out, HY1.out⟩
                  case measure => simp [intOf]; omega
              · obtain rfl : m = q := by omega
                clear hcs hcb hb1 hb5
                go_wp2_with fail
                go_roundw
                case rel => exact ⟨k + 1, by omega, by go_num, by rw [HNK.out]; exact HQC.out, HQB.out, HQ1.out⟩
                case measure => simp [intOf]; omega
          · obtain rfl : rn = k := by omega
            obtain ⟨r, hrun, hriff⟩ := eqSets (ss_ws (fun x _ => HYT.out x)) (ss_ws (S := X) (fun x _ => HXT.out x)) wr
            rw [ws_eq] at hriff
            have HLY : Hid (wr.heap[g + 1]? = some (.cells (ssC (bpTo R nul X rn)) 88 (0, 0))) := hcs
            have HLB : Hid (wr.heap[bk]? = some (.cells (ssC X) 88 (0, 0))) := hcb
            have HLR : Hid (wr.heap[g]? = some (.cells ZZ 88 (0, 0))) := (hbut.rest g HR0.out.lt (by omega)).trans HR0.out
            have HIF := hidD hriff
            have HGEX : Hid (∀ x, X x ≤ bpTo R nul X rn x) := fun x => bp_ge R nul X x rn
            have HIE : Hid (bpIt R nul (biS T) (j + 1) = bpTo R nul X rn) := HXN.out
            have HMY : Hid (msS (rdX wr (g + 1)) 128 = msS (bpTo R nul X rn) 128) := ms_congr 128 fun x hx => rdX_of hcs hx
            have HMX : Hid (msS (rdX wo (g + 1)) 128 = msS X 128) := ms_congr 128 fun x hx => rdX_of HCS.out hx
            have HZS : Hid (ZZ.size = 256) := by show _ = _; rw [← HZZ.out]; exact ss_size _
            have HFIX : Hid ((∀ x, x < 128 → bpTo R nul X rn x = X x) → BgIs R nul T X) := fun h => ⟨j, HX.out.symm, by rw [HRN.out]; exact h⟩
            have HEXT : Hid ((∀ x, x < 128 → bpTo R nul X rn x = X x) → ssC (bpTo R nul X rn) = ssC X) := fun h => ss_ext h
            clear hcs hcb hbut hriff
            generalize hYY : bpTo R nul X rn = Y at *
            have HYY := hidD hYY
            clear hYY
            generalize hCY : ssC Y = CY at *
            generalize hCX : ssC X = CX at *
            have hiY : (Tryd.prog.info? 88).map (·.size) = some CY.size := by rw [← hCY]; exact HI66.out Y
            have hiX : (Tryd.prog.info? 88).map (·.size) = some CX.size := by rw [← hCX]; exact HI66.out X
            have HONY : Hid (CY.all (·.oneCell') = true) := by show _ = _; rw [← hCY]; exact HONE.out Y
            have HSY : Hid (CY.size = 256) := by show _ = _; rw [← hCY]; exact HSZ.out Y
            have HCY := hidD hCY
            have HCX := hidD hCX
            clear hCY hCX
            cases r with
            | true =>
              have hall := HIF.out.1 rfl
              have HFX := hidD (HFIX.out hall)
              have HEE := hidD (HEXT.out hall)
              clear hall
              go_wp2_with (first | (refine wpList_load_row rfl 88 _ rfl (g + 1) rfl 88 CY (0, 0) _ HLY.out Tryd.under66 rfl hiY ?_) | (refine wpList_load_row rfl 88 _ rfl bk rfl 88 CX (0, 0) _ HLB.out Tryd.under66 rfl hiX ?_) | (refine wpList_store_row rfl 88 _ _ rfl g CY rfl rfl 88 ZZ HLR.out hiY (by rw [HSY.out, HZS.out]) HONY.out ?_))
              rw [Exit.noGoto_ret]
              simp only [Act.put]
              refine bodyPost_ret (results_cell_row (P := Tryd.prog) (p := 2) (ty := 88) (by kernel_rfl) _ _ g 88 CY (0, 0) _ rfl (setRow_heap _ _ ZZ CY 88 (0, 0) HLR.out) Tryd.under66 rfl hiY) rfl ?_
              exact ⟨X, by rw [HCX.out, HEE.out], HXT.out, HFX.out, by rw [HGG.out]; exact below_setRow (HB0.out.trans (HBUK.out.bel.mono (Nat.le_succ _))) (Nat.le_refl _) _⟩
            | false =>
              have HLT : Hid (msS Y 128 < msS X 128) := by
                refine ms_lt 128 (fun x _ => HGEX.out x) (fun x _ => HYT.out x) ?_
                refine Classical.byContradiction fun hno => ?_
                have := HIF.out.2 fun x hx => Classical.byContradiction fun hne => hno ⟨x, hx, fun e => hne e.symm⟩
                cases this
              go_wp2_with (first | (refine wpList_load_row rfl 88 _ rfl (g + 1) rfl 88 CY (0, 0) _ HLY.out Tryd.under66 rfl hiY ?_) | (refine wpList_load_row rfl 88 _ rfl bk rfl 88 CX (0, 0) _ HLB.out Tryd.under66 rfl hiX ?_))
              rw [Exit.noGoto_normal]
              go_roundw
              case rel =>
                (repeat apply Exists.intro)
                refine And.intro ?_ ?_
                rotate_left
                · rfl
                · exact ⟨j + 1, by rw [HIE.out, HCY.out]; exact HCK.out, HBUK.out⟩
              case measure =>
                have h1 := HLT.out
                have h3 := HMY.out
                have h4 := HMX.out
                simp only [h3, h4]
                exact h1
end Go.Proofs.YtgmbkelmgolkpaaDoor
/- Plain: what stands behind a symbol. -/
namespace Go.Proofs.YtgmbkelmgolkpaaDoor
open Go.RowKit
set_option linter.unusedVariables false

/-- Along a rule's right side, from its end on: the sets, and what stands next. -/
def fqL (T nul : Nat) (bg S : Nat → Nat) (nx : Nat) : List Int → (Nat → Nat) × Nat
  | [] => (S, nx)
  | s :: r => (if T ≤ s.toNat then upd (fqL T nul bg S nx r).1 s.toNat ((fqL T nul bg S nx r).1 s.toNat ||| (fqL T nul bg S nx r).2) else (fqL T nul bg S nx r).1, (if nul.testBit s.toNat then (fqL T nul bg S nx r).2 else 0) ||| bg s.toNat)
/-- One pass over the first k rules. -/
def fpTo (R : List (Nat × List Int)) (RE T nul : Nat) (bg S : Nat → Nat) : Nat → Nat → Nat
  | 0 => S
  | k + 1 => if RE.testBit (R.getD k (0, [])).1 then (fqL T nul bg (fpTo R RE T nul bg S k) (fpTo R RE T nul bg S k (R.getD k (0, [])).1) (R.getD k (0, [])).2).1 else fpTo R RE T nul bg S k
def fpIt (R : List (Nat × List Int)) (RE T nul : Nat) (bg S : Nat → Nat) : Nat → Nat → Nat
  | 0 => S
  | j + 1 => fpTo R RE T nul bg (fpIt R RE T nul bg S j) R.length
def foI (st T : Nat) : Nat → Nat := upd (fun _ => 0) st (2 ^ (T - 1))
/-- What follows: passes until none adds. -/
def FoIs (R : List (Nat × List Int)) (n T st nul : Nat) (bg X : Nat → Nat) : Prop := ∃ RE j, ReIs R (utS n) (2 ^ st) RE ∧ X = fpIt R RE T nul bg (foI st T) j ∧ ∀ x, x < 128 → fpTo R RE T nul bg X R.length x = X x
theorem fq_top {T nul : Nat} {bg S : Nat → Nat} {nx : Nat} (hb : ∀ x, bg x < Top) (hS : ∀ x, S x < Top) (hn : nx < Top) : ∀ r, (∀ x, (fqL T nul bg S nx r).1 x < Top) ∧ (fqL T nul bg S nx r).2 < Top
  | [] => ⟨hS, hn⟩
  | s :: r => by
    have ih := fq_top (T := T) (nul := nul) hb hS hn r
    rw [fqL]
    refine ⟨fun x => ?_, ?_⟩
    · simp only
      split
      · by_cases h : x = s.toNat
        · subst h; rw [upd_same]; exact or_top (ih.1 _) ih.2
        · rw [upd_other h]; exact ih.1 x
      · exact ih.1 x
    · refine or_top ?_ (hb _)
      split
      · exact ih.2
      · show 0 < Top; decide
theorem fq_ge (T nul : Nat) (bg S : Nat → Nat) (nx x : Nat) : ∀ r, S x ≤ (fqL T nul bg S nx r).1 x
  | [] => Nat.le_refl _
  | s :: r => by
    have ih := fq_ge T nul bg S nx x r
    rw [fqL]
    simp only
    split
    · by_cases h : x = s.toNat
      · subst h; rw [upd_same]; exact Nat.le_trans ih Nat.left_le_or
      · rw [upd_other h]; exact ih
    · exact ih
theorem fp_top {R : List (Nat × List Int)} {RE T nul : Nat} {bg S : Nat → Nat} (hb : ∀ x, bg x < Top) (hS : ∀ x, S x < Top) : ∀ k x, fpTo R RE T nul bg S k x < Top
  | 0, x => hS x
  | k + 1, x => by
    have ih := fp_top (R := R) (RE := RE) (T := T) (nul := nul) hb hS k
    rw [fpTo]; split
    · exact (fq_top hb ih (ih _) _).1 x
    · exact ih x
theorem fp_ge (R : List (Nat × List Int)) (RE T nul : Nat) (bg S : Nat → Nat) (x : Nat) : ∀ k, S x ≤ fpTo R RE T nul bg S k x
  | 0 => Nat.le_refl _
  | k + 1 => by
    have ih := fp_ge R RE T nul bg S x k
    rw [fpTo]; split
    · exact Nat.le_trans ih (fq_ge ..)
    · exact ih
theorem fi_top {st T : Nat} (hT : T ≤ 128) (x : Nat) : foI st T x < Top := by
  unfold foI upd; split
  · exact two_top (by omega)
  · show 0 < Top; decide
theorem drop_one {l : List Int} {d : Nat} (h : d < l.length) : l.drop d = l.getD d 0 :: l.drop (d + 1) := by
  rw [List.drop_eq_getElem_cons h, List.getD_eq_getElem?_getD, List.getElem?_eq_getElem h]; rfl
theorem But.far {g x : Nat} {a b c : World} (h : But g a b) (hg : g ≤ a.heap.size) (hx : a.heap.size ≤ x) (k : But x b c) : But g a c :=
  ⟨h.bel.trans (k.bel.mono (Nat.le_trans hg hx)), fun i hi hn => (k.rest i (Nat.lt_of_lt_of_le hi h.bel.size) (by omega)).trans (h.rest i hi hn)⟩
end Go.Proofs.YtgmbkelmgolkpaaDoor
/- What followers answers. -/
namespace Go.Proofs.YtgmbkelmgolkpaaDoor
open Go.RowKit
set_option linter.unusedVariables false

set_option maxRecDepth 100000 in
set_option maxHeartbeats 6400000 in
theorem followers_any {p : Nat} (R : List (Nat × List Int)) (n : Nat) (hR : RuOk R n) (hn : n ≤ 128) (hRl : R.length ≤ 1048576) (T : Nat) (hT : T ≤ 128) (hT1 : 1 ≤ T) (st : Nat) (hst : st < 128) (nul : Nat) (bg : Nat → Nat) (vr : Value) (an : Option Addr) (cn : Nat) (w : World) (hp : p < w.heap.size) (hpn : w.cell? ⟨p, 0, none⟩ = some (.slice an n cn)) (hpt : w.cell? ⟨p, 2, none⟩ = some (.int .i64 (T : Int))) (hps : w.cell? ⟨p, 3, none⟩ = some (.int .i64 (st : Int))) (hpc : w.cell? ⟨p, 4, none⟩ = some vr) (hr : RuAt w vr R) (hnu : SetAt w p 5 nul) (hbt : ∀ x, bg x < Top) (hbg : ∀ x, x < 128 → SetAt w p (7 + x * 2) (bg x)) : Calls Tryd.prog 62 #[.pointer (some ⟨p, 0, none⟩)] w fun e w' => ∃ X, e = .returned (.agg (ssC X)) ∧ (∀ x, X x < Top) ∧ FoIs R n T st nul bg X ∧ Below w.heap.size w w' := by
  have HRU := hidD hr
  have HRO := hidD hR
  obtain ⟨hz, hsz⟩ := zero_of_info Tryd.zero88
  obtain ⟨hz61, hsz61⟩ := zero_of_info Tryd.zero86
  have hi66 : ∀ S, (Tryd.prog.info? 88).map (·.size) = some (ssC S).size := fun S => by rw [hsz, ss_size]
  have HI66 := hidD hi66
  obtain ⟨hz76, hsz76⟩ := zero_of_info Tryd.zero63
  have HC0 := hidD hnu.c0
  have HC1 := hidD hnu.c1
  have HNT := hidD hnu.top
  have HBG := hidD hbg
  have HBT := hidD hbt
  have HGP := hidD hp
  have HPC := hidD hpc
  have HPT := hidD hpt
  have HPS := hidD hps
  have HUP := hidD (fun w' => upTo_any n hn w')
  have HBA : Hid (∀ o, Below w.heap.size w (w.alloc o)) := fun o => (Below.refl _ _).alloc (Nat.le_refl _) o
  have HRE : Hid (∀ w', Below w.heap.size w w' → Calls Tryd.prog 77 #[.pointer (some ⟨p, 0, none⟩), setV (utS n)] w' fun e w'' => ∃ X, e = .returned (setV X) ∧ X < Top ∧ ReIs R (utS n) (2 ^ st) X ∧ Below w'.heap.size w' w'') := fun w' hb => reached_any R n hR hn hRl st hst (utS n) (ut_top n hn) vr w' (Nat.lt_of_lt_of_le hp hb.size) ((hb.cell (p := ⟨p, 3, none⟩) hp).trans hps) ((hb.cell (p := ⟨p, 4, none⟩) hp).trans hpc) (hr.next hb)
  obtain ⟨ar, cr, rfl, hrc⟩ := hr
  have HRC := hidD hrc
  unfold setV at HUP HRE
  clear hrc hR hi66 hnu hpc hbg hbt hpt hps
  have HR0 : Hid (CsAt (w.alloc (.cells (ssC fun _ => 0) (88 : TypeId))) w.heap.size (ssC fun _ => 0) 88) := heap_alloc_new _ _
  have hpn0 : (w.alloc (.cells (ssC fun _ => 0) (88 : TypeId))).cell? ⟨p, 0, none⟩ = some (.slice an n cn) := ((HBA.out _).cell (p := ⟨p, 0, none⟩) hp).trans hpn
  clear hpn
  generalize hRn : R.length = rn at *
  have HRN := hidD hRn
  clear hRn
  have HONE := hidD ss_one
  have HSZ := hidD ss_size
  have HSI : Hid (∀ M, M < Top → SetIn (setC zc 0 M) 0 M) := fun M hM => setC_same (by decide) hM
  generalize hZZ : (ssC fun _ => 0) = ZZ at *
  have HZZ := hidD hZZ
  clear hZZ
  generalize hu0 : lw (utS n) = u0 at *
  generalize hu1 : hw (utS n) = u1 at *
  clear hu0 hu1
  have HBS := hidD (HBA.out (.cells ZZ (88 : TypeId)))
  go_enter Tryd.func62, Tryd.ntmps62
  go_wp2_with fail
  go_step3
  go_wp2_with (first
    | (go_at_call 76; refine (HUP.out _).mono ?_; rintro e w2 ⟨rfl, hb2⟩; have HB2 := hidD (Below.next HBS.out hb2); have HR2 := hidD (HR0.out.next hb2); clear hb2)
    | (go_at_call 77; refine (HRE.out _ HB2.out).mono ?_; rintro e w3 ⟨RE, rfl, hre, hrei, hb3⟩; have HRI := hidD hrei; have HRT := hidD hre; have HB3 := hidD (Below.next HB2.out hb3); have HR3 := hidD (HR2.out.next hb3); clear hb3 hre hrei))
  have HBQ : Hid (Below w3.heap.size w3 (((w3.alloc (.cells #[.int .u64 0, .int .u64 0] (86 : TypeId))).setCell ⟨w3.heap.size, 0, none⟩ (.int .u64 (lw RE : Int))).setCell ⟨w3.heap.size, 1, none⟩ (.int .u64 (hw RE : Int)))) := (((Below.refl _ _).alloc (Nat.le_refl _) _).setCell (p := ⟨w3.heap.size, 0, none⟩) (Nat.le_refl _) _).setCell (p := ⟨w3.heap.size, 1, none⟩) (Nat.le_refl _) _
  have HBN : Hid (Below w3.heap.size w3 ((((w3.alloc (.cells #[.int .u64 0, .int .u64 0] (86 : TypeId))).setCell ⟨w3.heap.size, 0, none⟩ (.int .u64 (lw RE : Int))).setCell ⟨w3.heap.size, 1, none⟩ (.int .u64 (hw RE : Int))).alloc (.cells ZZ (88 : TypeId)))) := HBQ.out.alloc HBQ.out.size _
  have HS4 : Hid (CsAt ((((w3.alloc (.cells #[.int .u64 0, .int .u64 0] (86 : TypeId))).setCell ⟨w3.heap.size, 0, none⟩ (.int .u64 (lw RE : Int))).setCell ⟨w3.heap.size, 1, none⟩ (.int .u64 (hw RE : Int))).alloc (.cells ZZ (88 : TypeId))) w3.heap.size (setC zc 0 RE) 86) := by
    have h0 : CsAt (w3.alloc (.cells #[.int .u64 0, .int .u64 0] (86 : TypeId))) w3.heap.size zc 86 := heap_alloc_new _ _
    have h1 : CsAt (((w3.alloc (.cells #[.int .u64 0, .int .u64 0] (86 : TypeId))).setCell ⟨w3.heap.size, 0, none⟩ (.int .u64 (lw RE : Int))).setCell ⟨w3.heap.size, 1, none⟩ (.int .u64 (hw RE : Int))) w3.heap.size (setC zc 0 RE) 86 := (h0.put 0 _).put 1 _
    exact h1.next ((Below.refl _ _).alloc (Nat.le_refl _) _)
  have HSZ4 : Hid ((((w3.alloc (.cells #[.int .u64 0, .int .u64 0] (86 : TypeId))).setCell ⟨w3.heap.size, 0, none⟩ (.int .u64 (lw RE : Int))).setCell ⟨w3.heap.size, 1, none⟩ (.int .u64 (hw RE : Int))).heap.size = w3.heap.size + 1) := by show _ = _; simp
  have HG4 : Hid (CsAt ((((w3.alloc (.cells #[.int .u64 0, .int .u64 0] (86 : TypeId))).setCell ⟨w3.heap.size, 0, none⟩ (.int .u64 (lw RE : Int))).setCell ⟨w3.heap.size, 1, none⟩ (.int .u64 (hw RE : Int))).alloc (.cells ZZ (88 : TypeId))) (w3.heap.size + 1) ZZ 88) := by
    have h0 := heap_alloc_new (((w3.alloc (.cells #[.int .u64 0, .int .u64 0] (86 : TypeId))).setCell ⟨w3.heap.size, 0, none⟩ (.int .u64 (lw RE : Int))).setCell ⟨w3.heap.size, 1, none⟩ (.int .u64 (hw RE : Int))) (.cells ZZ (88 : TypeId))
    rw [HSZ4.out] at h0
    exact h0
  generalize hw4 : ((((w3.alloc (.cells #[.int .u64 0, .int .u64 0] (86 : TypeId))).setCell ⟨w3.heap.size, 0, none⟩ (.int .u64 (lw RE : Int))).setCell ⟨w3.heap.size, 1, none⟩ (.int .u64 (hw RE : Int))).alloc (.cells ZZ (88 : TypeId))) = w4 at *
  clear hw4
  have HB4 := hidD (Below.next HB3.out HBN.out)
  have HR4 := hidD (HR3.out.next HBN.out)
  have HLE3 : Hid (w.heap.size < w3.heap.size) := HR3.out.lt
  clear HBQ HBN HSZ4 HB3 HR3
  generalize hb3 : w3.heap.size = b3 at *
  clear hb3
  generalize hgg : w.heap.size = g at *
  have HGG := hidD hgg
  clear hgg
  obtain ⟨t1, ht1⟩ : ∃ t1 : Nat, T = t1 + 1 := ⟨T - 1, by omega⟩
  have hwt : IntKind.i64.wrap ((T : Int) - 1) = (t1 : Int) := by rw [IntKind.wrap_i64]; omega
  have k2 : ∀ i : KB w4 [p], i.v.cell? ⟨p, 2, none⟩ = some (.int .i64 (T : Int)) := fun i => (i.cell (b := p) (by simp) _).trans ((HB4.out.cell (p := ⟨p, 2, none⟩) HGP.out).trans HPT.out)
  have k3 : ∀ i : KB w4 [p], i.v.cell? ⟨p, 3, none⟩ = some (.int .i64 (st : Int)) := fun i => (i.cell (b := p) (by simp) _).trans ((HB4.out.cell (p := ⟨p, 3, none⟩) HGP.out).trans HPS.out)
  have hsti : (st : Int) < 128 := by omega
  have HAD := hidD (setAdd_cs 0 (b3 + 1) (st * 2) t1 (by omega) w4.drew (show CsAt w4.drew (b3 + 1) (ssC fun _ => 0) 88 by rw [HZZ.out]; exact HG4.out) (ss_in (S := fun _ => 0) hst (by decide)))
  rw [Nat.zero_or, ss_set hst (two_top (by omega)), show upd (fun _ => 0) st (2 ^ t1) = foI st T by unfold foI; rw [ht1]; rfl] at HAD
  have HT1 := hidD ht1
  clear ht1 hst
  refine wp_region_seg [0, 0, 0, 0, 0, 0, 0, 0, 0, 0, 99] 0 10 [p] (by kernel_rfl) (by kernel_rfl) (by kernel_rfl) (by kernel_rfl) (by kernel_rfl) (by kernel_rfl) (by kernel_rfl) (by kernel_rfl) (fun _ _ _ _ _ h => h) ?_
  simp only [SegW, pk, Nat.reduceMul, Nat.reduceBEq, cond_true, cond_false]
  repeat (go_big_quiet_step (fail))
  refine wpQuiet_nil ?_
  go_wp2_with (go_at_call 92; refine HAD.out.mono ?_; rintro e w5 ⟨rfl, hc5, hb5⟩; have HC5 := hidD hc5; have HB5 : Hid (But (b3 + 1) w4 w5) := (But.of (Below.drew (Below.refl _ _)) (Nat.le_of_lt HG4.out.lt)).trans hb5; clear hc5 hb5)
  have HGW : Hid (b3 + 1 ≤ w4.heap.size) := Nat.le_of_lt HG4.out.lt
  have HIT : Hid (∀ j x, fpIt R RE T nul bg (foI st T) j x < Top) := fun j => by
    induction j with
    | zero => exact fun x => fi_top hT x
    | succ j ih => exact fun x => fp_top HBT.out ih _ x
  have HINX : Hid (∀ j, fpIt R RE T nul bg (foI st T) (j + 1) = fpTo R RE T nul bg (fpIt R RE T nul bg (foI st T) j) rn) := fun j => by
    show fpTo R RE T nul bg (fpIt R RE T nul bg (foI st T) j) R.length = _
    rw [HRN.out]
  clear k2 k3 hwt
  go_step3
  go_wp2_with fail
  go_loopw [5] (fun _ wr => ∃ j : Nat, CsAt wr (b3 + 1) (ssC (fpIt R RE T nul bg (foI st T) j)) 88 ∧ But (b3 + 1) w4 wr) (fun _ wr => msS (rdX wr (b3 + 1)) 128)
  case atStart => exact ⟨0, HC5.out, HB5.out⟩
  case round =>
    obtain ⟨j, hcs, hbut⟩ := hrel
    obtain ⟨wo, hwo⟩ : ∃ wo, wo = wr := ⟨_, rfl⟩
    subst hwo
    have HCS := hidD hcs
    have HBO := hidD hbut
    have HXT := hidD (HIT.out j)
    have HXN := hidD (HINX.out j)
    generalize hX : fpIt R RE T nul bg (foI st T) j = X at *
    have HX := hidD hX
    clear hX
    have HLO : Hid (wo.heap[b3 + 1]? = some (.cells (ssC X) 88 (0, 0))) := hcs
    have HLA : Hid ((wo.alloc (.cells ZZ (88 : TypeId))).heap[wo.heap.size]? = some (.cells ZZ (88 : TypeId) (0, 0))) := heap_alloc_new _ _
    have HZS : Hid (ZZ.size = 256) := by show _ = _; rw [← HZZ.out]; exact ss_size _
    clear hcs hbut
    have HBN : Hid (Below wo.heap.size wo ((wo.alloc (.cells ZZ (88 : TypeId))).setRow wo.heap.size (ssC X))) := below_setRow ((Below.refl _ _).alloc (Nat.le_refl _) _) (Nat.le_refl _) _
    have HCB : Hid (CsAt ((wo.alloc (.cells ZZ (88 : TypeId))).setRow wo.heap.size (ssC X)) wo.heap.size (ssC X) 88) := setRow_heap _ _ ZZ (ssC X) 88 (0, 0) HLA.out
    have HBI : Hid (b3 + 1 ≠ wo.heap.size) := by have := HCS.out.lt; show b3 + 1 ≠ _; omega
    have HC4 : Hid (CsAt ((wo.alloc (.cells ZZ (88 : TypeId))).setRow wo.heap.size (ssC X)) (b3 + 1) (ssC (fpTo R RE T nul bg X 0)) 88) := HCS.out.next HBN.out
    have HB4K : Hid (But (b3 + 1) w4 ((wo.alloc (.cells ZZ (88 : TypeId))).setRow wo.heap.size (ssC X))) := HBO.out.next HBN.out HGW.out
    have f4 : ((wo.alloc (.cells ZZ (88 : TypeId))).setRow wo.heap.size (ssC X)).cell? ⟨p, 4, none⟩ = some (.slice ar rn cr) := (HB4K.out.cell (by have := HGW.out; have := HLE3.out; omega) (by have := HLE3.out; omega)).trans ((HB4.out.cell (p := ⟨p, 4, none⟩) HGP.out).trans HPC.out)
    go_wp2_with (first | (refine wpList_load_row rfl 88 _ rfl (b3 + 1) rfl 88 (ssC X) (0, 0) _ HLO.out Tryd.under66 rfl (HI66.out X) ?_) | (refine wpList_store_row rfl 88 _ _ rfl wo.heap.size (ssC X) rfl rfl 88 ZZ HLA.out (HI66.out X) (by rw [HSZ.out, HZS.out]) (HONE.out X) ?_))
    clear f4
    generalize hw6 : ((wo.alloc (.cells ZZ (88 : TypeId))).setRow wo.heap.size (ssC X)) = w6 at *
    clear hw6
    generalize hbk : wo.heap.size = bk at *
    have HBK := hidD hbk
    clear hbk
    go_loopw [36] (fun i wr => ∃ k : Nat, k ≤ rn ∧ i = .int .i64 k ∧ CsAt wr (b3 + 1) (ssC (fpTo R RE T nul bg X k)) 88 ∧ CsAt wr bk (ssC X) 88 ∧ But (b3 + 1) w4 wr) (fun i _ => rn - (intOf i).toNat)
    case atStart => exact ⟨0, Nat.zero_le _, rfl, HC4.out, HCB.out, HB4K.out⟩
    case round =>
      obtain ⟨k, hk, rfl, hcs, hcb, hbut⟩ := hrel
      have HCK := hidD hcs
      have HCBK := hidD hcb
      have HBUK := hidD hbut
      have HYT : Hid (∀ x, fpTo R RE T nul bg X k x < Top) := fun x => fp_top HBT.out HXT.out k x
      by_cases hlt : k < rn
      · have hlti : (k : Int) < rn := by omega
        obtain ⟨gr, orr, rv, har, hgr, hc1, hc2, hil⟩ := HRC.out k hlt
        obtain ⟨hleft, hrl, hrs⟩ := HRO.out k (by rw [HRN.out]; exact hlt)
        have HRS := hidD hrs
        subst har
        have hcellw : ∀ o', wr.cell? ⟨gr, o', none⟩ = w.cell? ⟨gr, o', none⟩ := fun o' => (hbut.cell (by have := HGW.out; have := HLE3.out; omega) (by have := HLE3.out; omega)).trans (HB4.out.cell (p := ⟨gr, o', none⟩) hgr)
        have f0 : wr.cell? ⟨gr, orr + k * 2, none⟩ = some (.int .i64 ((R.getD k (0, [])).1 : Int)) := (hcellw _).trans hc1
        have f1 : wr.cell? ⟨gr, orr + k * 2 + 1, none⟩ = some rv := (hcellw _).trans hc2
        obtain ⟨a2, c2, hrv, hrc1, hrc2, hrcell⟩ := hil
        subst hrv
        have HRCL := hidD hrcell
        have HNK : Hid (fpTo R RE T nul bg X (k + 1) = if RE.testBit (R.getD k (0, [])).1 then (fqL T nul bg (fpTo R RE T nul bg X k) (fpTo R RE T nul bg X k (R.getD k (0, [])).1) (R.getD k (0, [])).2).1 else fpTo R RE T nul bg X k) := rfl
        have hl128 : (R.getD k (0, [])).1 < 128 := by omega
        have HHR := hidD (fun w' => setHas_any RE HRT.out (R.getD k (0, [])).1 hl128 w')
        have HSRE := hidD (HSI.out RE HRT.out)
        unfold setV at HHR
        obtain ⟨wp, hwp⟩ : ∃ wp, wp = wr := ⟨_, rfl⟩
        subst hwp
        generalize hLF : (R.getD k (0, [])).1 = LF at *
        generalize hRR : (R.getD k (0, [])).2 = RR at *
        clear hLF hRR hcs hcb hbut hc1 hc2 hcellw hrs hrcell
        generalize hY : fpTo R RE T nul bg X k = Y at *
        clear hY
        generalize hmm : RR.length = m at *
        have HMM := hidD hmm
        clear hmm
        have HB5R : Hid (Below wp.heap.size wp (((wp.alloc (.cells #[.int .i64 0, .slice none 0 0] (63 : TypeId))).setCell ⟨wp.heap.size, 0, none⟩ (.int .i64 (LF : Int))).setCell ⟨wp.heap.size, 1, none⟩ (.slice a2 m c2))) := (((Below.refl _ _).alloc (Nat.le_refl _) _).setCell (p := ⟨wp.heap.size, 0, none⟩) (Nat.le_refl _) _).setCell (p := ⟨wp.heap.size, 1, none⟩) (Nat.le_refl _) _
        have HC5R : Hid (CsAt (((wp.alloc (.cells #[.int .i64 0, .slice none 0 0] (63 : TypeId))).setCell ⟨wp.heap.size, 0, none⟩ (.int .i64 (LF : Int))).setCell ⟨wp.heap.size, 1, none⟩ (.slice a2 m c2)) wp.heap.size #[.int .i64 (LF : Int), .slice a2 m c2] 63) := by
          have h0 : CsAt (wp.alloc (.cells #[.int .i64 0, .slice none 0 0] (63 : TypeId))) wp.heap.size #[.int .i64 0, .slice none 0 0] 63 := heap_alloc_new _ _
          exact (h0.put 0 _).put 1 _
        have HS5 : Hid (CsAt (((wp.alloc (.cells #[.int .i64 0, .slice none 0 0] (63 : TypeId))).setCell ⟨wp.heap.size, 0, none⟩ (.int .i64 (LF : Int))).setCell ⟨wp.heap.size, 1, none⟩ (.slice a2 m c2)) b3 (setC zc 0 RE) 86) := CsAt.next (show CsAt wp b3 (setC zc 0 RE) 86 from (HBUK.out.rest b3 HS4.out.lt (by omega)).trans HS4.out) HB5R.out
        have r0 : (((wp.alloc (.cells #[.int .i64 0, .slice none 0 0] (63 : TypeId))).setCell ⟨wp.heap.size, 0, none⟩ (.int .i64 (LF : Int))).setCell ⟨wp.heap.size, 1, none⟩ (.slice a2 m c2)).cell? ⟨b3, 0, none⟩ = some (.int .u64 (lw RE : Int)) := (HS5.out.cell 0).trans HSRE.out.c0
        have r1 : (((wp.alloc (.cells #[.int .i64 0, .slice none 0 0] (63 : TypeId))).setCell ⟨wp.heap.size, 0, none⟩ (.int .i64 (LF : Int))).setCell ⟨wp.heap.size, 1, none⟩ (.slice a2 m c2)).cell? ⟨b3, 1, none⟩ = some (.int .u64 (hw RE : Int)) := (HS5.out.cell 1).trans HSRE.out.c1
        have f2 : (((wp.alloc (.cells #[.int .i64 0, .slice none 0 0] (63 : TypeId))).setCell ⟨wp.heap.size, 0, none⟩ (.int .i64 (LF : Int))).setCell ⟨wp.heap.size, 1, none⟩ (.slice a2 m c2)).cell? ⟨wp.heap.size, 0, none⟩ = some (.int .i64 (LF : Int)) := HC5R.out.cell 0
        have HNE5 : Hid (wp.heap.size ≠ b3 + 1 ∧ wp.heap.size ≠ bk) := by have := HCK.out.lt; have := HCBK.out.lt; exact ⟨by omega, by omega⟩
        have HCK5 := hidD (HCK.out.next HB5R.out)
        have HCB5 := hidD (HCBK.out.next HB5R.out)
        have HBU5 := hidD (HBUK.out.next HB5R.out HGW.out)
        have HH5 := hidD (HHR.out (((wp.alloc (.cells #[.int .i64 0, .slice none 0 0] (63 : TypeId))).setCell ⟨wp.heap.size, 0, none⟩ (.int .i64 (LF : Int))).setCell ⟨wp.heap.size, 1, none⟩ (.slice a2 m c2)))
        have HYL := hidD (HYT.out LF)
        generalize hre0 : lw RE = e0 at *
        generalize hre1 : hw RE = e1 at *
        clear hre0 hre1
        cases hb : RE.testBit LF with
        | false =>
          rw [hb] at HH5 HNK
          rw [if_neg (by decide)] at HNK
          clear hb
          go_wp2_with (go_at_call 64; refine HH5.out.mono ?_; rintro e w8 ⟨rfl, hb8⟩; have HC8 := hidD (HCK5.out.next hb8); have HCB8 := hidD (HCB5.out.next hb8); have HBU8 := hidD (HBU5.out.next hb8 HGW.out); clear hb8)
          go_roundw
          case rel => exact ⟨k + 1, by omega, by go_num, by rw [HNK.out]; exact HC8.out, HCB8.out, HBU8.out⟩
          case measure => simp [intOf]; omega
        | true =>
          rw [hb] at HH5 HNK
          rw [if_pos rfl] at HNK
          clear hb
          have hlfi : (LF : Int) < 128 := by omega
          have hY2 := ss_in (S := Y) hl128 (HYT.out LF)
          have HYI := hidD hY2
          clear hY2
          generalize hy0 : lw (Y LF) = y0 at *
          generalize hy1 : hw (Y LF) = y1 at *
          go_wp2_with (go_at_call 64; refine HH5.out.mono ?_; rintro e w8 ⟨rfl, hb8⟩; have HC8 := hidD (HCK5.out.next hb8); have HCB8 := hidD (HCB5.out.next hb8); have HBU8 := hidD (HBU5.out.next hb8 HGW.out); have HR8 := hidD (HC5R.out.next hb8); have q0 : w8.cell? ⟨wp.heap.size, 0, none⟩ = some (.int .i64 (LF : Int)) := HR8.out.cell 0; have q1 : w8.cell? ⟨b3 + 1, LF * 2, none⟩ = some (.int .u64 (y0 : Int)) := (HC8.out.cell _).trans (by rw [← hy0]; exact HYI.out.c0); have q2 : w8.cell? ⟨b3 + 1, LF * 2 + 1, none⟩ = some (.int .u64 (y1 : Int)) := (HC8.out.cell _).trans (by rw [← hy1]; exact HYI.out.c1); have HBT8 : Hid (Below w8.heap.size w8 (((w8.alloc (.cells #[.int .u64 0, .int .u64 0] (86 : TypeId))).setCell ⟨w8.heap.size, 0, none⟩ (.int .u64 (y0 : Int))).setCell ⟨w8.heap.size, 1, none⟩ (.int .u64 (y1 : Int)))) := (((Below.refl _ _).alloc (Nat.le_refl _) _).setCell (p := ⟨w8.heap.size, 0, none⟩) (Nat.le_refl _) _).setCell (p := ⟨w8.heap.size, 1, none⟩) (Nat.le_refl _) _; have q3 : (((w8.alloc (.cells #[.int .u64 0, .int .u64 0] (86 : TypeId))).setCell ⟨w8.heap.size, 0, none⟩ (.int .u64 (y0 : Int))).setCell ⟨w8.heap.size, 1, none⟩ (.int .u64 (y1 : Int))).cell? ⟨wp.heap.size, 1, none⟩ = some (.slice a2 m c2) := (HBT8.out.cell (p := ⟨wp.heap.size, 1, none⟩) HR8.out.lt).trans (HR8.out.cell 1); clear hb8 r0 r1 f2)
          have HNXC : Hid (CsAt (((w8.alloc (.cells #[.int .u64 0, .int .u64 0] (86 : TypeId))).setCell ⟨w8.heap.size, 0, none⟩ (.int .u64 (y0 : Int))).setCell ⟨w8.heap.size, 1, none⟩ (.int .u64 (y1 : Int))) w8.heap.size (setC zc 0 (Y LF)) 86) := by
            have h0 : CsAt (w8.alloc (.cells #[.int .u64 0, .int .u64 0] (86 : TypeId))) w8.heap.size zc 86 := heap_alloc_new _ _
            have h1 : CsAt (((w8.alloc (.cells #[.int .u64 0, .int .u64 0] (86 : TypeId))).setCell ⟨w8.heap.size, 0, none⟩ (.int .u64 (y0 : Int))).setCell ⟨w8.heap.size, 1, none⟩ (.int .u64 (y1 : Int))) w8.heap.size ((zc.setIfInBounds 0 (.int .u64 (y0 : Int))).setIfInBounds 1 (.int .u64 (y1 : Int))) 86 := (h0.put 0 _).put 1 _
            rw [← hy0, ← hy1] at h1 ⊢
            exact h1
          have HBSZ : Hid (w8.heap.size < (((w8.alloc (.cells #[.int .u64 0, .int .u64 0] (86 : TypeId))).setCell ⟨w8.heap.size, 0, none⟩ (.int .u64 (y0 : Int))).setCell ⟨w8.heap.size, 1, none⟩ (.int .u64 (y1 : Int))).heap.size) := HNXC.out.lt
          clear q0 q1 q2 q3
          have HG8 : Hid (b3 + 1 ≤ w8.heap.size) := Nat.le_of_lt HC8.out.lt
          have HCW := hidD (HC8.out.next HBT8.out)
          have HBW : Hid (But (b3 + 1) w8 (((w8.alloc (.cells #[.int .u64 0, .int .u64 0] (86 : TypeId))).setCell ⟨w8.heap.size, 0, none⟩ (.int .u64 (y0 : Int))).setCell ⟨w8.heap.size, 1, none⟩ (.int .u64 (y1 : Int)))) := But.of HBT8.out HG8.out
          have HRB7 : Hid (wp.heap.size < w8.heap.size) := HR8.out.lt
          generalize hw9 : (((w8.alloc (.cells #[.int .u64 0, .int .u64 0] (86 : TypeId))).setCell ⟨w8.heap.size, 0, none⟩ (.int .u64 (y0 : Int))).setCell ⟨w8.heap.size, 1, none⟩ (.int .u64 (y1 : Int))) = w9 at *
          clear hw9 hy0 hy1
          generalize hb8 : w8.heap.size = b8 at *
          have HB8E := hidD hb8
          clear hb8
          generalize hb7 : wp.heap.size = b7 at *
          clear hb7
          have HFT : Hid (∀ r, (∀ x, (fqL T nul bg Y (Y LF) r).1 x < Top) ∧ (fqL T nul bg Y (Y LF) r).2 < Top) := fun r => fq_top HBT.out HYT.out (HYT.out LF) r
          have HDR : Hid (∀ d, d < RR.length → RR.drop d = RR.getD d 0 :: RR.drop (d + 1)) := fun d hd => drop_one hd
          have HD0 : Hid (RR.drop 0 = RR) := rfl
          have HDM : Hid (RR.drop m = []) := by show _ = _; rw [← HMM.out]; exact List.drop_length
          have HFC : Hid (∀ (x : Int) (r : List Int), fqL T nul bg Y (Y LF) (x :: r) = (if T ≤ x.toNat then upd (fqL T nul bg Y (Y LF) r).1 x.toNat ((fqL T nul bg Y (Y LF) r).1 x.toNat ||| (fqL T nul bg Y (Y LF) r).2) else (fqL T nul bg Y (Y LF) r).1, (if nul.testBit x.toNat then (fqL T nul bg Y (Y LF) r).2 else 0) ||| bg x.toNat)) := fun _ _ => rfl
          have HFN : Hid (fqL T nul bg Y (Y LF) [] = (Y, Y LF)) := rfl
          have HST : Hid (∀ A B, B < Top → setC (setC zc 0 A) 0 B = setC zc 0 B) := fun A B hB => setC_twice _ 0 A B (by decide) hB
          have HBNE : Hid (b8 ≠ b3 + 1) := by have := HC8.out.lt; have := HB8E.out; show _ ≠ _; omega
          go_loopw [9] (fun i wr => ∃ (c : Nat) (z : Int), c ≤ m ∧ i = .int .i64 z ∧ z = (c : Int) - 1 ∧ CsAt wr (b3 + 1) (ssC (fqL T nul bg Y (Y LF) (RR.drop c)).1) 88 ∧ CsAt wr b8 (setC zc 0 (fqL T nul bg Y (Y LF) (RR.drop c)).2) 86 ∧ But (b3 + 1) w8 wr) (fun i _ => (intOf i + 1).toNat)
          case atStart => exact ⟨m, (m : Int) - 1, Nat.le_refl _, rfl, rfl, by rw [HDM.out, HFN.out]; exact HCW.out, by rw [HDM.out, HFN.out]; exact HNXC.out, HBW.out⟩
          case round =>
            obtain ⟨c, z, hc, rfl, hz', hcs, hnx, hb8⟩ := hrel
            have HQC := hidD hcs
            have HQN := hidD hnx
            have HQ8 := hidD hb8
            have HPW : Hid (∀ o, wr.cell? ⟨p, o, none⟩ = w.cell? ⟨p, o, none⟩) := fun o => (hb8.cell (by have := HG8.out; have := HB8E.out; have := HLE3.out; have := HGP.out; omega) (by have := HLE3.out; omega)).trans ((HBU8.out.cell (by have := HGW.out; have := HLE3.out; omega) (by have := HLE3.out; omega)).trans (HB4.out.cell (p := ⟨p, o, none⟩) HGP.out))
            cases c with
            | zero =>
              obtain rfl : z = -1 := by omega
              rw [HD0.out] at HQC
              have HBE : Hid (But (b3 + 1) w4 wr) := HBU8.out.trans hb8
              have HCE : Hid (CsAt wr bk (ssC X) 88) := (hb8.rest bk HCB8.out.lt (fun e => HBI.out e.symm)).trans HCB8.out
              clear hcs hnx hb8 hz'
              go_wp2_with fail
              go_roundw
              case rel => exact ⟨k + 1, by omega, by go_num, by rw [HNK.out]; exact HQC.out, HCE.out, HBE.out⟩
              case measure => simp [intOf]; omega
            | succ d =>
              obtain rfl : z = (d : Int) := by omega
              clear hz'
              have hdm : (d : Int) < m := by omega
              obtain ⟨s, hs, hsn⟩ := HRS.out d (by omega)
              obtain ⟨gs, os, rfl, hgs, hcs2⟩ := HRCL.out d (by omega)
              rw [hs] at hcs2
              rw [HGG.out] at hgs
              have hc7 : CsAt wr b7 #[.int .i64 (LF : Int), .slice (some ⟨gs, os, none⟩) m c2] 63 := (hb8.rest b7 HR8.out.lt HNE5.out.1).trans HR8.out
              have f1 : wr.cell? ⟨b7, 1, none⟩ = some (.slice (some ⟨gs, os, none⟩) m c2) := hc7.cell 1
              have f4 : wr.cell? ⟨gs, os + d, none⟩ = some (.int .i64 (s : Int)) := (hb8.cell (by have := HG8.out; have := HB8E.out; have := HLE3.out; omega) (by have := HLE3.out; omega)).trans ((HBU8.out.cell (by have := HGW.out; have := HLE3.out; omega) (by have := HLE3.out; omega)).trans ((HB4.out.cell (p := ⟨gs, os + d, none⟩) hgs).trans hcs2))
              have f5 : wr.cell? ⟨p, 2, none⟩ = some (.int .i64 (T : Int)) := (HPW.out 2).trans HPT.out
              have HSTEP := hidD (HFC.out (RR.getD d 0) (RR.drop (d + 1)))
              rw [← HDR.out d (by have := HMM.out; omega), hs, Int.toNat_natCast] at HSTEP
              have HTT := hidD (HFT.out (RR.drop (d + 1)))
              have hs128 : (s : Int) < 128 := by omega
              have hsb : s < 128 := by omega
              have hBGS := HBG.out s hsb
              have HG0 := hidD hBGS.c0
              have HG1 := hidD hBGS.c1
              clear hcs hnx hb8 hcs2 hs hc7 hBGS
              generalize hS : (fqL T nul bg Y (Y LF) (RR.drop (d + 1))).1 = S at *
              generalize hN : (fqL T nul bg Y (Y LF) (RR.drop (d + 1))).2 = N at *
              clear hS hN
              have HJ1 := hidD (fun w' (hw' : CsAt w' (b3 + 1) (ssC S) 88) => setJoin_any (S s) N (b3 + 1) (s * 2) HTT.out.2 w' hw' (ss_in hsb (HTT.out.1 s)))
              rw [ss_set hsb (or_top (HTT.out.1 s) HTT.out.2)] at HJ1
              have HJ2 := hidD (fun M (hM : M < Top) w' (hw' : CsAt w' b8 (setC zc 0 M) 86) => setJoin_any M (bg s) b8 0 (HBT.out s) w' hw' (HSI.out M hM))
              have HJ3 : Hid (∀ M, M < Top → ∀ w', CsAt w' b8 (setC zc 0 M) 86 → Calls Tryd.prog 68 #[.pointer (some ⟨b8, 0, none⟩), setV (bg s)] w' fun e w'' => e = .returned (.tuple #[]) ∧ CsAt w'' b8 (setC zc 0 (M ||| bg s)) 86 ∧ But b8 w' w'') := fun M hM w' hw' => by
                have := HJ2.out M hM w' hw'
                rw [HST.out _ _ (or_top hM (HBT.out s))] at this
                exact this
              have HHAS := hidD (fun w' => setHas_any nul HNT.out s hsb w')
              have HN0 := hidD (HSI.out N HTT.out.2).c0
              have HN1 := hidD (HSI.out N HTT.out.2).c1
              unfold setV at HJ1 HJ3 HHAS
              clear HJ2
              generalize hx0 : lw N = x0 at *
              generalize hx1 : hw N = x1 at *
              generalize hg0 : lw (bg s) = g0 at *
              generalize hg1 : hw (bg s) = g1 at *
              generalize hn0 : lw nul = n0 at *
              generalize hn1 : hw nul = n1 at *
              clear hx0 hx1 hg0 hg1 hn0 hn1
              have HG8B : Hid (b3 + 1 ≤ w8.heap.size) := by have := HG8.out; have := HB8E.out; show _ ≤ _; omega
              have HPNE : Hid (p ≠ b8) := by have := HG8.out; have := HB8E.out; have := HLE3.out; have := HGP.out; show _ ≠ _; omega
              have HPLW : Hid (p < wr.heap.size) := by have := HQC.out.lt; have := HLE3.out; have := HGP.out; show _ < _; omega
              by_cases hTs : T ≤ s
              · have hTsi : (T : Int) ≤ (s : Int) := by omega
                rw [if_pos hTs] at HSTEP
                generalize hSX : upd S s (S s ||| N) = SX at *
                clear hTs
                have k0 : ∀ i : KB wr [b8], i.v.cell? ⟨b8, 0, none⟩ = some (.int .u64 (x0 : Int)) := fun i => (i.cell (b := b8) (by simp) _).trans ((HQN.out.cell 0).trans HN0.out)
                have k1 : ∀ i : KB wr [b8], i.v.cell? ⟨b8, 1, none⟩ = some (.int .u64 (x1 : Int)) := fun i => (i.cell (b := b8) (by simp) _).trans ((HQN.out.cell 1).trans HN1.out)
                have HBD : Hid (Below wr.heap.size wr wr.drew) := (Below.refl _ _).drew
                go_wp2_with fail
                refine wp_region_seg [0, 0, 0, 99] 0 3 [b8] (by kernel_rfl) (by kernel_rfl) (by kernel_rfl) (by kernel_rfl) (by kernel_rfl) (by kernel_rfl) (by kernel_rfl) (by kernel_rfl) (fun _ _ _ _ _ h => h) ?_
                simp only [SegW, pk, Nat.reduceMul, Nat.reduceBEq, cond_true, cond_false]
                repeat (go_big_quiet_step (fail))
                refine wpQuiet_nil ?_
                clear k0 k1
                cases hb : nul.testBit s with
                | true =>
                  rw [hb] at HHAS HSTEP
                  rw [if_pos rfl] at HSTEP
                  clear hb
                  go_upto_region 16 with (go_at_call 68; refine (HJ1.out wr.drew HQC.out).mono ?_; rintro e w10 ⟨rfl, hc10, hb10⟩; have HC10 := hidD hc10; have HB10 := hidD ((HQ8.out.next HBD.out HG8B.out).trans hb10); have HN10 : Hid (CsAt w10 b8 (setC zc 0 N) 86) := (hb10.rest b8 HQN.out.lt HBNE.out).trans HQN.out; have HP10 : Hid (∀ o, w10.cell? ⟨p, o, none⟩ = w.cell? ⟨p, o, none⟩) := fun o => (hb10.cell HPLW.out (by have := HLE3.out; have := HGP.out; omega)).trans (HPW.out o); have HPL10 : Hid (p < w10.heap.size) := Nat.lt_of_lt_of_le HPLW.out hb10.bel.size; have m0 : w10.cell? ⟨p, 5, none⟩ = some (.int .u64 (n0 : Int)) := (HP10.out _).trans HC0.out; have m1 : w10.cell? ⟨p, 6, none⟩ = some (.int .u64 (n1 : Int)) := (HP10.out _).trans HC1.out; clear hc10 hb10)
                  go_wp2_with (first
                    | (go_at_call 64; refine (HHAS.out _).mono ?_; rintro e w11 ⟨rfl, hb11⟩; have HC11 := hidD (HC10.out.next hb11); have HN11 := hidD (HN10.out.next hb11); have HB11 := hidD (HB10.out.next hb11 HG8B.out); have HP11 : Hid (∀ o, w11.cell? ⟨p, o, none⟩ = w.cell? ⟨p, o, none⟩) := fun o => (hb11.cell (p := ⟨p, o, none⟩) HPL10.out).trans (HP10.out o); have b0 : w11.cell? ⟨p, 7 + s * 2, none⟩ = some (.int .u64 (g0 : Int)) := (HP11.out _).trans HG0.out; have b1 : w11.cell? ⟨p, 7 + s * 2 + 1, none⟩ = some (.int .u64 (g1 : Int)) := (HP11.out _).trans HG1.out; clear hb11)
                    | (go_at_call 68; refine (HJ3.out N HTT.out.2 _ HN11.out).mono ?_; rintro e w13 ⟨rfl, hc13, hb13⟩; have HN13 := hidD hc13; have HC13 : Hid (CsAt w13 (b3 + 1) (ssC SX) 88) := (hb13.rest (b3 + 1) HC11.out.lt (fun e => HBNE.out e.symm)).trans HC11.out; have HB13 := hidD (HB11.out.far HG8B.out (Nat.le_of_eq HB8E.out) hb13); clear hc13 hb13))
                  go_roundw
                  case rel => exact ⟨d, (d : Int) - 1, by omega, by go_num, rfl, by rw [HSTEP.out]; exact HC13.out, by rw [HSTEP.out]; exact HN13.out, HB13.out⟩
                  case measure => simp [intOf]
                | false =>
                  rw [hb] at HHAS HSTEP
                  rw [if_neg (by decide)] at HSTEP
                  clear hb
                  go_upto_region 16 with (go_at_call 68; refine (HJ1.out wr.drew HQC.out).mono ?_; rintro e w10 ⟨rfl, hc10, hb10⟩; have HC10 := hidD hc10; have HB10 := hidD ((HQ8.out.next HBD.out HG8B.out).trans hb10); have HN10 : Hid (CsAt w10 b8 (setC zc 0 N) 86) := (hb10.rest b8 HQN.out.lt HBNE.out).trans HQN.out; have HP10 : Hid (∀ o, w10.cell? ⟨p, o, none⟩ = w.cell? ⟨p, o, none⟩) := fun o => (hb10.cell HPLW.out (by have := HLE3.out; have := HGP.out; omega)).trans (HPW.out o); have HPL10 : Hid (p < w10.heap.size) := Nat.lt_of_lt_of_le HPLW.out hb10.bel.size; have m0 : w10.cell? ⟨p, 5, none⟩ = some (.int .u64 (n0 : Int)) := (HP10.out _).trans HC0.out; have m1 : w10.cell? ⟨p, 6, none⟩ = some (.int .u64 (n1 : Int)) := (HP10.out _).trans HC1.out; clear hc10 hb10)
                  go_wp2_with (first
                    | (go_at_call 64; refine (HHAS.out _).mono ?_; rintro e w11 ⟨rfl, hb11⟩; have HC11 := hidD (HC10.out.next hb11); have HN11 := hidD (HN10.out.next hb11); have HB11 := hidD (HB10.out.next hb11 HG8B.out); have HP11 : Hid (∀ o, w11.cell? ⟨p, o, none⟩ = w.cell? ⟨p, o, none⟩) := fun o => (hb11.cell (p := ⟨p, o, none⟩) HPL10.out).trans (HP10.out o); have z0 : w11.cell? ⟨b8, 0, none⟩ = some (.int .u64 (x0 : Int)) := (HN11.out.cell 0).trans HN0.out; have z1 : w11.cell? ⟨b8, 1, none⟩ = some (.int .u64 (x1 : Int)) := (HN11.out.cell 1).trans HN1.out; have z2 := HN11.out.frz 0; have z3 := HN11.out.frz 1; have HB12 : Hid (But b8 w11 ((w11.setCell ⟨b8, 0, none⟩ (.int .u64 0)).setCell ⟨b8, 1, none⟩ (.int .u64 0))) := ((But.refl b8 w11).put 0 _).put 1 _; have HN12 : Hid (CsAt ((w11.setCell ⟨b8, 0, none⟩ (.int .u64 0)).setCell ⟨b8, 1, none⟩ (.int .u64 0)) b8 (setC zc 0 0) 86) := by { have := (HN11.out.put 0 (.int .u64 0)).put 1 (.int .u64 0); rw [← HST.out N 0 (by decide)]; exact this }; have HPL11 : Hid (p < w11.heap.size) := Nat.lt_of_lt_of_le HPL10.out hb11.size; have b0 : ((w11.setCell ⟨b8, 0, none⟩ (.int .u64 0)).setCell ⟨b8, 1, none⟩ (.int .u64 0)).cell? ⟨p, 7 + s * 2, none⟩ = some (.int .u64 (g0 : Int)) := (HB12.out.cell HPL11.out HPNE.out).trans ((HP11.out _).trans HG0.out); have b1 : ((w11.setCell ⟨b8, 0, none⟩ (.int .u64 0)).setCell ⟨b8, 1, none⟩ (.int .u64 0)).cell? ⟨p, 7 + s * 2 + 1, none⟩ = some (.int .u64 (g1 : Int)) := (HB12.out.cell HPL11.out HPNE.out).trans ((HP11.out _).trans HG1.out); have HC12 : Hid (CsAt ((w11.setCell ⟨b8, 0, none⟩ (.int .u64 0)).setCell ⟨b8, 1, none⟩ (.int .u64 0)) (b3 + 1) (ssC SX) 88) := (HB12.out.rest (b3 + 1) HC11.out.lt (fun e => HBNE.out e.symm)).trans HC11.out; have HB12X : Hid (But (b3 + 1) w8 ((w11.setCell ⟨b8, 0, none⟩ (.int .u64 0)).setCell ⟨b8, 1, none⟩ (.int .u64 0))) := HB11.out.far HG8B.out (Nat.le_of_eq HB8E.out) HB12.out; clear hb11)
                    | (go_at_call 68; refine (HJ3.out 0 (by decide) _ HN12.out).mono ?_; rintro e w13 ⟨rfl, hc13, hb13⟩; have HN13 := hidD hc13; have HC13 : Hid (CsAt w13 (b3 + 1) (ssC SX) 88) := (hb13.rest (b3 + 1) HC12.out.lt (fun e => HBNE.out e.symm)).trans HC12.out; have HB13 := hidD (HB12X.out.far HG8B.out (Nat.le_of_eq HB8E.out) hb13); clear hc13 hb13))
                  go_roundw
                  case rel => exact ⟨d, (d : Int) - 1, by omega, by go_num, rfl, by rw [HSTEP.out]; exact HC13.out, by rw [HSTEP.out]; exact HN13.out, HB13.out⟩
                  case measure => simp [intOf]
              · have hTsi : ¬ (T : Int) ≤ (s : Int) := by omega
                rw [if_neg hTs] at HSTEP
                clear hTs
                obtain ⟨SX, hSX⟩ : ∃ SX, SX = S := ⟨_, rfl⟩
                subst hSX
                have HC10 := hidD HQC.out
                have HN10 := hidD HQN.out
                have HB10 := hidD HQ8.out
                have HP10 := hidD HPW.out
                have HPL10 := hidD HPLW.out
                have m0 : wr.cell? ⟨p, 5, none⟩ = some (.int .u64 (n0 : Int)) := (HP10.out _).trans HC0.out
                have m1 : wr.cell? ⟨p, 6, none⟩ = some (.int .u64 (n1 : Int)) := (HP10.out _).trans HC1.out
                cases hb : nul.testBit s with
                | true =>
                  rw [hb] at HHAS HSTEP
                  rw [if_pos rfl] at HSTEP
                  clear hb
                  go_wp2_with (first
                    | (go_at_call 64; refine (HHAS.out _).mono ?_; rintro e w11 ⟨rfl, hb11⟩; have HC11 := hidD (HC10.out.next hb11); have HN11 := hidD (HN10.out.next hb11); have HB11 := hidD (HB10.out.next hb11 HG8B.out); have HP11 : Hid (∀ o, w11.cell? ⟨p, o, none⟩ = w.cell? ⟨p, o, none⟩) := fun o => (hb11.cell (p := ⟨p, o, none⟩) HPL10.out).trans (HP10.out o); have b0 : w11.cell? ⟨p, 7 + s * 2, none⟩ = some (.int .u64 (g0 : Int)) := (HP11.out _).trans HG0.out; have b1 : w11.cell? ⟨p, 7 + s * 2 + 1, none⟩ = some (.int .u64 (g1 : Int)) := (HP11.out _).trans HG1.out; clear hb11)
                    | (go_at_call 68; refine (HJ3.out N HTT.out.2 _ HN11.out).mono ?_; rintro e w13 ⟨rfl, hc13, hb13⟩; have HN13 := hidD hc13; have HC13 : Hid (CsAt w13 (b3 + 1) (ssC SX) 88) := (hb13.rest (b3 + 1) HC11.out.lt (fun e => HBNE.out e.symm)).trans HC11.out; have HB13 := hidD (HB11.out.far HG8B.out (Nat.le_of_eq HB8E.out) hb13); clear hc13 hb13))
                  go_roundw
                  case rel => exact ⟨d, (d : Int) - 1, by omega, by go_num, rfl, by rw [HSTEP.out]; exact HC13.out, by rw [HSTEP.out]; exact HN13.out, HB13.out⟩
                  case measure => simp [intOf]
                | false =>
                  rw [hb] at HHAS HSTEP
                  rw [if_neg (by decide)] at HSTEP
                  clear hb
                  go_wp2_with (first
                    | (go_at_call 64; refine (HHAS.out _).mono ?_; rintro e w11 ⟨rfl, hb11⟩; have HC11 := hidD (HC10.out.next hb11); have HN11 := hidD (HN10.out.next hb11); have HB11 := hidD (HB10.out.next hb11 HG8B.out); have HP11 : Hid (∀ o, w11.cell? ⟨p, o, none⟩ = w.cell? ⟨p, o, none⟩) := fun o => (hb11.cell (p := ⟨p, o, none⟩) HPL10.out).trans (HP10.out o); have z0 : w11.cell? ⟨b8, 0, none⟩ = some (.int .u64 (x0 : Int)) := (HN11.out.cell 0).trans HN0.out; have z1 : w11.cell? ⟨b8, 1, none⟩ = some (.int .u64 (x1 : Int)) := (HN11.out.cell 1).trans HN1.out; have z2 := HN11.out.frz 0; have z3 := HN11.out.frz 1; have HB12 : Hid (But b8 w11 ((w11.setCell ⟨b8, 0, none⟩ (.int .u64 0)).setCell ⟨b8, 1, none⟩ (.int .u64 0))) := ((But.refl b8 w11).put 0 _).put 1 _; have HN12 : Hid (CsAt ((w11.setCell ⟨b8, 0, none⟩ (.int .u64 0)).setCell ⟨b8, 1, none⟩ (.int .u64 0)) b8 (setC zc 0 0) 86) := by { have := (HN11.out.put 0 (.int .u64 0)).put 1 (.int .u64 0); rw [← HST.out N 0 (by decide)]; exact this }; have HPL11 : Hid (p < w11.heap.size) := Nat.lt_of_lt_of_le HPL10.out hb11.size; have b0 : ((w11.setCell ⟨b8, 0, none⟩ (.int .u64 0)).setCell ⟨b8, 1, none⟩ (.int .u64 0)).cell? ⟨p, 7 + s * 2, none⟩ = some (.int .u64 (g0 : Int)) := (HB12.out.cell HPL11.out HPNE.out).trans ((HP11.out _).trans HG0.out); have b1 : ((w11.setCell ⟨b8, 0, none⟩ (.int .u64 0)).setCell ⟨b8, 1, none⟩ (.int .u64 0)).cell? ⟨p, 7 + s * 2 + 1, none⟩ = some (.int .u64 (g1 : Int)) := (HB12.out.cell HPL11.out HPNE.out).trans ((HP11.out _).trans HG1.out); have HC12 : Hid (CsAt ((w11.setCell ⟨b8, 0, none⟩ (.int .u64 0)).setCell ⟨b8, 1, none⟩ (.int .u64 0)) (b3 + 1) (ssC SX) 88) := (HB12.out.rest (b3 + 1) HC11.out.lt (fun e => HBNE.out e.symm)).trans HC11.out; have HB12X : Hid (But (b3 + 1) w8 ((w11.setCell ⟨b8, 0, none⟩ (.int .u64 0)).setCell ⟨b8, 1, none⟩ (.int .u64 0))) := HB11.out.far HG8B.out (Nat.le_of_eq HB8E.out) HB12.out; clear hb11)
                    | (go_at_call 68; refine (HJ3.out 0 (by decide) _ HN12.out).mono ?_; rintro e w13 ⟨rfl, hc13, hb13⟩; have HN13 := hidD hc13; have HC13 : Hid (CsAt w13 (b3 + 1) (ssC SX) 88) := (hb13.rest (b3 + 1) HC12.out.lt (fun e => HBNE.out e.symm)).trans HC12.out; have HB13 := hidD (HB12X.out.far HG8B.out (Nat.le_of_eq HB8E.out) hb13); clear hc13 hb13))
                  go_roundw
                  case rel => exact ⟨d, (d : Int) - 1, by omega, by go_num, rfl, by rw [HSTEP.out]; exact HC13.out, by rw [HSTEP.out]; exact HN13.out, HB13.out⟩
                  case measure => simp [intOf]
      · obtain rfl : rn = k := by omega
        obtain ⟨r, hrun, hriff⟩ := eqSets (ss_ws (fun x _ => HYT.out x)) (ss_ws (S := X) (fun x _ => HXT.out x)) wr
        rw [ws_eq] at hriff
        have HLY : Hid (wr.heap[b3 + 1]? = some (.cells (ssC (fpTo R RE T nul bg X rn)) 88 (0, 0))) := hcs
        have HLB : Hid (wr.heap[bk]? = some (.cells (ssC X) 88 (0, 0))) := hcb
        have HLR : Hid (wr.heap[g]? = some (.cells ZZ 88 (0, 0))) := (hbut.rest g HR4.out.lt (by have := HLE3.out; omega)).trans HR4.out
        have HIF := hidD hriff
        have HGEX : Hid (∀ x, X x ≤ fpTo R RE T nul bg X rn x) := fun x => fp_ge R RE T nul bg X x rn
        have HIE : Hid (fpIt R RE T nul bg (foI st T) (j + 1) = fpTo R RE T nul bg X rn) := HXN.out
        have HMY : Hid (msS (rdX wr (b3 + 1)) 128 = msS (fpTo R RE T nul bg X rn) 128) := ms_congr 128 fun x hx => rdX_of hcs hx
        have HMX : Hid (msS (rdX wo (b3 + 1)) 128 = msS X 128) := ms_congr 128 fun x hx => rdX_of HCS.out hx
        have HZS : Hid (ZZ.size = 256) := by show _ = _; rw [← HZZ.out]; exact ss_size _
        have HFIX : Hid ((∀ x, x < 128 → fpTo R RE T nul bg X rn x = X x) → FoIs R n T st nul bg X) := fun h => ⟨RE, j, HRI.out, HX.out.symm, by rw [HRN.out]; exact h⟩
        have HEXT : Hid ((∀ x, x < 128 → fpTo R RE T nul bg X rn x = X x) → ssC (fpTo R RE T nul bg X rn) = ssC X) := fun h => ss_ext h
        clear hcs hcb hbut hriff
        generalize hYY : fpTo R RE T nul bg X rn = Y at *
        have HYY := hidD hYY
        clear hYY
        generalize hCY : ssC Y = CY at *
        generalize hCX : ssC X = CX at *
        have hiY : (Tryd.prog.info? 88).map (·.size) = some CY.size := by rw [← hCY]; exact HI66.out Y
        have hiX : (Tryd.prog.info? 88).map (·.size) = some CX.size := by rw [← hCX]; exact HI66.out X
        have HONY : Hid (CY.all (·.oneCell') = true) := by show _ = _; rw [← hCY]; exact HONE.out Y
        have HSY : Hid (CY.size = 256) := by show _ = _; rw [← hCY]; exact HSZ.out Y
        have HCY := hidD hCY
        have HCX := hidD hCX
        clear hCY hCX
        cases r with
        | true =>
          have hall := HIF.out.1 rfl
          have HFX := hidD (HFIX.out hall)
          have HEE := hidD (HEXT.out hall)
          clear hall
          go_wp2_with (first | (refine wpList_load_row rfl 88 _ rfl (b3 + 1) rfl 88 CY (0, 0) _ HLY.out Tryd.under66 rfl hiY ?_) | (refine wpList_load_row rfl 88 _ rfl bk rfl 88 CX (0, 0) _ HLB.out Tryd.under66 rfl hiX ?_) | (refine wpList_store_row rfl 88 _ _ rfl g CY rfl rfl 88 ZZ HLR.out hiY (by rw [HSY.out, HZS.out]) HONY.out ?_))
          refine bodyPost_ret (results_cell_row (P := Tryd.prog) (p := 2) (ty := 88) (by kernel_rfl) _ _ g 88 CY (0, 0) _ rfl (setRow_heap _ _ ZZ CY 88 (0, 0) HLR.out) Tryd.under66 rfl hiY) rfl ?_
          exact ⟨X, by rw [HCX.out, HEE.out], HXT.out, HFX.out, by rw [HGG.out]; exact below_setRow (HB4.out.trans (HBUK.out.bel.mono (by have := HLE3.out; omega))) (Nat.le_refl _) _⟩
        | false =>
          have HLT : Hid (msS Y 128 < msS X 128) := by
            refine ms_lt 128 (fun x _ => HGEX.out x) (fun x _ => HYT.out x) ?_
            refine Classical.byContradiction fun hno => ?_
            have := HIF.out.2 fun x hx => Classical.byContradiction fun hne => hno ⟨x, hx, fun e => hne e.symm⟩
            cases this
          go_wp2_with (first | (refine wpList_load_row rfl 88 _ rfl (b3 + 1) rfl 88 CY (0, 0) _ HLY.out Tryd.under66 rfl hiY ?_) | (refine wpList_load_row rfl 88 _ rfl bk rfl 88 CX (0, 0) _ HLB.out Tryd.under66 rfl hiX ?_))
          try rw [Exit.noGoto_normal]
          go_roundw
          case rel => exact ⟨j + 1, by rw [HIE.out, HCY.out]; exact HCK.out, HBUK.out⟩
          case measure =>
            have h1 := HLT.out
            have h3 := HMY.out
            have h4 := HMX.out
            simp only [h3, h4]
            exact h1
end Go.Proofs.YtgmbkelmgolkpaaDoor
